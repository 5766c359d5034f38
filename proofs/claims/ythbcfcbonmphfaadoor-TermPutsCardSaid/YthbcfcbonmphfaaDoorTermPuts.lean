/- TermPuts: whatever the signature, the two terms and the two paths, the law answers true and leaves them as they were. -/
import Derived.Test.YthbcfcbonmphfaaDoorTermRepl
import Derived.Test.YthbcfcbonmphfaaDoorTermI
import Derived.Test.YthbcfcbonmphfaaDoorTermPath
import Derived.Test.YthbcfcbonmphfaaDoorTermWide
import Derived.Test.YthbcfcbonmphfaaDoorLexNames
import Derived.Test.YthbcfcbonmphfaaDoorTermOpen
namespace Go.Proofs.YthbcfcbonmphfaaDoor
open Go.RowKit Go.Shelf
set_option maxRecDepth 100000

/-! ### what is put is there, and all else stays -/
theorem set_at {α : Type} {l : List α} {n : Nat} {x y : α} (h : l[n]? = some y) : (l.set n x)[n]? = some x := by
  obtain ⟨hn, _⟩ := List.getElem?_eq_some_iff.1 h
  rw [List.getElem?_set_self hn]
theorem tm_eta (t : Tm) : Tm.mk t.nm t.st t.ks = t := by cases t; rfl
theorem sub_put : ∀ (L : List Int) (t s u : Tm), subAt t L = some s → subAt (putAt t L u) L = some u
  | [], t, s, u, _ => by unfold putAt subAt; rfl
  | i :: is, t, s, u, h => by
    obtain ⟨n, k, rfl, hk, hs⟩ := subAt_cons h
    rw [putAt_cons is u hk]
    have h2 : (Tm.mk t.nm t.st (t.ks.set n (putAt k is u))).ks[n]? = some (putAt k is u) := set_at hk
    rw [subAt_at is h2]
    exact sub_put is k s u hs
theorem put_back : ∀ (L : List Int) (t s u : Tm), subAt t L = some s → putAt (putAt t L u) L s = t
  | [], t, s, u, h => by unfold putAt; unfold subAt at h; injection h with h; exact h.symm
  | i :: is, t, s, u, h => by
    obtain ⟨n, k, rfl, hk, hs⟩ := subAt_cons h
    rw [putAt_cons is u hk]
    have h2 : (Tm.mk t.nm t.st (t.ks.set n (putAt k is u))).ks[n]? = some (putAt k is u) := set_at hk
    rw [putAt_cons is s h2, put_back is k s u hs]
    show Tm.mk t.nm t.st ((t.ks.set n (putAt k is u)).set n k) = t
    rw [List.set_set]
    obtain ⟨hn, hk'⟩ := List.getElem?_eq_some_iff.1 hk
    have : t.ks.set n k = t.ks := by rw [← hk', List.set_getElem_self]
    rw [this, tm_eta]
theorem put_beside : ∀ (L M : List Int) (t s u : Tm), subAt t L = some s → L.take (min L.length M.length) ≠ M.take (min L.length M.length) → subAt (putAt t L u) M = subAt t M
  | [], M, t, s, u, _, hne => by simp at hne
  | i :: is, [], t, s, u, _, hne => by simp at hne
  | i :: is, j :: js, t, s, u, h, hne => by
    obtain ⟨n, k, rfl, hk, hs⟩ := subAt_cons h
    rw [putAt_cons is u hk]
    have hlen : (t.ks.set n (putAt k is u)).length = t.ks.length := List.length_set
    have hmin : min ((↑n :: is : List Int)).length (j :: js).length = min is.length js.length + 1 := by simp only [List.length_cons]; omega
    rw [hmin, List.take_succ_cons, List.take_succ_cons] at hne
    by_cases hj : j < 0 ∨ (t.ks.length : Int) ≤ j
    · unfold subAt
      rw [if_pos hj, if_pos (by show j < 0 ∨ ((t.ks.set n (putAt k is u)).length : Int) ≤ j; rw [hlen]; exact hj)]
    · obtain ⟨m, rfl⟩ : ∃ m : Nat, j = (m : Int) := ⟨j.toNat, by omega⟩
      have hm : m < t.ks.length := by omega
      have hkm : t.ks[m]? = some t.ks[m] := List.getElem?_eq_getElem hm
      by_cases he : m = n
      · subst he
        have h2 : (Tm.mk t.nm t.st (t.ks.set m (putAt k is u))).ks[m]? = some (putAt k is u) := set_at hk
        rw [subAt_at js h2, subAt_at js hk]
        exact put_beside is js k s u hs (fun e => hne (by rw [e]))
      · have h2 : (Tm.mk t.nm t.st (t.ks.set n (putAt k is u))).ks[m]? = some t.ks[m] := by
          show (t.ks.set n (putAt k is u))[m]? = _
          rw [List.getElem?_set_ne (by omega), hkm]
        rw [subAt_at js h2, subAt_at js hkm]

/-! ### parts of well-formed terms -/
mutual
theorem pre_snd : ∀ (t : Tm) (d d' : Nat), (t.pre d).map Prod.snd = (t.pre d').map Prod.snd
  | .mk nm st ks, d, d' => by simp [Tm.pre, pres_snd ks (d + 1) (d' + 1)]
theorem pres_snd : ∀ (ks : List Tm) (d d' : Nat), (pres d ks).map Prod.snd = (pres d' ks).map Prod.snd
  | [], _, _ => by simp [pres]
  | k :: ks, d, d' => by simp [pres, pre_snd k d d', pres_snd ks d d']
end
/-- The nodes of a term. -/
def nds (t : Tm) : List Tm := (t.pre 1).map Prod.snd
theorem pres_kid : ∀ (ks : List Tm) (d : Nat) (x : Tm), x ∈ (pres d ks).map Prod.snd ↔ ∃ k, k ∈ ks ∧ x ∈ nds k
  | [], d, x => by simp [pres]
  | k :: ks, d, x => by
    rw [pres, List.map_append, List.mem_append, pres_kid ks d x, pre_snd k d 1]
    constructor
    · rintro (h | ⟨y, hy, h⟩)
      · exact ⟨k, List.mem_cons_self, h⟩
      · exact ⟨y, List.mem_cons_of_mem _ hy, h⟩
    · rintro ⟨y, hy, h⟩
      rcases List.mem_cons.1 hy with rfl | hy
      · exact .inl h
      · exact .inr ⟨y, hy, h⟩
theorem nds_mem {t x : Tm} : x ∈ nds t ↔ x = t ∨ ∃ k, k ∈ t.ks ∧ x ∈ nds k := by
  obtain ⟨nm, st, ks⟩ := t
  unfold nds
  rw [Tm.pre, List.map_cons, List.mem_cons, pres_kid]
  rfl
theorem nds_self (t : Tm) : t ∈ nds t := nds_mem.2 (.inl rfl)
theorem nds_kid {t k x : Tm} (hk : k ∈ t.ks) (hx : x ∈ nds k) : x ∈ nds t := nds_mem.2 (.inr ⟨k, hk, hx⟩)
theorem nds_sub : ∀ (L : List Int) (t s : Tm), subAt t L = some s → ∀ x, x ∈ nds s → x ∈ nds t
  | [], t, s, h, x, hx => by unfold subAt at h; injection h with h; rw [h]; exact hx
  | i :: is, t, s, h, x, hx => by
    obtain ⟨n, k, rfl, hk, hs⟩ := subAt_cons h
    exact nds_kid (List.mem_of_getElem? hk) (nds_sub is k s hs x hx)
theorem nds_pre {t : Tm} {P : Tm → Prop} : (∀ x, x ∈ nds t → P x) ↔ ∀ x ∈ t.pre 1, P x.2 := by
  unfold nds
  simp only [List.mem_map]
  exact ⟨fun h x hx => h x.2 ⟨x, hx, rfl⟩, fun h x ⟨y, hy, e⟩ => e ▸ h y hy⟩
theorem fitsL_of {t : Tm} (h1 : t.size ≤ 1000) (h2 : t.depth ≤ 60) (h3 : ∀ x, x ∈ nds t → x.ks.length ≤ 6) : fitsL (t.pre 1) = true := by
  unfold fitsL
  rw [Tm.pre_length, decide_eq_true h1, Bool.true_and, List.all_eq_true]
  intro x hx
  unfold fitX
  have hd := (Tm.pre_depth t 1 x hx).1
  rw [decide_eq_true (show x.1 ≤ 60 by omega), decide_eq_true (nds_pre.1 h3 x hx)]; rfl
theorem formed_iff {t : Tm} : formed t = true ↔ fitsL (t.pre 1) = true ∧ (∀ x, x ∈ nds t → namedT x = true) ∧ ∀ x, x ∈ nds t → ∀ y, y ∈ nds t → isV x = true → isV y = true → x.nm = y.nm → x.st = y.st := by
  unfold formed
  rw [Bool.and_eq_true, Bool.and_eq_true, agreeL_iff, List.all_eq_true, and_assoc]
  refine and_congr_right fun _ => and_congr (nds_pre (P := fun x => namedT x = true)).symm ?_
  rw [nds_pre (P := fun x => ∀ y, y ∈ nds t → isV x = true → isV y = true → x.nm = y.nm → x.st = y.st)]
  exact forall_congr' fun x => forall_congr' fun _ => (nds_pre (P := fun y => isV x.2 = true → isV y = true → x.2.nm = y.nm → x.2.st = y.st)).symm
theorem fitsL_len {t : Tm} (h : fitsL (t.pre 1) = true) : ∀ x, x ∈ nds t → x.ks.length ≤ 6 := by
  unfold fitsL at h
  rw [Bool.and_eq_true, List.all_eq_true] at h
  refine nds_pre.2 fun x hx => ?_
  have := h.2 x hx
  unfold fitX at this
  simp at this
  exact this.2
theorem formed_sub {t s : Tm} {L : List Int} (ho : okB t) (h : formed t = true) (hs : subAt t L = some s) : formed s = true := by
  obtain ⟨h1, h2, h3⟩ := formed_iff.1 h
  obtain ⟨_, hsz, hdp⟩ := subAt_okB L t s ho hs
  obtain ⟨hd, hz⟩ := fitsL_depth h1
  have hN := nds_sub L t s hs
  exact formed_iff.2 ⟨fitsL_of (by omega) (by omega) (fun x hx => fitsL_len h1 x (hN x hx)), fun x hx => h2 x (hN x hx), fun x hx y hy => h3 x (hN x hx) y (hN y hy)⟩

/-! ### the sorts -/
theorem chkArgs_iff (D : List Dc) : ∀ (ks : List Tm) (bs : List ByteArray), chkArgs D ks bs = true ↔ ∀ (i : Nat) (k : Tm) (a : ByteArray), ks[i]? = some k → bs[i]? = some a → ¬ ((ownS D k).2 = true ∧ (ownS D k).1 ≠ a)
  | [], bs => by simp [chkArgs]
  | k :: ks, [] => by simp [chkArgs]
  | k :: ks, a :: bs => by
    rw [chkArgs]
    by_cases h : (ownS D k).2 = true ∧ (ownS D k).1 ≠ a
    · rw [if_pos h]
      exact ⟨fun e => (Bool.false_ne_true e).elim, fun e => absurd h (e 0 k a rfl rfl)⟩
    · rw [if_neg h, chkArgs_iff D ks bs]
      constructor
      · intro e i k' a' h1 h2
        cases i with
        | zero => simp at h1 h2; rw [← h1, ← h2]; exact h
        | succ i => exact e i k' a' (by simpa using h1) (by simpa using h2)
      · intro e i k' a' h1 h2
        exact e (i + 1) k' a' (by simpa using h1) (by simpa using h2)
theorem own_two {g : Sg} {x : Tm} (h : chk g x = 0) : (ownS g.ops x).2 = true := by
  unfold chk at h
  unfold ownS
  cases hv : isV x with
  | true => rfl
  | false =>
    rw [hv] at h
    cases hl : lookD g.ops x.nm with
    | none => rw [hl] at h; simp at h
    | some d => rfl
theorem own_same {D : List Dc} {x y : Tm} (h1 : x.nm = y.nm) (h2 : x.st = y.st) : ownS D x = ownS D y := by
  unfold ownS isV
  rw [h1, h2]
theorem named_kid {t k : Tm} (h : namedT t = true) (hk : k ∈ t.ks) : isV t = false := by
  cases hv : isV t with
  | false => rfl
  | true =>
    have hp : 0 < t.ks.length := by
      cases hks : t.ks with
      | nil => rw [hks] at hk; cases hk
      | cons a b => simp
    unfold namedT at h
    rw [hv, decide_eq_true hp] at h
    simp at h
/-- The node whose part is replaced. -/
theorem chk_set {g : Sg} {t k v : Tm} {n : Nat} (hn : namedT t = true) (hc : chk g t = 0) (hk : t.ks[n]? = some k) (hck : (ownS g.ops k).2 = true) (hcv : (ownS g.ops v).2 = true) :
    chk g (.mk t.nm t.st (t.ks.set n v)) = if (ownS g.ops k).1 = (ownS g.ops v).1 then 0 else 11 := by
  have hv := named_kid hn (List.mem_of_getElem? hk)
  have hv' : isV (.mk t.nm t.st (t.ks.set n v)) = false := hv
  cases hl : lookD g.ops t.nm with
  | none => rw [chk_none hv hl] at hc; cases hc
  | some d =>
    rw [chk_some hv hl] at hc
    rw [chk_some hv' hl]
    have hlen : (Tm.mk t.nm t.st (t.ks.set n v)).ks.length = t.ks.length := List.length_set
    by_cases hlk : t.ks.length ≠ d.args.length
    · rw [if_pos hlk] at hc; cases hc
    · rw [if_neg hlk] at hc
      rw [hlen, if_neg hlk]
      have ha : chkArgs g.ops t.ks d.args = true := by
        cases h : chkArgs g.ops t.ks d.args with
        | true => rfl
        | false => rw [h] at hc; cases hc
      rw [chkArgs_iff] at ha
      obtain ⟨hnl, _⟩ := List.getElem?_eq_some_iff.1 hk
      obtain ⟨a, haa⟩ : ∃ a, d.args[n]? = some a := ⟨d.args[n]'(by omega), List.getElem?_eq_getElem _⟩
      have hka : (ownS g.ops k).1 = a := by
        have := ha n k a hk haa
        by_cases e : (ownS g.ops k).1 = a
        · exact e
        · exact absurd ⟨hck, e⟩ this
      show (if chkArgs g.ops (t.ks.set n v) d.args = true then (0 : Int) else 11) = _
      by_cases he : (ownS g.ops k).1 = (ownS g.ops v).1
      · rw [if_pos he, if_pos]
        rw [chkArgs_iff]
        intro i k' a' h1 h2
        rcases set_get h1 with ⟨rfl, rfl⟩ | ⟨_, h1⟩
        · rw [haa] at h2
          injection h2 with h2
          rw [← he, hka, h2]
          exact fun h => h.2 rfl
        · exact ha i k' a' h1 h2
      · rw [if_neg he, if_neg]
        rw [chkArgs_iff]
        intro h
        exact h n v a (set_at hk) haa ⟨hcv, fun e => he (by rw [hka, e])⟩
theorem put_chk (g : Sg) : ∀ (L : List Int) (t s u : Tm), subAt t L = some s → (∀ x, x ∈ nds t → chk g x = 0) → (∀ x, x ∈ nds t → namedT x = true) → (∀ x, x ∈ nds u → chk g x = 0) →
    if L = [] ∨ (ownS g.ops s).1 = (ownS g.ops u).1 then (∀ x, x ∈ nds (putAt t L u) → chk g x = 0) else (∀ x, x ∈ nds (putAt t L u) → chk g x = 0 ∨ chk g x = 11) ∧ ∃ x, x ∈ nds (putAt t L u) ∧ chk g x = 11
  | [], t, s, u, h, ht, hn, hu => by rw [if_pos (Or.inl rfl)]; unfold putAt; exact hu
  | i :: is, t, s, u, h, ht, hn, hu => by
    obtain ⟨n, k, rfl, hk, hs⟩ := subAt_cons h
    have hkm := List.mem_of_getElem? hk
    have ih := put_chk g is k s u hs (fun x hx => ht x (nds_kid hkm hx)) (fun x hx => hn x (nds_kid hkm hx)) hu
    rw [putAt_cons is u hk]
    have hnds : ∀ x, x ∈ nds (Tm.mk t.nm t.st (t.ks.set n (putAt k is u))) → x = Tm.mk t.nm t.st (t.ks.set n (putAt k is u)) ∨ x ∈ nds (putAt k is u) ∨ x ∈ nds t := fun x hx => by
      rcases nds_mem.1 hx with h | ⟨y, hy, hx⟩
      · exact .inl h
      · rcases mem_set hy with rfl | hy
        · exact .inr (.inl hx)
        · exact .inr (.inr (nds_kid hy hx))
    have hkid : putAt k is u ∈ (Tm.mk t.nm t.st (t.ks.set n (putAt k is u))).ks := List.mem_of_getElem? (set_at hk)
    have hck := own_two (ht k (nds_kid hkm (nds_self k)))
    by_cases hnil : is = []
    · subst hnil
      have hks : k = s := by unfold subAt at hs; injection hs
      subst hks
      have hpu : putAt k [] u = u := by unfold putAt; rfl
      rw [hpu] at hnds ih hkid ⊢
      have hset := chk_set (v := u) (hn t (nds_self t)) (ht t (nds_self t)) hk hck (own_two (hu u (nds_self u)))
      by_cases he : (ownS g.ops k).1 = (ownS g.ops u).1
      · rw [if_pos (Or.inr he)]
        rw [if_pos he] at hset
        intro x hx
        rcases hnds x hx with rfl | hx | hx
        · exact hset
        · exact hu x hx
        · exact ht x hx
      · rw [if_neg (fun h => h.elim (fun h => List.cons_ne_nil _ _ h) he)]
        rw [if_neg he] at hset
        refine ⟨fun x hx => ?_, _, nds_self _, hset⟩
        rcases hnds x hx with rfl | hx | hx
        · exact .inr hset
        · exact .inl (hu x hx)
        · exact .inl (ht x hx)
    · obtain ⟨j, js, rfl⟩ : ∃ j js, is = j :: js := by
        cases is with
        | nil => exact absurd rfl hnil
        | cons j js => exact ⟨j, js, rfl⟩
      obtain ⟨e1, e2, _⟩ := putAt_top u hs
      have hown := own_same (D := g.ops) e1 e2
      have hset := chk_set (v := putAt k (j :: js) u) (hn t (nds_self t)) (ht t (nds_self t)) hk hck (by rw [hown]; exact hck)
      rw [if_pos (by rw [hown])] at hset
      by_cases he : (ownS g.ops s).1 = (ownS g.ops u).1
      · rw [if_pos (Or.inr he)] at ih ⊢
        intro x hx
        rcases hnds x hx with rfl | hx | hx
        · exact hset
        · exact ih x hx
        · exact ht x hx
      · rw [if_neg (fun h => h.elim (fun h => List.cons_ne_nil _ _ h) he)] at ih ⊢
        obtain ⟨i1, y, hy, i2⟩ := ih
        refine ⟨fun x hx => ?_, y, nds_kid hkid hy, i2⟩
        rcases hnds x hx with rfl | hx | hx
        · exact .inl hset
        · exact i1 x hx
        · exact .inl (ht x hx)

theorem sort_zero {g : Sg} {t : Tm} (h : (sortRes g t).2 = 0) : validSg g = true ∧ formed t = true ∧ (∀ x, x ∈ nds t → chk g x = 0) ∧ (sortRes g t).1 = (ownS g.ops t).1 := by
  unfold sortRes at h ⊢
  by_cases hc : (validSg g && formed t) = true
  · rw [if_pos hc] at h ⊢
    rw [Bool.and_eq_true] at hc
    cases hf : (t.pre 1).find? (fun x => decide (chk g x.2 ≠ 0)) with
    | none =>
      refine ⟨hc.1, hc.2, nds_pre.2 fun x hx => ?_, rfl⟩
      have := List.find?_eq_none.1 hf x hx
      simpa using this
    | some x =>
      rw [hf] at h
      have := List.find?_some hf
      simp only at h this
      rw [h] at this
      simp at this
  · rw [if_neg hc] at h; cases h
theorem sort_all {g : Sg} {t : Tm} (h1 : validSg g = true) (h2 : formed t = true) (h : ∀ x, x ∈ nds t → chk g x = 0) : sortRes g t = ((ownS g.ops t).1, 0) := sortRes_ok h1 h2 (nds_pre.1 h)
theorem sort_type {g : Sg} {t : Tm} (h1 : validSg g = true) (h2 : formed t = true) (h : ∀ x, x ∈ nds t → chk g x = 0 ∨ chk g x = 11) (h3 : ∃ x, x ∈ nds t ∧ chk g x = 11) : (sortRes g t).2 = 11 := by
  unfold sortRes
  rw [h1, h2, if_pos (show (true && true) = true from rfl)]
  cases hf : (t.pre 1).find? (fun x => decide (chk g x.2 ≠ 0)) with
  | none =>
    exfalso
    obtain ⟨x, hx, he⟩ := h3
    have h4 : ∀ x, x ∈ nds t → chk g x = 0 := nds_pre.2 fun x hx => by simpa using List.find?_eq_none.1 hf x hx
    rw [h4 x hx] at he; cases he
  | some x =>
    have h4 := List.find?_some hf
    have h5 := nds_pre.1 h x (List.mem_of_find?_eq_some hf)
    simp at h4
    rcases h5 with h5 | h5
    · exact absurd h5 h4
    · exact h5
end Go.Proofs.YthbcfcbonmphfaaDoor

/- The law's walk. -/
namespace Go.Proofs.YthbcfcbonmphfaaDoor
open Go.RowKit Go.Shelf
set_option maxRecDepth 100000

/-- What the law says of the terms, where Replace goes well. -/
theorem puts_facts {t u : Tm} {L : List Int} (hot : okB t) (hou : okB u) (hdt : t.depth ≤ 80) (hsz : t.size ≤ 1100) (hc : replCode t L u = 0) :
    ∃ s x : Tm, replTerm t L u = x ∧ okB s ∧ okB x ∧ bigL [s] = false ∧ bigL [x] = false ∧ x.depth ≤ 80 ∧ s.depth ≤ 80 ∧ atTerm t L = s ∧ atCode t L = 0 ∧ atTerm x L = u ∧ atCode x L = 0 ∧ replTerm x L s = t ∧ replCode x L s = 0 ∧
      (∀ M : List Int, L.take (min L.length M.length) ≠ M.take (min L.length M.length) → atTerm x M = atTerm t M ∧ atCode x M = atCode t M) ∧
      ∀ g : Sg, (sortRes g t).2 = 0 → (sortRes g u).2 = 0 → (sortRes g s).2 = 0 ∧ ((L = [] ∨ (sortRes g s).1 = (sortRes g u).1) → (sortRes g x).2 = 0 ∧ (if L = [] then (sortRes g x).1 = (sortRes g u).1 else (sortRes g x).1 = (sortRes g t).1)) ∧ (¬ (L = [] ∨ (sortRes g s).1 = (sortRes g u).1) → (sortRes g x).2 = 11) := by
  obtain ⟨hft, hfu, ⟨s, hs⟩, hfx⟩ := repl_zero hc
  obtain ⟨hos, hss, hsd⟩ := subAt_okB L t s hot hs
  have hox := putAt_okB L t u hot hou
  have hfs := formed_sub hot hft hs
  have hxs := sub_put L t s u hs
  have hxb := put_back L t s u hs
  obtain ⟨hxd, hxz⟩ := fitsL_depth (formed_fits hfx)
  obtain ⟨ha1, ha2⟩ := at_some hft hs
  obtain ⟨ha3, ha4⟩ := at_some hfx hxs
  have hcb : replCode (putAt t L u) L s = 0 := by
    have hff : formed (putAt (putAt t L u) L s) = true := by rw [hxb]; exact hft
    rw [formed_put ⟨hfx, hfs⟩, Bool.and_eq_true] at hff
    exact repl_ok ⟨hfx, hfs⟩ hxs hff.1 hff.2
  refine ⟨s, putAt t L u, by unfold replTerm; rw [if_pos hc], hos, hox, big_sub hot hdt hsz hs, big_put hot hou hfx, by omega, by omega, ha1, ha2, ha3, ha4, by unfold replTerm; rw [if_pos hcb, hxb], hcb, fun M hM => ?_, fun g h1 h2 => ?_⟩
  · have := put_beside L M t s u hs hM
    unfold atTerm atCode
    rw [hfx, hft, this]
    exact ⟨rfl, rfl⟩
  · obtain ⟨hv, _, hct, ht1⟩ := sort_zero h1
    obtain ⟨_, _, hcu, hu1⟩ := sort_zero h2
    have hcs : ∀ y, y ∈ nds s → chk g y = 0 := fun y hy => hct y (nds_sub L t s hs y hy)
    have hS := sort_all hv hfs hcs
    have hput := put_chk g L t s u hs hct (formed_iff.1 hft).2.1 hcu
    have es : (sortRes g s).1 = (ownS g.ops s).1 := by rw [hS]
    refine ⟨by rw [hS], fun h => ?_, fun h => ?_⟩
    · rw [es, hu1] at h
      rw [if_pos h] at hput
      have hX := sort_all hv hfx hput
      refine ⟨by rw [hX], ?_⟩
      by_cases hL : L = []
      · rw [if_pos hL, hX, hu1]
        subst hL
        unfold putAt
        rfl
      · rw [if_neg hL, hX, ht1]
        obtain ⟨i, is, rfl⟩ : ∃ i is, L = i :: is := by
          cases L with
          | nil => exact absurd rfl hL
          | cons i is => exact ⟨i, is, rfl⟩
        obtain ⟨e1, e2, _⟩ := putAt_top u hs
        rw [own_same e1 e2]
    · rw [es, hu1] at h
      rw [if_neg h] at hput
      exact sort_type hv hfx hput.1 hput.2

/-- The boxes of the law. -/
structure PZ (g : Sg) (A1 : Option Addr) (c1 : Nat) (A2 : Option Addr) (c2 : Nat) (t u : Tm) (A Au : Option Addr) (c cu : Nat) (w w' : World) : Prop where
  below : Below w.heap.size w w'
  bs : w'.heap[w.heap.size]? = some (.cells (gcells g A1 c1 A2 c2) 82 (0, 0))
  bt : BX w' (w.heap.size + 1) t A c
  bu : BX w' (w.heap.size + 1 + 1) u Au cu
theorem PZ.next {g : Sg} {A1 : Option Addr} {c1 : Nat} {A2 : Option Addr} {c2 : Nat} {t u : Tm} {A Au : Option Addr} {c cu : Nat} {w w1 w2 : World} (h : PZ g A1 c1 A2 c2 t u A Au c cu w w1) (hb : Below w1.heap.size w1 w2) : PZ g A1 c1 A2 c2 t u A Au c cu w w2 :=
  ⟨h.below.trans (hb.mono h.below.size), cells_below h.bs hb, h.bt.next hb, h.bu.next hb⟩
theorem PZ.start (g : Sg) (A1 : Option Addr) (c1 : Nat) (A2 : Option Addr) (c2 : Nat) (t u : Tm) (A Au : Option Addr) (c cu : Nat) (w : World) (h : TRep w.heap.size w t A) (h2 : TRep w.heap.size w u Au) :
    PZ g A1 c1 A2 c2 t u A Au c cu w (((w.alloc (.cells (gcells g A1 c1 A2 c2) 82)).alloc (.cells (tcells t A c) 56)).alloc (.cells (tcells u Au cu) 56)) := by
  have hb1 := (Below.refl w.heap.size w).alloc (Nat.le_refl _) (.cells (gcells g A1 c1 A2 c2) 82)
  have q := QW.start t u A Au c cu (w.alloc (.cells (gcells g A1 c1 A2 c2) 82)) ((h.later hb1).mono (by simp)) ((h2.later hb1).mono (by simp))
  have hbt := q.bt
  have hbu := q.bu
  simp only [World.size_alloc] at hbt hbu
  exact ⟨hb1.trans (q.below.mono (by simp)), cells_below (heap_alloc_new w (.cells (gcells g A1 c1 A2 c2) 82)) q.below, hbt, hbu⟩

set_option maxHeartbeats 16000000 in
theorem termPuts_any (g : Sg) (A1 : Option Addr) (c1 : Nat) (A2 : Option Addr) (c2 : Nat) (t u : Tm) (A Au : Option Addr) (c cu : Nat) (P : Option Addr) (cp : Nat) (L : List Int) (Q : Option Addr) (cq : Nat) (M : List Int) (w : World) (hp : Pairs w) (hs : SlS w.heap.size w A1 g.sorts) (hd : SlD w.heap.size w A2 g.ops) (hog : okG g)
    (hrt : TRep w.heap.size w t A) (hru : TRep w.heap.size w u Au) (hpl : SlI w.heap.size w P L) (hcp : L.length ≤ cp) (hcm : cp ≤ maxLen) (hql : SlI w.heap.size w Q M) (hcq : M.length ≤ cq) (hcn : cq ≤ maxLen) (hot : okT maxLen t) (hou : okT maxLen u) :
    Calls Tryd.prog 12 #[GV g A1 c1 A2 c2, TV t A c, .slice P L.length cp, TV u Au cu, .slice Q M.length cq] w fun e w' => e = .returned (.bool true) ∧ Below w.heap.size w w' := by
  have H0 := Lib.hid (PZ.start g A1 c1 A2 c2 t u A Au c cu w hrt hru)
  have HP := Lib.hid (((hp.alloc (.cells (gcells g A1 c1 A2 c2) 82)).alloc (.cells (tcells t A c) 56)).alloc (.cells (tcells u Au cu) 56))
  have HS0 := Lib.hid hs
  have HD0 := Lib.hid hd
  have HPL := Lib.hid hpl
  have HQL := Lib.hid hql
  have HCP := Lib.hid hcp
  have HCM := Lib.hid hcm
  have HCQ := Lib.hid hcq
  have HCN := Lib.hid hcn
  have HOT := Lib.hid hot
  have HOU := Lib.hid hou
  have HOG := Lib.hid hog
  have hll : (L.length : Int) ≤ 9223372036854775807 := by unfold maxLen at hcm; omega
  have hlm : (M.length : Int) ≤ 9223372036854775807 := by unfold maxLen at hcn; omega
  clear hp hrt hru hs hd hpl hql hcp hcm hcq hcn hot hou hog
  unfold TV GV
  go_enter Tryd.func12, Tryd.ntmps12
  go_wp2_with fail
  refine (awake02_any _ HP.out).mono ?_
  rintro e w1 ⟨rfl, hb⟩
  have H1 := Lib.hid (H0.out.next hb)
  clear H0
  clear hb HP
  obtain ⟨⟨s0, s1⟩, _⟩ := blk2 H1.out.bs
  have HSG := Lib.hid (fun (W : World) (h : Below w.heap.size w W) => (HS0.out.later h).mono h.size)
  have HDG := Lib.hid (fun (W : World) (h : Below w.heap.size w W) => (HD0.out.later h).mono h.size)
  have HPW := Lib.hid (fun (W : World) (h : Below w.heap.size w W) => (HPL.out.later h).mono h.size)
  have HQW := Lib.hid (fun (W : World) (h : Below w.heap.size w W) => (HQL.out.later h).mono h.size)
  have HC := Lib.hid (wide_any g A1 c1 A2 c2 w1 (HSG.out _ H1.out.below) (HDG.out _ H1.out.below) HOG.out)
  unfold GV at HC
  clear HS0 HD0 HPL HQL
  go_wp2_with fail
  refine HC.out.mono ?_
  rintro e w2 ⟨rfl, hb⟩
  have H2 := Lib.hid (H1.out.next hb)
  clear H1
  clear hb HC s0 s1
  generalize wideB g = wb
  cases wb
  rotate_left
  · go_wp2_with fail
    go_ret
    exact ⟨rfl, H2.out.below⟩
  obtain ⟨⟨x0, x1, x2⟩, _⟩ := blk3 H2.out.bt.1
  obtain ⟨⟨y0, y1, y2⟩, _⟩ := blk3 H2.out.bu.1
  have hbN : Below w2.heap.size w2 (w2.alloc (.cells #[.string t.nm, .string t.st, .slice A t.ks.length c, .string u.nm, .string u.st, .slice Au u.ks.length cu] 56)) := (Below.refl _ _).alloc (Nat.le_refl _) _
  have HBIG := Lib.hid (bigTwo_any t u A Au c cu _ w2.heap.size (heap_alloc_new w2 (.cells #[.string t.nm, .string t.st, .slice A t.ks.length c, .string u.nm, .string u.st, .slice Au u.ks.length cu] 56)) (H2.out.bt.next hbN).2 (H2.out.bu.next hbN).2 HOT.out HOU.out)
  have H3 := Lib.hid (H2.out.next hbN)
  clear H2
  clear hbN
  go_wp2_with fail
  refine HBIG.out.mono ?_
  rintro e w3 ⟨rfl, hb⟩
  have H4 := Lib.hid (H3.out.next hb)
  clear H3
  clear hb x0 x1 x2 y0 y1 y2 HBIG
  generalize hbg : bigL [t, u] = bg
  cases bg
  rotate_left
  · clear hbg
    go_wp2_with fail
    go_ret
    exact ⟨rfl, H4.out.below⟩
  obtain ⟨hsm, hsz⟩ := bigL_small hbg
  have HST := Lib.hid (hsm t (by simp))
  have HSU := Lib.hid (hsm u (by simp))
  have hszt : t.size ≤ 1100 := by simp [sizes] at hsz; omega
  have HSZU := Lib.hid (show u.size ≤ 1100 by simp [sizes] at hsz; omega)
  have HBT := Lib.hid (bigL_one HST.out.1 HST.out.2 hszt)
  have HOT6 := Lib.hid ((HST.out.1.okT).mono (m' := 1000000) (by omega))
  have HOU6 := Lib.hid ((HSU.out.1.okT).mono (m' := 1000000) (by omega))
  clear hsm hsz hbg
  by_cases hl : 80 < L.length
  · have hlI : decide ((80 : Int) < (L.length : Int)) = true := decide_eq_true (by omega)
    clear hl
    go_wp2_with fail
    go_ret
    exact ⟨rfl, H4.out.below⟩
  have hlI : decide ((80 : Int) < (L.length : Int)) = false := decide_eq_false (by omega)
  by_cases hl2 : 80 < M.length
  · have hlI2 : decide ((80 : Int) < (M.length : Int)) = true := decide_eq_true (by omega)
    clear hl hl2
    go_wp2_with fail
    go_ret
    exact ⟨rfl, H4.out.below⟩
  have hlI2 : decide ((80 : Int) < (M.length : Int)) = false := decide_eq_false (by omega)
  have HLM := Lib.hid (show L.length ≤ maxLen from Nat.le_trans HCP.out HCM.out)
  have HMM := Lib.hid (show M.length ≤ maxLen from Nat.le_trans HCQ.out HCN.out)
  go_upto_region 5 with fail
  clear hlI hlI2
  by_cases hc : replCode t L u = 0
  rotate_left
  · have HCD := Lib.hid (beq_eq_false_iff_ne.2 hc)
    have hcb : (replCode t L u != 0) = true := by rw [bne, beq_eq_false_iff_ne.2 hc]; rfl
    have HT0 := Lib.hid (show replTerm t L u = tm0 by unfold replTerm; rw [if_neg hc])
    clear hc
    obtain ⟨⟨x0, x1, x2⟩, _⟩ := blk3 H4.out.bt.1
    obtain ⟨⟨y0, y1, y2⟩, _⟩ := blk3 H4.out.bu.1
    have HC := Lib.hid (Replace_any t u A Au c cu P cp L w3 H4.out.bt.2 H4.out.bu.2 (HPW.out _ H4.out.below) HLM.out HOT6.out HOU6.out (by have := HST.out.2; omega) (by have := HSU.out.2; omega))
    unfold TV at HC
    go_wp2_with fail
    refine HC.out.mono ?_
    rintro e w4 hat
    obtain ⟨⟨AX, cX, rfl, hr⟩, hb⟩ := repl_all hat
    rw [HT0.out] at hr
    rw [HT0.out]
    have hbA : Below w4.heap.size w4 (w4.alloc (.cells #[.string tm0.nm, .string tm0.st, .slice AX tm0.ks.length cX] 56)) := (Below.refl _ _).alloc (Nat.le_refl _) _
    have H5 := Lib.hid (H4.out.next hb)
    clear H4
    have H6 := Lib.hid (H5.out.next hbA)
    clear H5
    have Xx00 := Lib.hid (BX.new w4 tm0 AX cX hr)
    clear hat hr hb hbA HC x0 x1 x2 y0 y1 y2
    unfold TV
    go_upto_region 6 with fail
    generalize w4.alloc (.cells #[.string tm0.nm, .string tm0.st, .slice AX tm0.ks.length cX] 56) = Wx0 at H6 Xx00 ⊢
    clear HCD
    obtain ⟨⟨x0, x1, x2⟩, _⟩ := blk3 Xx00.out.1
    have hbN : Below Wx0.heap.size Wx0 (Wx0.alloc (.cells #[.string tm0.nm, .string tm0.st, .slice AX tm0.ks.length cX] 56)) := (Below.refl _ _).alloc (Nat.le_refl _) _
    have HBIG := Lib.hid (bigOne_any tm0 AX cX _ Wx0.heap.size (heap_alloc_new Wx0 (.cells #[.string tm0.nm, .string tm0.st, .slice AX tm0.ks.length cX] 56)) (Xx00.out.next hbN).2 okB0)
    rw [big0] at HBIG
    have H7 := Lib.hid (H6.out.next hbN)
    have Xx01 := Lib.hid (Xx00.out.next hbN)
    clear H6 Xx00
    clear hbN
    go_wp2_with fail
    refine HBIG.out.mono ?_
    rintro e w5 ⟨rfl, hb⟩
    have H8 := Lib.hid (H7.out.next hb)
    have Xx02 := Lib.hid (Xx01.out.next hb)
    clear H7 Xx01
    clear hb x0 x1 x2 HBIG
    obtain ⟨⟨x0, x1, x2⟩, _⟩ := blk3 (blk0 Xx02.out.1)
    have HC := Lib.hid (zero_any AX cX w5)
    generalize replCode t L u = rc at hcb ⊢
    go_wp2_with fail
    refine HC.out.mono ?_
    rintro e w9 ⟨rfl, hb⟩
    have H9 := Lib.hid (H8.out.next hb)
    have Xx03 := Lib.hid (Xx02.out.next hb)
    clear H8 Xx02
    clear hb HC x0 x1 x2
    go_wp2_with fail
    go_ret
    exact ⟨rfl, H9.out.below⟩
  obtain ⟨s, x, hx1, hos, hox, hbs, hbx, hdx, hds, hat1, hat2, hix1, hix2, hbk1, hbk2, hbes, hsrt⟩ := puts_facts HST.out.1 HSU.out.1 HST.out.2 hszt hc
  have HOS := Lib.hid hos
  have HOX := Lib.hid hox
  have HBS := Lib.hid hbs
  have HBX := Lib.hid hbx
  have HDX := Lib.hid hdx
  have HDS := Lib.hid hds
  have HX1 := Lib.hid hx1
  have HAT1 := Lib.hid hat1
  have HAT2 := Lib.hid hat2
  have HIX1 := Lib.hid hix1
  have HIX2 := Lib.hid hix2
  have HBK1 := Lib.hid hbk1
  have HBK2 := Lib.hid hbk2
  have HBES := Lib.hid hbes
  have HSRT := Lib.hid hsrt
  have HCZ := Lib.hid hc
  have HBU := Lib.hid (bigL_one HSU.out.1 HSU.out.2 (by have := HSZU.out; omega))
  clear hx1 hos hox hbs hbx hdx hds hat1 hat2 hix1 hix2 hbk1 hbk2 hbes hsrt hc
  obtain ⟨⟨x0, x1, x2⟩, _⟩ := blk3 H4.out.bt.1
  obtain ⟨⟨y0, y1, y2⟩, _⟩ := blk3 H4.out.bu.1
  have HC := Lib.hid (Replace_any t u A Au c cu P cp L w3 H4.out.bt.2 H4.out.bu.2 (HPW.out _ H4.out.below) HLM.out HOT6.out HOU6.out (by have := HST.out.2; omega) (by have := HSU.out.2; omega))
  unfold TV at HC
  go_wp2_with fail
  refine HC.out.mono ?_
  rintro e w6 hat
  obtain ⟨⟨AX, cX, rfl, hr⟩, hb⟩ := repl_all hat
  rw [HX1.out] at hr
  rw [HX1.out]
  have hbA : Below w6.heap.size w6 (w6.alloc (.cells #[.string x.nm, .string x.st, .slice AX x.ks.length cX] 56)) := (Below.refl _ _).alloc (Nat.le_refl _) _
  have H5 := Lib.hid (H4.out.next hb)
  clear H4
  have H6 := Lib.hid (H5.out.next hbA)
  clear H5
  have Xx0 := Lib.hid (BX.new w6 x AX cX hr)
  clear hat hr hb hbA HC x0 x1 x2 y0 y1 y2
  unfold TV
  go_upto_region 6 with fail
  generalize w6.alloc (.cells #[.string x.nm, .string x.st, .slice AX x.ks.length cX] 56) = Wx at H6 Xx0 ⊢
  rw [HCZ.out]
  obtain ⟨⟨x0, x1, x2⟩, _⟩ := blk3 Xx0.out.1
  have hbN : Below Wx.heap.size Wx (Wx.alloc (.cells #[.string x.nm, .string x.st, .slice AX x.ks.length cX] 56)) := (Below.refl _ _).alloc (Nat.le_refl _) _
  have HBIG := Lib.hid (bigOne_any x AX cX _ Wx.heap.size (heap_alloc_new Wx (.cells #[.string x.nm, .string x.st, .slice AX x.ks.length cX] 56)) (Xx0.out.next hbN).2 HOX.out)
  rw [HBX.out] at HBIG
  have H7 := Lib.hid (H6.out.next hbN)
  have Xx1 := Lib.hid (Xx0.out.next hbN)
  clear H6 Xx0
  clear hbN
  go_wp2_with fail
  refine HBIG.out.mono ?_
  rintro e w7 ⟨rfl, hb⟩
  have H8 := Lib.hid (H7.out.next hb)
  have Xx2 := Lib.hid (Xx1.out.next hb)
  clear H7 Xx1
  clear hb x0 x1 x2 HBIG
  go_upto_region 10 with fail
  obtain ⟨⟨x0, x1, x2⟩, _⟩ := blk3 H8.out.bt.1
  have HC := Lib.hid (At_any t A c P cp L w7 H8.out.bt.2 (HPW.out _ H8.out.below) HLM.out HOT6.out (by have := HST.out.2; omega))
  unfold TV at HC
  go_wp2_with fail
  refine HC.out.mono ?_
  rintro e w8 hat
  obtain ⟨⟨AS, cS, rfl, hr⟩, hb⟩ := at_all hat
  rw [HAT1.out] at hr
  rw [HAT1.out, HAT2.out]
  have hbA : Below w8.heap.size w8 (w8.alloc (.cells #[.string s.nm, .string s.st, .slice AS s.ks.length cS] 56)) := (Below.refl _ _).alloc (Nat.le_refl _) _
  have H9 := Lib.hid (H8.out.next hb)
  have Xx3 := Lib.hid (Xx2.out.next hb)
  clear H8 Xx2
  have H10 := Lib.hid (H9.out.next hbA)
  have Xx4 := Lib.hid (Xx3.out.next hbA)
  clear H9 Xx3
  have Xs0 := Lib.hid (BX.new w8 s AS cS hr)
  clear hat hr hb hbA HC x0 x1 x2
  unfold TV
  go_upto_region 11 with fail
  generalize w8.alloc (.cells #[.string s.nm, .string s.st, .slice AS s.ks.length cS] 56) = Ws at H10 Xx4 Xs0 ⊢
  obtain ⟨⟨x0, x1, x2⟩, _⟩ := blk3 Xx4.out.1
  have HC := Lib.hid (At_any x AX cX P cp L Ws Xx4.out.2 (HPW.out _ H10.out.below) HLM.out (HOX.out.okT.mono (by omega)) (by have := HDX.out; omega))
  unfold TV at HC
  go_wp2_with fail
  refine HC.out.mono ?_
  rintro e w9 hat
  obtain ⟨⟨AI, cI, rfl, hr⟩, hb⟩ := at_all hat
  rw [HIX1.out] at hr
  rw [HIX1.out, HIX2.out]
  have hbA : Below w9.heap.size w9 (w9.alloc (.cells #[.string u.nm, .string u.st, .slice AI u.ks.length cI] 56)) := (Below.refl _ _).alloc (Nat.le_refl _) _
  have H11 := Lib.hid (H10.out.next hb)
  have Xx5 := Lib.hid (Xx4.out.next hb)
  have Xs1 := Lib.hid (Xs0.out.next hb)
  clear H10 Xx4 Xs0
  have H12 := Lib.hid (H11.out.next hbA)
  have Xx6 := Lib.hid (Xx5.out.next hbA)
  have Xs2 := Lib.hid (Xs1.out.next hbA)
  clear H11 Xx5 Xs1
  have Xi0 := Lib.hid (BX.new w9 u AI cI hr)
  clear hat hr hb hbA HC x0 x1 x2
  unfold TV
  go_upto_region 12 with fail
  generalize w9.alloc (.cells #[.string u.nm, .string u.st, .slice AI u.ks.length cI] 56) = Wi at H12 Xx6 Xs2 Xi0 ⊢
  obtain ⟨⟨x0, x1, x2⟩, _⟩ := blk3 Xs2.out.1
  have hbN : Below Wi.heap.size Wi (Wi.alloc (.cells #[.string s.nm, .string s.st, .slice AS s.ks.length cS] 56)) := (Below.refl _ _).alloc (Nat.le_refl _) _
  have HBIG := Lib.hid (bigOne_any s AS cS _ Wi.heap.size (heap_alloc_new Wi (.cells #[.string s.nm, .string s.st, .slice AS s.ks.length cS] 56)) (Xs2.out.next hbN).2 HOS.out)
  rw [HBS.out] at HBIG
  have H13 := Lib.hid (H12.out.next hbN)
  have Xx7 := Lib.hid (Xx6.out.next hbN)
  have Xs3 := Lib.hid (Xs2.out.next hbN)
  have Xi1 := Lib.hid (Xi0.out.next hbN)
  clear H12 Xx6 Xs2 Xi0
  clear hbN
  go_wp2_with fail
  refine HBIG.out.mono ?_
  rintro e w10 ⟨rfl, hb⟩
  have H14 := Lib.hid (H13.out.next hb)
  have Xx8 := Lib.hid (Xx7.out.next hb)
  have Xs4 := Lib.hid (Xs3.out.next hb)
  have Xi2 := Lib.hid (Xi1.out.next hb)
  clear H13 Xx7 Xs3 Xi1
  clear hb x0 x1 x2 HBIG
  obtain ⟨⟨x0, x1, x2⟩, _⟩ := blk3 Xi2.out.1
  have hbN : Below w10.heap.size w10 (w10.alloc (.cells #[.string u.nm, .string u.st, .slice AI u.ks.length cI] 56)) := (Below.refl _ _).alloc (Nat.le_refl _) _
  have HBIG := Lib.hid (bigOne_any u AI cI _ w10.heap.size (heap_alloc_new w10 (.cells #[.string u.nm, .string u.st, .slice AI u.ks.length cI] 56)) (Xi2.out.next hbN).2 HSU.out.1)
  rw [HBU.out] at HBIG
  have H15 := Lib.hid (H14.out.next hbN)
  have Xx9 := Lib.hid (Xx8.out.next hbN)
  have Xs5 := Lib.hid (Xs4.out.next hbN)
  have Xi3 := Lib.hid (Xi2.out.next hbN)
  clear H14 Xx8 Xs4 Xi2
  clear hbN
  go_wp2_with fail
  refine HBIG.out.mono ?_
  rintro e w11 ⟨rfl, hb⟩
  have H16 := Lib.hid (H15.out.next hb)
  have Xx10 := Lib.hid (Xx9.out.next hb)
  have Xs6 := Lib.hid (Xs5.out.next hb)
  have Xi4 := Lib.hid (Xi3.out.next hb)
  clear H15 Xx9 Xs5 Xi3
  clear hb x0 x1 x2 HBIG
  obtain ⟨⟨x0, x1, x2⟩, _⟩ := blk3 Xi4.out.1
  obtain ⟨⟨y0, y1, y2⟩, _⟩ := blk3 H16.out.bu.1
  have HC := Lib.hid (refSame_any u u AI Au cI cu w11.heap.size w11 Xi4.out.2 H16.out.bu.2 (Nat.le_refl _) (HSU.out.1.okT.mono (by unfold maxLen; omega)) (HSU.out.1.okT.mono (by unfold maxLen; omega)))
  rw [rcmp_self] at HC
  unfold TV at HC
  go_wp2_with fail
  refine HC.out.mono ?_
  rintro e w12 ⟨rfl, hb⟩
  have H17 := Lib.hid (H16.out.next hb)
  have Xx11 := Lib.hid (Xx10.out.next hb)
  have Xs7 := Lib.hid (Xs6.out.next hb)
  have Xi5 := Lib.hid (Xi4.out.next hb)
  clear H16 Xx10 Xs6 Xi4
  clear hb x0 x1 x2 y0 y1 y2 HC
  go_upto_region 14 with fail
  obtain ⟨⟨x0, x1, x2⟩, _⟩ := blk3 Xx11.out.1
  obtain ⟨⟨y0, y1, y2⟩, _⟩ := blk3 Xs7.out.1
  have HC := Lib.hid (Replace_any x s AX AS cX cS P cp L w12 Xx11.out.2 Xs7.out.2 (HPW.out _ H17.out.below) HLM.out (HOX.out.okT.mono (by omega)) (HOS.out.okT.mono (by omega)) (by have := HDX.out; omega) (by have := HDS.out; omega))
  unfold TV at HC
  go_wp2_with fail
  refine HC.out.mono ?_
  rintro e w13 hat
  obtain ⟨⟨AB, cB, rfl, hr⟩, hb⟩ := repl_all hat
  rw [HBK1.out] at hr
  rw [HBK1.out, HBK2.out]
  have hbA : Below w13.heap.size w13 (w13.alloc (.cells #[.string t.nm, .string t.st, .slice AB t.ks.length cB] 56)) := (Below.refl _ _).alloc (Nat.le_refl _) _
  have H18 := Lib.hid (H17.out.next hb)
  have Xx12 := Lib.hid (Xx11.out.next hb)
  have Xs8 := Lib.hid (Xs7.out.next hb)
  have Xi6 := Lib.hid (Xi5.out.next hb)
  clear H17 Xx11 Xs7 Xi5
  have H19 := Lib.hid (H18.out.next hbA)
  have Xx13 := Lib.hid (Xx12.out.next hbA)
  have Xs9 := Lib.hid (Xs8.out.next hbA)
  have Xi7 := Lib.hid (Xi6.out.next hbA)
  clear H18 Xx12 Xs8 Xi6
  have Xb0 := Lib.hid (BX.new w13 t AB cB hr)
  clear hat hr hb hbA HC x0 x1 x2 y0 y1 y2
  unfold TV
  go_upto_region 15 with fail
  generalize w13.alloc (.cells #[.string t.nm, .string t.st, .slice AB t.ks.length cB] 56) = Wb at H19 Xx13 Xs9 Xi7 Xb0 ⊢
  obtain ⟨⟨x0, x1, x2⟩, _⟩ := blk3 Xb0.out.1
  have hbN : Below Wb.heap.size Wb (Wb.alloc (.cells #[.string t.nm, .string t.st, .slice AB t.ks.length cB] 56)) := (Below.refl _ _).alloc (Nat.le_refl _) _
  have HBIG := Lib.hid (bigOne_any t AB cB _ Wb.heap.size (heap_alloc_new Wb (.cells #[.string t.nm, .string t.st, .slice AB t.ks.length cB] 56)) (Xb0.out.next hbN).2 HST.out.1)
  rw [HBT.out] at HBIG
  have H20 := Lib.hid (H19.out.next hbN)
  have Xx14 := Lib.hid (Xx13.out.next hbN)
  have Xs10 := Lib.hid (Xs9.out.next hbN)
  have Xi8 := Lib.hid (Xi7.out.next hbN)
  have Xb1 := Lib.hid (Xb0.out.next hbN)
  clear H19 Xx13 Xs9 Xi7 Xb0
  clear hbN
  go_wp2_with fail
  refine HBIG.out.mono ?_
  rintro e w14 ⟨rfl, hb⟩
  have H21 := Lib.hid (H20.out.next hb)
  have Xx15 := Lib.hid (Xx14.out.next hb)
  have Xs11 := Lib.hid (Xs10.out.next hb)
  have Xi9 := Lib.hid (Xi8.out.next hb)
  have Xb2 := Lib.hid (Xb1.out.next hb)
  clear H20 Xx14 Xs10 Xi8 Xb1
  clear hb x0 x1 x2 HBIG
  obtain ⟨⟨x0, x1, x2⟩, _⟩ := blk3 Xb2.out.1
  obtain ⟨⟨y0, y1, y2⟩, _⟩ := blk3 H21.out.bt.1
  have HC := Lib.hid (refSame_any t t AB A cB c w14.heap.size w14 Xb2.out.2 H21.out.bt.2 (Nat.le_refl _) (HST.out.1.okT.mono (by unfold maxLen; omega)) (HST.out.1.okT.mono (by unfold maxLen; omega)))
  rw [rcmp_self] at HC
  unfold TV at HC
  go_wp2_with fail
  refine HC.out.mono ?_
  rintro e w15 ⟨rfl, hb⟩
  have H22 := Lib.hid (H21.out.next hb)
  have Xx16 := Lib.hid (Xx15.out.next hb)
  have Xs12 := Lib.hid (Xs11.out.next hb)
  have Xi10 := Lib.hid (Xi9.out.next hb)
  have Xb3 := Lib.hid (Xb2.out.next hb)
  clear H21 Xx15 Xs11 Xi9 Xb2
  clear hb x0 x1 x2 y0 y1 y2 HC
  go_upto_region 18 with fail
  rw [show (min (L.length : Int) (M.length : Int)) = ((min L.length M.length : Nat) : Int) from by omega]
  have hnl : min L.length M.length ≤ L.length := by omega
  have hnm : min L.length M.length ≤ M.length := by omega
  have hnc : min L.length M.length ≤ cp := by have := HCP.out; omega
  have hnq : min L.length M.length ≤ cq := by have := HCQ.out; omega
  have hln : (L.take (min L.length M.length)).length = min L.length M.length := by rw [List.length_take]; omega
  have hmn : (M.take (min L.length M.length)).length = min L.length M.length := by rw [List.length_take]; omega
  have HLN := Lib.hid hln
  have HMN := Lib.hid hmn
  clear hln hmn
  have hn80 : min L.length M.length ≤ 80 := by omega
  have HBES2 := Lib.hid (HBES.out M)
  clear HBES
  generalize min L.length M.length = n at hnl hnm hnc hnq hn80 HLN HMN HBES2 ⊢
  have hcpI : (cp : Int) ≤ 9223372036854775807 := by have := HCM.out; unfold maxLen at this; omega
  have hcqI : (cq : Int) ≤ 9223372036854775807 := by have := HCN.out; unfold maxLen at this; omega
  have hnI : (n : Int) ≤ (cp : Int) := by omega
  have hnJ : (n : Int) ≤ (cq : Int) := by omega
  have hn0 : (0 : Int) ≤ (n : Int) := by omega
  go_still_tail 6, (by kernel_rfl)
  change wpList _ _ _ _ _ w15.drew
  have HC := Lib.hid (equalInts_any P Q cp cq n w15.heap.size (L.take n) (M.take n) w15.drew HLN.out HMN.out (by omega) ((HPW.out _ H22.out.below).take n) ((HQW.out _ H22.out.below).take n))
  go_wp2_with fail
  refine HC.out.mono ?_
  rintro e w16 ⟨rfl, hb0⟩
  have hb : Below w15.heap.size w15 w16 := (Below.refl _ _).drew.trans hb0
  have H23 := Lib.hid (H22.out.next hb)
  have Xx17 := Lib.hid (Xx16.out.next hb)
  have Xs13 := Lib.hid (Xs12.out.next hb)
  have Xi11 := Lib.hid (Xi10.out.next hb)
  have Xb4 := Lib.hid (Xb3.out.next hb)
  clear H22 Xx16 Xs12 Xi10 Xb3
  clear hb hb0 HC hnI hnJ hcpI hcqI hnc hnq hn0
  go_upto_if 132 with fail
  have HZ0 := Lib.hid H23.out
  have HZX := Lib.hid Xx17.out
  have HZS := Lib.hid Xs13.out
  clear H23 Xx17 Xs13 Xi11 Xb4
  go_cut [20, 21, 22, 23] from 125 (fun _ _ _ _ wx => PZ g A1 c1 A2 c2 t u A Au c cu w wx ∧ BX wx w6.heap.size x AX cX ∧ BX wx w8.heap.size s AS cS)
  case first =>
    have H100 := HZ0
    have Xx100 := HZX
    have Xs100 := HZS
    clear HZ0 HZX HZS
    by_cases hq : L.take n = M.take n
    · rw [decide_eq_true hq]
      clear hq
      go_wp2_with fail
      go_meet
      exact ⟨H100.out, Xx100.out, Xs100.out⟩
    obtain ⟨a, ka, hxa, hxk, hya, hyk, hoa, hba⟩ : ∃ a ka, atTerm t M = a ∧ atCode t M = ka ∧ atTerm x M = a ∧ atCode x M = ka ∧ okB a ∧ bigL [a] = false := ⟨_, _, rfl, rfl, (HBES2.out hq).1, (HBES2.out hq).2, (atTerm_big HST.out.1 HST.out.2 hszt).1, (atTerm_big HST.out.1 HST.out.2 hszt).2⟩
    rw [decide_eq_false hq]
    have HXA := Lib.hid hxa
    have HXK := Lib.hid hxk
    have HYA := Lib.hid hya
    have HYK := Lib.hid hyk
    have HOA := Lib.hid hoa
    have HBA := Lib.hid hba
    clear hq hxa hxk hya hyk hoa hba
    go_upto_region 19 with fail
    obtain ⟨⟨x0, x1, x2⟩, _⟩ := blk3 H100.out.bt.1
    have HC := Lib.hid (At_any t A c Q cq M w16 H100.out.bt.2 (HQW.out _ H100.out.below) HMM.out HOT6.out (by have := HST.out.2; omega))
    unfold TV at HC
    go_wp2_with fail
    refine HC.out.mono ?_
    rintro e w17 hat
    obtain ⟨⟨AA, cA, rfl, hr⟩, hb⟩ := at_all hat
    rw [HXA.out] at hr
    rw [HXA.out, HXK.out]
    have hbA : Below w17.heap.size w17 (w17.alloc (.cells #[.string a.nm, .string a.st, .slice AA a.ks.length cA] 56)) := (Below.refl _ _).alloc (Nat.le_refl _) _
    have H101 := Lib.hid (H100.out.next hb)
    have Xx101 := Lib.hid (Xx100.out.next hb)
    have Xs101 := Lib.hid (Xs100.out.next hb)
    clear H100 Xx100 Xs100
    have H102 := Lib.hid (H101.out.next hbA)
    have Xx102 := Lib.hid (Xx101.out.next hbA)
    have Xs102 := Lib.hid (Xs101.out.next hbA)
    clear H101 Xx101 Xs101
    have Xa0 := Lib.hid (BX.new w17 a AA cA hr)
    clear hat hr hb hbA HC x0 x1 x2
    unfold TV
    go_upto_region 20 with fail
    generalize w17.alloc (.cells #[.string a.nm, .string a.st, .slice AA a.ks.length cA] 56) = Wa at H102 Xx102 Xs102 Xa0 ⊢
    obtain ⟨⟨x0, x1, x2⟩, _⟩ := blk3 Xx102.out.1
    have HC := Lib.hid (At_any x AX cX Q cq M Wa Xx102.out.2 (HQW.out _ H102.out.below) HMM.out (HOX.out.okT.mono (by omega)) (by have := HDX.out; omega))
    unfold TV at HC
    go_wp2_with fail
    refine HC.out.mono ?_
    rintro e w18 hat
    obtain ⟨⟨AD, cD, rfl, hr⟩, hb⟩ := at_all hat
    rw [HYA.out] at hr
    rw [HYA.out, HYK.out]
    have hbA : Below w18.heap.size w18 (w18.alloc (.cells #[.string a.nm, .string a.st, .slice AD a.ks.length cD] 56)) := (Below.refl _ _).alloc (Nat.le_refl _) _
    have H103 := Lib.hid (H102.out.next hb)
    have Xx103 := Lib.hid (Xx102.out.next hb)
    have Xs103 := Lib.hid (Xs102.out.next hb)
    have Xa1 := Lib.hid (Xa0.out.next hb)
    clear H102 Xx102 Xs102 Xa0
    have H104 := Lib.hid (H103.out.next hbA)
    have Xx104 := Lib.hid (Xx103.out.next hbA)
    have Xs104 := Lib.hid (Xs103.out.next hbA)
    have Xa2 := Lib.hid (Xa1.out.next hbA)
    clear H103 Xx103 Xs103 Xa1
    have Xd0 := Lib.hid (BX.new w18 a AD cD hr)
    clear hat hr hb hbA HC x0 x1 x2
    unfold TV
    go_upto_region 21 with fail
    generalize w18.alloc (.cells #[.string a.nm, .string a.st, .slice AD a.ks.length cD] 56) = Wd at H104 Xx104 Xs104 Xa2 Xd0 ⊢
    have hkk : (ka != ka) = false := by simp
    generalize ka = kk at hkk ⊢
    obtain ⟨⟨x0, x1, x2⟩, _⟩ := blk3 Xa2.out.1
    have hbN : Below Wd.heap.size Wd (Wd.alloc (.cells #[.string a.nm, .string a.st, .slice AA a.ks.length cA] 56)) := (Below.refl _ _).alloc (Nat.le_refl _) _
    have HBIG := Lib.hid (bigOne_any a AA cA _ Wd.heap.size (heap_alloc_new Wd (.cells #[.string a.nm, .string a.st, .slice AA a.ks.length cA] 56)) (Xa2.out.next hbN).2 HOA.out)
    rw [HBA.out] at HBIG
    have H105 := Lib.hid (H104.out.next hbN)
    have Xx105 := Lib.hid (Xx104.out.next hbN)
    have Xs105 := Lib.hid (Xs104.out.next hbN)
    have Xa3 := Lib.hid (Xa2.out.next hbN)
    have Xd1 := Lib.hid (Xd0.out.next hbN)
    clear H104 Xx104 Xs104 Xa2 Xd0
    clear hbN
    go_wp2_with fail
    refine HBIG.out.mono ?_
    rintro e w19 ⟨rfl, hb⟩
    have H106 := Lib.hid (H105.out.next hb)
    have Xx106 := Lib.hid (Xx105.out.next hb)
    have Xs106 := Lib.hid (Xs105.out.next hb)
    have Xa4 := Lib.hid (Xa3.out.next hb)
    have Xd2 := Lib.hid (Xd1.out.next hb)
    clear H105 Xx105 Xs105 Xa3 Xd1
    clear hb x0 x1 x2 HBIG
    obtain ⟨⟨x0, x1, x2⟩, _⟩ := blk3 Xd2.out.1
    have hbN : Below w19.heap.size w19 (w19.alloc (.cells #[.string a.nm, .string a.st, .slice AD a.ks.length cD] 56)) := (Below.refl _ _).alloc (Nat.le_refl _) _
    have HBIG := Lib.hid (bigOne_any a AD cD _ w19.heap.size (heap_alloc_new w19 (.cells #[.string a.nm, .string a.st, .slice AD a.ks.length cD] 56)) (Xd2.out.next hbN).2 HOA.out)
    rw [HBA.out] at HBIG
    have H107 := Lib.hid (H106.out.next hbN)
    have Xx107 := Lib.hid (Xx106.out.next hbN)
    have Xs107 := Lib.hid (Xs106.out.next hbN)
    have Xa5 := Lib.hid (Xa4.out.next hbN)
    have Xd3 := Lib.hid (Xd2.out.next hbN)
    clear H106 Xx106 Xs106 Xa4 Xd2
    clear hbN
    go_wp2_with fail
    refine HBIG.out.mono ?_
    rintro e w20 ⟨rfl, hb⟩
    have H108 := Lib.hid (H107.out.next hb)
    have Xx108 := Lib.hid (Xx107.out.next hb)
    have Xs108 := Lib.hid (Xs107.out.next hb)
    have Xa6 := Lib.hid (Xa5.out.next hb)
    have Xd4 := Lib.hid (Xd3.out.next hb)
    clear H107 Xx107 Xs107 Xa5 Xd3
    clear hb x0 x1 x2 HBIG
    obtain ⟨⟨x0, x1, x2⟩, _⟩ := blk3 Xa6.out.1
    obtain ⟨⟨y0, y1, y2⟩, _⟩ := blk3 Xd4.out.1
    have HC := Lib.hid (refSame_any a a AA AD cA cD w20.heap.size w20 Xa6.out.2 Xd4.out.2 (Nat.le_refl _) (HOA.out.okT.mono (by unfold maxLen; omega)) (HOA.out.okT.mono (by unfold maxLen; omega)))
    rw [rcmp_self] at HC
    unfold TV at HC
    go_wp2_with fail
    refine HC.out.mono ?_
    rintro e w21 ⟨rfl, hb⟩
    have H109 := Lib.hid (H108.out.next hb)
    have Xx109 := Lib.hid (Xx108.out.next hb)
    have Xs109 := Lib.hid (Xs108.out.next hb)
    have Xa7 := Lib.hid (Xa6.out.next hb)
    have Xd5 := Lib.hid (Xd4.out.next hb)
    clear H108 Xx108 Xs108 Xa6 Xd4
    clear hb x0 x1 x2 y0 y1 y2 HC
    go_wp2_with fail
    go_meet
    exact ⟨H109.out, Xx109.out, Xs109.out⟩
  case rest =>
    obtain ⟨hz, hx, hs⟩ := hcut
    clear HZ0 HZX HZS
    have H200 := Lib.hid hz
    have Xx200 := Lib.hid hx
    have Xs200 := Lib.hid hs
    clear hz hx hs
    obtain ⟨⟨s0, s1⟩, _⟩ := blk2 H200.out.bs
    obtain ⟨⟨x0, x1, x2⟩, _⟩ := blk3 H200.out.bt.1
    have HC := Lib.hid (Sort_any g A1 c1 A2 c2 t A c wc (HSG.out _ H200.out.below) (HDG.out _ H200.out.below) HOG.out H200.out.bt.2 (HST.out.1.okT.mono (by unfold maxLen; omega)) (by have := HST.out.2; omega))
    unfold TV GV at HC
    go_wp2_with fail
    refine HC.out.mono ?_
    rintro e w22 ⟨rfl, hb⟩
    have H201 := Lib.hid (H200.out.next hb)
    have Xx201 := Lib.hid (Xx200.out.next hb)
    have Xs201 := Lib.hid (Xs200.out.next hb)
    clear H200 Xx200 Xs200
    clear hb HC s0 s1 x0 x1 x2
    obtain ⟨⟨s0, s1⟩, _⟩ := blk2 H201.out.bs
    obtain ⟨⟨x0, x1, x2⟩, _⟩ := blk3 Xs201.out.1
    have HC := Lib.hid (Sort_any g A1 c1 A2 c2 s AS cS w22 (HSG.out _ H201.out.below) (HDG.out _ H201.out.below) HOG.out Xs201.out.2 (HOS.out.okT.mono (by unfold maxLen; omega)) (by have := HDS.out; omega))
    unfold TV GV at HC
    go_wp2_with fail
    refine HC.out.mono ?_
    rintro e w23 ⟨rfl, hb⟩
    have H202 := Lib.hid (H201.out.next hb)
    have Xx202 := Lib.hid (Xx201.out.next hb)
    have Xs202 := Lib.hid (Xs201.out.next hb)
    clear H201 Xx201 Xs201
    clear hb HC s0 s1 x0 x1 x2
    obtain ⟨⟨s0, s1⟩, _⟩ := blk2 H202.out.bs
    obtain ⟨⟨x0, x1, x2⟩, _⟩ := blk3 H202.out.bu.1
    have HC := Lib.hid (Sort_any g A1 c1 A2 c2 u Au cu w23 (HSG.out _ H202.out.below) (HDG.out _ H202.out.below) HOG.out H202.out.bu.2 (HSU.out.1.okT.mono (by unfold maxLen; omega)) (by have := HSU.out.2; omega))
    unfold TV GV at HC
    go_wp2_with fail
    refine HC.out.mono ?_
    rintro e w24 ⟨rfl, hb⟩
    have H203 := Lib.hid (H202.out.next hb)
    have Xx203 := Lib.hid (Xx202.out.next hb)
    have Xs203 := Lib.hid (Xs202.out.next hb)
    clear H202 Xx202 Xs202
    clear hb HC s0 s1 x0 x1 x2
    have hsr := HSRT.out g
    clear HSRT
    obtain ⟨rt, hrt⟩ : ∃ r, r = sortRes g t := ⟨_, rfl⟩
    obtain ⟨rs, hrs⟩ : ∃ r, r = sortRes g s := ⟨_, rfl⟩
    obtain ⟨ru, hru⟩ : ∃ r, r = sortRes g u := ⟨_, rfl⟩
    rw [← hrt, ← hrs, ← hru] at hsr
    rw [← hrt, ← hrs, ← hru]
    clear hrt hrs hru
    obtain ⟨tS, tK⟩ := rt
    obtain ⟨sS, sK⟩ := rs
    obtain ⟨uS, uK⟩ := ru
    simp only at hsr ⊢
    by_cases h1 : tK = 0
    rotate_left
    · have e1 : (tK != 0) = true := by rw [bne, beq_eq_false_iff_ne.2 h1]; rfl
      clear h1 hsr
      go_wp2_with fail
      go_ret
      exact ⟨rfl, H203.out.below⟩
    by_cases h2 : uK = 0
    rotate_left
    · subst h1
      have e1 : (uK != 0) = true := by rw [bne, beq_eq_false_iff_ne.2 h2]; rfl
      clear h2 hsr
      go_wp2_with fail
      go_ret
      exact ⟨rfl, H203.out.below⟩
    obtain ⟨h3, h4, h5⟩ := hsr h1 h2
    subst h1 h2 h3
    clear hsr
    obtain ⟨rx, hrx⟩ : ∃ r, r = sortRes g x := ⟨_, rfl⟩
    rw [← hrx] at h4 h5
    have HRX := Lib.hid hrx
    have H4 := Lib.hid h4
    have H5 := Lib.hid h5
    clear h4 h5 hrx
    go_upto_region 30 with fail
    obtain ⟨⟨s0, s1⟩, _⟩ := blk2 H203.out.bs
    obtain ⟨⟨x0, x1, x2⟩, _⟩ := blk3 Xx203.out.1
    have HC := Lib.hid (Sort_any g A1 c1 A2 c2 x AX cX w24 (HSG.out _ H203.out.below) (HDG.out _ H203.out.below) HOG.out Xx203.out.2 (HOX.out.okT.mono (by unfold maxLen; omega)) (by have := HDX.out; omega))
    unfold TV GV at HC
    go_wp2_with fail
    refine HC.out.mono ?_
    rintro e w25 ⟨rfl, hb⟩
    have H204 := Lib.hid (H203.out.next hb)
    have Xx204 := Lib.hid (Xx203.out.next hb)
    have Xs204 := Lib.hid (Xs203.out.next hb)
    clear H203 Xx203 Xs203
    clear hb HC s0 s1 x0 x1 x2
    rw [← HRX.out]
    clear HRX
    obtain ⟨xS, xK⟩ := rx
    have h4 := H4.out
    have h5 := H5.out
    clear H4 H5
    simp only at h4 h5 ⊢
    by_cases hL : L = []
    · have hl0 : ((L.length : Int) == 0) = true := by rw [hL]; rfl
      obtain ⟨h6, h7⟩ := h4 (Or.inl hL)
      rw [if_pos hL] at h7
      subst h6 h7
      have hee : (xS.toList == xS.toList) = true := str_eq_true rfl
      clear h4 h5 hL
      by_cases he : xS = tS
      · have hes := str_eq_true he
        clear he
        go_wp2_with fail
        go_ret
        exact ⟨rfl, H204.out.below⟩
      · have hes := str_eq_false he
        clear he
        go_wp2_with fail
        go_ret
        exact ⟨rfl, H204.out.below⟩
    have hl0 : ((L.length : Int) == 0) = false := beq_eq_false_iff_ne.2 (fun h => hL (List.eq_nil_of_length_eq_zero (by omega)))
    by_cases he : sS = uS
    · obtain ⟨h6, h7⟩ := h4 (Or.inr he)
      rw [if_neg hL] at h7
      have hes := str_eq_true he
      have hes2 := str_eq_true h7
      subst h6
      clear h4 h5 hL he h7
      go_wp2_with fail
      go_ret
      exact ⟨rfl, H204.out.below⟩
    have h6 := h5 (fun h => h.elim hL he)
    have hes := str_eq_false he
    subst h6
    clear h4 h5 hL he
    go_wp2_with fail
    go_ret
    exact ⟨rfl, H204.out.below⟩
end Go.Proofs.YthbcfcbonmphfaaDoor

/- The row and the card. -/
namespace Go.Proofs.YthbcfcbonmphfaaDoor
set_option maxRecDepth 100000
open Go.ChangeShapes Go.WideShapes Go.ChangeAt Go.WideMaps Go.WideElems Go.RowKit Go.Deep

theorem trodAll_five {H : Type} {enc : TypeId × Value → H} {P : Program} {w : World} {base : Nat} {spare : Nat → Bool} {held : Bool} {t t' t'' t3 t4 : TypeId} {args : Array Value} {ds : List (DataW H)} {ps : List MemPlace} (h : DataW.TrodAll enc P w base spare held [t, t', t'', t3, t4] args.toList ds ps) :
    ∃ v v' v'' v3 v4 d d' d'' d3 d4 p p' p'' p3 p4, args = #[v, v', v'', v3, v4] ∧ ds = [d, d', d'', d3, d4] ∧ ps = p ++ p' ++ p'' ++ p3 ++ p4 ∧ DataW.Trod enc P w base spare held t v d p ∧ DataW.Trod enc P w base spare held t' v' d' p' ∧ DataW.Trod enc P w base spare held t'' v'' d'' p'' ∧ DataW.Trod enc P w base spare held t3 v3 d3 p3 ∧ DataW.Trod enc P w base spare held t4 v4 d4 p4 := by
  obtain ⟨v, vs, d, ds', p, q, hargs, rfl, rfl, hd, hrest⟩ := trodAll_cons h
  obtain ⟨v', vs', d', ds'', p', q', rfl, rfl, rfl, hd', hrest'⟩ := trodAll_cons hrest
  obtain ⟨v'', vs'', d'', ds2, p'', q'', rfl, rfl, rfl, hd'', hrest2⟩ := trodAll_cons hrest'
  obtain ⟨v3, vs3, d3, ds3, p3, q3, rfl, rfl, rfl, hd3, hrest3⟩ := trodAll_cons hrest2
  obtain ⟨v4, vs4, d4, ds4, p4, q4, rfl, rfl, rfl, hd4, hrest4⟩ := trodAll_cons hrest3
  obtain ⟨rfl, rfl, rfl⟩ := trodAll_nil hrest4
  exact ⟨v, v', v'', v3, v4, d, d', d'', d3, d4, p, p', p'', p3, p4, by cases args; simp_all, rfl, by simp, hd, hd', hd'', hd3, hd4⟩

set_option maxRecDepth 100000 in
theorem termPuts_lifted (os : Os) (started : os.Started) (H : Type) (enc : TypeId × Value → H) :
    ReturnsInHanded {} Tryd.checked os 12 .any (fun w args => (Rows.termPutsSpec.pre enc Tryd.prog Tryd.f12 [] false w args ∧ laidMetH Tryd.prog Rows.lexNamesRow.laid w) ∧ sizedMet enc Tryd.prog Tryd.f12 (OpenSpec.ofChange Rows.termPutsSpec) false w args)
      (Rows.termPutsSpec.post enc Tryd.prog Tryd.f12 false true false false) := by
  refine returnsInHanded_of_change_and (C := Tryd.checked) (X := fun w _ => laidMetH Tryd.prog Rows.lexNamesRow.laid w) (fun _ _ _ hh h => h.of_heap hh) Tryd.own started (by kernel_rfl) Tryd.func12
    (ChangeSpec.witness_shaped (enc := enc) (C := Tryd.checked) (os := os) (X := fun w _ => laidMetH Tryd.prog Rows.lexNamesRow.laid w) false (World.doorLaid Tryd.prog 400 os) #[.agg #[.slice none 0 0, .slice none 0 0], .agg #[.string ⟨#[]⟩, .string ⟨#[]⟩, .slice none 0 0], .slice none 0 0, .agg #[.string ⟨#[]⟩, .string ⟨#[]⟩, .slice none 0 0], .slice none 0 0] 8 rfl (World.shaped_of_RefB (by kernel_rfl) (by kernel_rfl)) (by kernel_rfl) (by kernel_rfl) (by kernel_rfl) (door_met os _)) ?_
  intro W base args ds gs before hval0 hW _ _ hL _
  have hval : ∀ (j : Nat) t v, Tryd.f12.params[j]? = some t → args[j]? = some v → Value.okWide Tryd.prog W .any base t v := hval0
  have hW' := hW
  obtain ⟨p, q, hA0, hV, rfl, hfz, hnd⟩ := hW
  have hA : DataW.TrodAll enc Tryd.prog W 0 (fun _ => true) true Tryd.f12.params.toList args.toList ds p := hA0
  rw [Tryd.params12] at hA hval
  obtain ⟨v0, v1, v2, v3, v4, d0, d1, d2, d3, d4, p0, p1, p2, p3, p4, rfl, rfl, rfl, h0, h1, h2, h3, h4⟩ := trodAll_five hA
  obtain ⟨g, A1, c1, A2, c2, rfl, hog, hs, hd⟩ := open_sig (hval 0 82 v0 rfl rfl) h0
  obtain ⟨a, A, ca, rfl, hoa, hra⟩ := open_term (hval 1 56 v1 rfl rfl) h1
  obtain ⟨P, cp, L, rfl, hcp, hcm, hpl⟩ := open_ints (hval 2 57 v2 rfl rfl) h2
  obtain ⟨u, Au, cu, rfl, hou, hru⟩ := open_term (hval 3 56 v3 rfl rfl) h3
  obtain ⟨Q, cq, M, rfl, hcq, hcn, hql⟩ := open_ints (hval 4 57 v4 rfl rfl) h4
  refine (termPuts_any g A1 c1 A2 c2 a u A Au ca cu P cp L Q cq M W (pairs_of_laid hL) hs hd hog hra hru hpl hcp hcm hql hcq hcn hoa hou).mono fun e W' ⟨he, hb⟩ => ?_
  subst he
  exact ⟨_, rfl, law_post (tb := 4) Tryd.laidOut (by rw [Tryd.params12]; intro t ht; simp at ht; rcases ht with rfl | rfl | rfl | rfl | rfl <;> exact ⟨by kernel_rfl, of_decide_eq_true (by kernel_rfl)⟩) Tryd.underlying4 (by kernel_rfl) rfl (by simp [Rows.termPutsSpec]) hW' hb⟩

theorem termPuts_holds : Rows.TermPutsSaid :=
  OpenClaim.holds_of_wide 12 Tryd.f12 rfl rfl rfl rfl rfl rfl rfl ⟨rfl, rfl, rfl, rfl, rfl⟩ rfl rfl rfl rfl rfl (by kernel_rfl) Tryd.func12 (by kernel_rfl)
    (of_decide_eq_true (by kernel_rfl)) (by unfold Func.isWrapper; first | (rw [if_pos (by decide +kernel)]; kernel_rfl) | (rw [if_neg (by decide +kernel)]; exact ⟨rfl, rfl⟩))
    (fun os started H enc _ => termPuts_lifted os started H enc)

/-- The tied card. -/
theorem termPuts_card : Rows.TermPutsCardSaid :=
  Claim7.holds_tied_plain_at .later [] [.data] true (true, Rows.termPutsCard.stood.harness.2) false
    termPuts_holds (fun _ h => by cases h) (by kernel_rfl) (fun _ h => by cases h) termPuts_row_tie rfl ⟨rfl, rfl⟩ (by kernel_rfl) rfl
    (fun f fn hf hfn => by
      obtain rfl : f = 12 := Option.some.inj ((show Tryd.prog.funcNamed Rows.termPutsRow.func = some 12 by kernel_rfl).symm.trans hf) |>.symm
      obtain rfl : fn = Tryd.f12 := (Option.some.inj (Tryd.func12.symm.trans hfn)).symm
      exact ⟨by kernel_rfl, fun j t ht => by
        rw [Tryd.params12] at ht
        have h3 : t ∈ ([82, 56, 57, 56, 57] : List TypeId) := by
          have := Array.mem_of_getElem? ht
          simpa using this
        simp only [List.mem_cons, List.not_mem_nil, or_false] at h3
        rcases h3 with rfl | rfl | rfl | rfl | rfl
        · exact (show Tryd.prog.wantsStandIn 82 = false by kernel_rfl)
        · exact (show Tryd.prog.wantsStandIn 56 = false by kernel_rfl)
        · exact (show Tryd.prog.wantsStandIn 57 = false by kernel_rfl)
        · exact (show Tryd.prog.wantsStandIn 56 = false by kernel_rfl)
        · exact (show Tryd.prog.wantsStandIn 57 = false by kernel_rfl)⟩)
    (by kernel_rfl)
#print axioms termPuts_card
end Go.Proofs.YthbcfcbonmphfaaDoor
