/- What is put at a path; Replace; the reference's At, Put and Replace; TermPaths: the law's walk. -/
import Derived.Test.YthbcfcbonmphfaaDoorJoinSBundle
import Derived.Test.YthbcfcbonmphfaaDoorTermJBundle
import Derived.Test.YthbcfcbonmphfaaDoorTermKBundle
import Derived.Deep.AppendLies
import Derived.Deep.QuietTactic
import Derived.Deep.RegionHeld3
import Derived.BigQuiet
import Derived.StillTailTactics
import Derived.IntWalk
import Derived.Test.YthbcfcbonmphfaaDoorTermNBundle
import Derived.Test.YthbcfcbonmphfaaDoorTermOrderWBundle
namespace Go.Proofs.YthbcfcbonmphfaaDoor
open Go.RowKit Go.Shelf
set_option maxRecDepth 100000

/-- A term with another one at a path that leads somewhere. -/
def putAt : Tm → List Int → Tm → Tm
  | _, [], u => u
  | t, i :: is, u => match t.ks[i.toNat]? with | none => t | some k => .mk t.nm t.st (t.ks.set i.toNat (putAt k is u))
theorem subAt_cons {t s : Tm} {i : Int} {is : List Int} (h : subAt t (i :: is) = some s) : ∃ (n : Nat) (k : Tm), i = (n : Int) ∧ t.ks[n]? = some k ∧ subAt k is = some s := by
  unfold subAt at h
  by_cases hi : i < 0 ∨ (t.ks.length : Int) ≤ i
  · rw [if_pos hi] at h; cases h
  · rw [if_neg hi] at h
    cases hk : t.ks[i.toNat]? with
    | none => rw [hk] at h; cases h
    | some k => rw [hk] at h; exact ⟨i.toNat, k, by omega, hk, h⟩
theorem subAt_at {t k : Tm} {n : Nat} (is : List Int) (h : t.ks[n]? = some k) : subAt t ((n : Int) :: is) = subAt k is := by
  have hlt := (List.getElem?_eq_some_iff.1 h).1
  rw [subAt, if_neg (by omega)]
  simp only [Int.toNat_natCast, h]
theorem putAt_cons {t k : Tm} {n : Nat} (is : List Int) (u : Tm) (h : t.ks[n]? = some k) : putAt t ((n : Int) :: is) u = .mk t.nm t.st (t.ks.set n (putAt k is u)) := by
  rw [putAt]
  simp only [Int.toNat_natCast, h]
theorem mem_set {α : Type} {l : List α} {n : Nat} {x y : α} (h : y ∈ l.set n x) : y = x ∨ y ∈ l := by
  rcases List.mem_or_eq_of_mem_set h with h | h
  · exact .inr h
  · exact .inl h
theorem sizes_set : ∀ (l : List Tm) (n : Nat) (k x : Tm), l[n]? = some k → sizes (l.set n x) + k.size = sizes l + x.size
  | [], _, _, _, h => by simp at h
  | y :: l, 0, k, x, h => by
    simp at h
    subst h
    rw [List.set_cons_zero, sizes, sizes]; omega
  | y :: l, n + 1, k, x, h => by
    have := sizes_set l n k x (by simpa using h)
    rw [List.set_cons_succ, sizes, sizes]; omega
theorem depths_set : ∀ (l : List Tm) (n : Nat) (x : Tm), depths (l.set n x) ≤ max (depths l) x.depth
  | [], _, _ => by simp [depths]
  | y :: l, 0, x => by rw [List.set_cons_zero, depths, depths]; omega
  | y :: l, n + 1, x => by
    have := depths_set l n x
    rw [List.set_cons_succ, depths, depths]; omega
theorem putAt_size : ∀ (L : List Int) (t u : Tm), (putAt t L u).size ≤ t.size + u.size
  | [], t, u => by rw [putAt]; omega
  | i :: is, t, u => by
    rw [putAt]
    cases hk : t.ks[i.toNat]? with
    | none => show t.size ≤ _; omega
    | some k =>
      have h1 := sizes_set t.ks i.toNat k (putAt k is u) hk
      have h2 := putAt_size is k u
      cases t with
      | mk nm st ks =>
        show (Tm.mk nm st (ks.set i.toNat (putAt k is u))).size ≤ _
        rw [Tm.size, Tm.size]
        dsimp only [Tm.ks_mk] at h1
        omega
theorem putAt_depth : ∀ (L : List Int) (t u : Tm), (putAt t L u).depth ≤ t.depth + u.depth
  | [], t, u => by rw [putAt]; omega
  | i :: is, t, u => by
    rw [putAt]
    cases hk : t.ks[i.toNat]? with
    | none => show t.depth ≤ _; omega
    | some k =>
      have h1 := depths_set t.ks i.toNat (putAt k is u)
      have h2 := putAt_depth is k u
      have h3 := (sizes_get t.ks i.toNat k hk).2
      cases t with
      | mk nm st ks =>
        show (Tm.mk nm st (ks.set i.toNat (putAt k is u))).depth ≤ _
        rw [Tm.depth, Tm.depth]
        dsimp only [Tm.ks_mk] at h1 h3
        omega
theorem putAt_ok {m : Nat} : ∀ (L : List Int) (t u : Tm), okT m t → okT m u → okT m (putAt t L u)
  | [], t, u, _, hu => by rw [putAt]; exact hu
  | i :: is, t, u, ht, hu => by
    rw [putAt]
    cases hk : t.ks[i.toNat]? with
    | none => exact ht
    | some k =>
      refine .mk _ _ _ ht.nm ht.st (by rw [List.length_set]; exact ht.len) (fun y hy => ?_)
      rcases mem_set hy with rfl | hy
      · exact putAt_ok is k u (ht.kid (List.mem_of_getElem? hk)) hu
      · exact ht.kid hy

/-- Every node has the names that it must have. -/
inductive Nmd : Tm → Prop
  | mk (nm st : ByteArray) (ks : List Tm) (h : namedT (.mk nm st ks) = true) (h2 : ∀ k, k ∈ ks → Nmd k) : Nmd (.mk nm st ks)
theorem Nmd.top {t : Tm} (h : Nmd t) : namedT t = true := by cases h; assumption
theorem Nmd.kid {t k : Tm} (h : Nmd t) (hk : k ∈ t.ks) : Nmd k := by cases h with | mk nm st ks h h2 => exact h2 k hk
mutual
theorem nmd_pre : ∀ (t : Tm) (d : Nat), Nmd t → ∀ x ∈ t.pre d, namedT x.2 = true
  | .mk nm st ks, d, h, x, hx => by
    simp only [Tm.pre, List.mem_cons] at hx
    rcases hx with rfl | hx
    · exact h.top
    · exact nmd_pres ks (d + 1) (fun k hk => h.kid hk) x hx
theorem nmd_pres : ∀ (ks : List Tm) (d : Nat), (∀ k, k ∈ ks → Nmd k) → ∀ x ∈ pres d ks, namedT x.2 = true
  | [], _, _, x, hx => by simp [pres] at hx
  | k :: ks, d, h, x, hx => by
    simp only [pres, List.mem_append] at hx
    rcases hx with hx | hx
    · exact nmd_pre k d (h k (by simp)) x hx
    · exact nmd_pres ks d (fun k hk => h k (by simp [hk])) x hx
end
mutual
theorem pre_nmd : ∀ (t : Tm) (d : Nat), (∀ x ∈ t.pre d, namedT x.2 = true) → Nmd t
  | .mk nm st ks, d, h => by
    rw [Tm.pre] at h
    exact .mk nm st ks (h (d, .mk nm st ks) (by simp)) (pres_nmd ks (d + 1) (fun x hx => h x (by simp [hx])))
theorem pres_nmd : ∀ (ks : List Tm) (d : Nat), (∀ x ∈ pres d ks, namedT x.2 = true) → ∀ k, k ∈ ks → Nmd k
  | [], _, _, k, hk => by cases hk
  | y :: ks, d, h, k, hk => by
    rw [pres] at h
    rcases List.mem_cons.1 hk with he | hk
    · rw [he]; exact pre_nmd y d (fun x hx => h x (by simp [hx]))
    · exact pres_nmd ks d (fun x hx => h x (by simp [hx])) k hk
end
theorem formed_nmd {t : Tm} (h : formed t = true) : Nmd t := by
  unfold formed at h
  simp only [Bool.and_eq_true, List.all_eq_true] at h
  exact pre_nmd t 1 h.1.2
theorem nmd_all {t : Tm} (h : Nmd t) (d : Nat) : (t.pre d).all (fun x => namedT x.2) = true := by
  rw [List.all_eq_true]; exact nmd_pre t d h
theorem namedT_len {nm st : ByteArray} {ks ks' : List Tm} (h : ks'.length = ks.length) : namedT (.mk nm st ks') = namedT (.mk nm st ks) := by
  have e : decide (0 < ks'.length) = decide (0 < ks.length) := by rw [h]
  show (if (!st.toList.isEmpty && (!isName st.toList || decide (0 < ks'.length))) = true then false else isName nm.toList) = (if (!st.toList.isEmpty && (!isName st.toList || decide (0 < ks.length))) = true then false else isName nm.toList)
  rw [e]
theorem putAt_nmd : ∀ (L : List Int) (t u : Tm), Nmd t → Nmd u → Nmd (putAt t L u)
  | [], t, u, _, hu => by rw [putAt]; exact hu
  | i :: is, t, u, ht, hu => by
    rw [putAt]
    cases hk : t.ks[i.toNat]? with
    | none => exact ht
    | some k =>
      refine .mk _ _ _ ?_ (fun y hy => ?_)
      · rw [namedT_len (ks := t.ks) (List.length_set), ← Tm.eta]; exact ht.top
      · rcases mem_set hy with rfl | hy
        · exact putAt_nmd is k u (ht.kid (List.mem_of_getElem? hk)) hu
        · exact ht.kid hy

/-- What Replace answers: 0, or the number of an error. -/
def replCode (t : Tm) (L : List Int) (u : Tm) : Int :=
  if formed t = true ∧ formed u = true then (if (subAt t L).isSome = true then (if fitsL ((putAt t L u).pre 1) = true then (if agreeL ((putAt t L u).pre 1) = true then 0 else 11) else 4) else 2) else 1
theorem repl_arg {t u : Tm} {L : List Int} (h : ¬ (formed t = true ∧ formed u = true)) : replCode t L u = 1 := by unfold replCode; rw [if_neg h]
theorem repl_range {t u : Tm} {L : List Int} (h : formed t = true ∧ formed u = true) (h2 : subAt t L = none) : replCode t L u = 2 := by unfold replCode; rw [if_pos h, h2]; rfl
theorem repl_full {t u s : Tm} {L : List Int} (h : formed t = true ∧ formed u = true) (h2 : subAt t L = some s) (h3 : fitsL ((putAt t L u).pre 1) = false) : replCode t L u = 4 := by unfold replCode; rw [if_pos h, h2, h3]; rfl
theorem repl_type {t u s : Tm} {L : List Int} (h : formed t = true ∧ formed u = true) (h2 : subAt t L = some s) (h3 : fitsL ((putAt t L u).pre 1) = true) (h4 : agreeL ((putAt t L u).pre 1) = false) : replCode t L u = 11 := by unfold replCode; rw [if_pos h, h2, h3, h4]; rfl
theorem repl_ok {t u s : Tm} {L : List Int} (h : formed t = true ∧ formed u = true) (h2 : subAt t L = some s) (h3 : fitsL ((putAt t L u).pre 1) = true) (h4 : agreeL ((putAt t L u).pre 1) = true) : replCode t L u = 0 := by unfold replCode; rw [if_pos h, h2, h3, h4]; rfl
theorem repl_zero {t u : Tm} {L : List Int} (h : replCode t L u = 0) : formed t = true ∧ formed u = true ∧ (∃ s, subAt t L = some s) ∧ formed (putAt t L u) = true := by
  by_cases h1 : formed t = true ∧ formed u = true
  · cases hs : subAt t L with
    | none => rw [repl_range h1 hs] at h; exact absurd h (by decide)
    | some s =>
      cases h3 : fitsL ((putAt t L u).pre 1) with
      | false => rw [repl_full h1 hs h3] at h; exact absurd h (by decide)
      | true =>
        cases h4 : agreeL ((putAt t L u).pre 1) with
        | false => rw [repl_type h1 hs h3 h4] at h; exact absurd h (by decide)
        | true =>
          refine ⟨h1.1, h1.2, ⟨s, rfl⟩, ?_⟩
          unfold formed
          rw [h3, h4, nmd_all (putAt_nmd L t u (formed_nmd h1.1) (formed_nmd h1.2)) 1]; rfl
  · rw [repl_arg h1] at h; exact absurd h (by decide)
theorem formed_put {t u : Tm} {L : List Int} (h : formed t = true ∧ formed u = true) : formed (putAt t L u) = (fitsL ((putAt t L u).pre 1) && agreeL ((putAt t L u).pre 1)) := by
  unfold formed
  rw [nmd_all (putAt_nmd L t u (formed_nmd h.1) (formed_nmd h.2)) 1, Bool.and_true]

/-- Names and lists that are not long for big. -/
inductive okB : Tm → Prop
  | mk (nm st : ByteArray) (ks : List Tm) (h1 : nm.size ≤ 100) (h2 : st.size ≤ 100) (h3 : ks.length ≤ 40) (h4 : ∀ k, k ∈ ks → okB k) : okB (.mk nm st ks)
theorem okB.kid {t k : Tm} (h : okB t) (hk : k ∈ t.ks) : okB k := by cases h with | mk _ _ _ _ _ _ h4 => exact h4 k hk
theorem okB.top {t : Tm} (h : okB t) : t.nm.size ≤ 100 ∧ t.st.size ≤ 100 ∧ t.ks.length ≤ 40 := by cases h; exact ⟨by assumption, by assumption, by assumption⟩
theorem okB.okT {t : Tm} (h : okB t) : okT 100 t := by
  induction h with
  | mk nm st ks h1 h2 h3 _ ih => exact .mk nm st ks h1 h2 (by omega) ih
theorem putAt_okB : ∀ (L : List Int) (t u : Tm), okB t → okB u → okB (putAt t L u)
  | [], t, u, _, hu => by rw [putAt]; exact hu
  | i :: is, t, u, ht, hu => by
    rw [putAt]
    cases hk : t.ks[i.toNat]? with
    | none => exact ht
    | some k =>
      refine .mk _ _ _ ht.top.1 ht.top.2.1 (by rw [List.length_set]; exact ht.top.2.2) (fun y hy => ?_)
      rcases mem_set hy with rfl | hy
      · exact putAt_okB is k u (ht.kid (List.mem_of_getElem? hk)) hu
      · exact ht.kid hy
theorem subAt_okB : ∀ (L : List Int) (t s : Tm), okB t → subAt t L = some s → okB s ∧ s.size ≤ t.size ∧ s.depth ≤ t.depth
  | [], t, s, h, e => by
    unfold subAt at e
    injection e with e
    subst e
    exact ⟨h, Nat.le_refl _, Nat.le_refl _⟩
  | i :: is, t, s, h, e => by
    obtain ⟨n, k, rfl, hk, e⟩ := subAt_cons e
    obtain ⟨h1, h2, h3⟩ := subAt_okB is k s (h.kid (List.mem_of_getElem? hk)) e
    have h4 := sizes_get t.ks n k hk
    cases t with
    | mk nm st ks =>
      dsimp only [Tm.ks_mk] at h4
      rw [Tm.size, Tm.depth]
      exact ⟨h1, by omega, by omega⟩
mutual
theorem wk_ok2 : ∀ (t : Tm) (d left : Int), 0 ≤ d → 0 ≤ wk t d left → okB t ∧ (t.depth : Int) ≤ d ∧ wk t d left = left - t.size
  | .mk n s ks, d, left, hd, h => by
    by_cases hc : d = 0 ∨ 100 < n.size ∨ 100 < s.size ∨ 40 < ks.length
    · rw [wk_bad hc] at h; omega
    · rw [wk_good hc] at h ⊢
      obtain ⟨h1, h2, h3⟩ := wks_ok2 ks (d - 1) (left - 1) (by omega) h
      refine ⟨.mk n s ks (by omega) (by omega) (by omega) h1, ?_, ?_⟩
      · rw [Tm.depth]; omega
      · rw [h3, Tm.size]; omega
theorem wks_ok2 : ∀ (ks : List Tm) (d left : Int), 0 ≤ d → 0 ≤ wks ks d left → (∀ k, k ∈ ks → okB k) ∧ (depths ks : Int) ≤ d ∧ wks ks d left = left - sizes ks
  | [], d, left, hd, h => ⟨(fun k hk => by cases hk), by simp [depths]; omega, by simp [wks, sizes]⟩
  | k :: ks, d, left, hd, h => by
    rw [wks] at h ⊢
    by_cases hl : 0 ≤ left
    · rw [if_pos hl] at h ⊢
      by_cases hk : 0 ≤ wk k d left
      · obtain ⟨h1, h2, h3⟩ := wk_ok2 k d left hd hk
        obtain ⟨h4, h5, h6⟩ := wks_ok2 ks d (wk k d left) hd h
        refine ⟨fun y hy => ?_, ?_, ?_⟩
        · rcases List.mem_cons.1 hy with he | hy
          · rw [he]; exact h1
          · exact h4 y hy
        · rw [depths]; omega
        · rw [h6, h3, sizes]; omega
      · rw [wks_neg ks d (wk k d left) (by omega)] at h; omega
    · rw [if_neg hl] at h; omega
end
mutual
theorem wk_fit : ∀ (t : Tm) (d left : Int), okB t → (t.depth : Int) ≤ d → (t.size : Int) ≤ left → wk t d left = left - t.size
  | .mk n s ks, d, left, ho, hd, h => by
    rw [Tm.depth] at hd
    rw [Tm.size] at h ⊢
    have ht := ho.top
    dsimp only [Tm.nm_mk, Tm.st_mk, Tm.ks_mk] at ht
    rw [wk_good (by omega), wks_fit ks (d - 1) (left - 1) (fun k hk => ho.kid hk) (by omega) (by omega)]
    omega
theorem wks_fit : ∀ (ks : List Tm) (d left : Int), (∀ k, k ∈ ks → okB k) → (depths ks : Int) ≤ d → (sizes ks : Int) ≤ left → wks ks d left = left - sizes ks
  | [], d, left, _, _, h => by simp [wks, sizes]
  | k :: ks, d, left, ho, hd, h => by
    rw [depths] at hd
    rw [sizes] at h ⊢
    rw [wks, if_pos (by omega), wk_fit k d left (ho k (by simp)) (by omega) (by omega), wks_fit ks d _ (fun y hy => ho y (by simp [hy])) (by omega) (by omega)]
    omega
end
theorem fold_ok2 : ∀ (L : List Tm) (l : Int), 0 ≤ L.foldl (fun l t => wk t 80 l) l → (∀ t, t ∈ L → okB t ∧ t.depth ≤ 80) ∧ L.foldl (fun l t => wk t 80 l) l = l - sizes L
  | [], _, h => ⟨(fun t h => by cases h), by simp [sizes]⟩
  | x :: L, l, h => by
    rw [List.foldl_cons] at h ⊢
    have h0 : 0 ≤ wk x 80 l := by
      by_cases hn : wk x 80 l < 0
      · have := fold_neg L _ hn; omega
      · omega
    obtain ⟨h1, h2, h3⟩ := wk_ok2 x 80 l (by omega) h0
    obtain ⟨h4, h5⟩ := fold_ok2 L _ h
    refine ⟨fun t ht => ?_, ?_⟩
    · rcases List.mem_cons.1 ht with he | ht
      · rw [he]; exact ⟨h1, by omega⟩
      · exact h4 t ht
    · rw [h5, h3, sizes]; omega
/-- Terms that are not big are short, not deep, and have few nodes together. -/
theorem bigL_small {L : List Tm} (h : bigL L = false) : (∀ t, t ∈ L → okB t ∧ t.depth ≤ 80) ∧ sizes L ≤ 1100 := by
  unfold bigL at h
  have h0 : 0 ≤ bigN L := by have := of_decide_eq_false h; omega
  obtain ⟨h1, h2⟩ := fold_ok2 L 1100 h0
  refine ⟨h1, ?_⟩
  unfold bigN at h0
  rw [h2] at h0
  omega
theorem bigL_one {t : Tm} (h1 : okB t) (h2 : t.depth ≤ 80) (h3 : t.size ≤ 1100) : bigL [t] = false := by
  unfold bigL bigN
  rw [List.foldl_cons, List.foldl_nil, wk_fit t 80 1100 h1 (by omega) (by omega)]
  exact decide_eq_false (by omega)
theorem fitsL_depth {t : Tm} (h : fitsL (t.pre 1) = true) : t.depth ≤ 60 ∧ t.size ≤ 1000 := by
  unfold fitsL fitX at h
  simp only [Bool.and_eq_true, List.all_eq_true, decide_eq_true_eq] at h
  obtain ⟨x, hx, e⟩ := Tm.pre_deepest t 1
  have := (h.2 x hx).1
  rw [Tm.pre_length] at h
  exact ⟨by omega, h.1⟩
theorem formed_fits {t : Tm} (h : formed t = true) : fitsL (t.pre 1) = true := by
  unfold formed at h
  simp only [Bool.and_eq_true] at h
  exact h.1.1
/-- What is put together is not big. -/
theorem big_put {t u : Tm} {L : List Int} (ht : okB t) (hu : okB u) (h : formed (putAt t L u) = true) : bigL [putAt t L u] = false := by
  obtain ⟨h1, h2⟩ := fitsL_depth (formed_fits h)
  exact bigL_one (putAt_okB L t u ht hu) (by omega) (by omega)
theorem big_sub {t s : Tm} {L : List Int} (ht : okB t) (hd : t.depth ≤ 80) (hs : t.size ≤ 1100) (h : subAt t L = some s) : bigL [s] = false := by
  obtain ⟨h1, h2, h3⟩ := subAt_okB L t s ht h
  exact bigL_one h1 (by omega) (by omega)
theorem rcmp_self : ∀ t : Tm, rcmp t t = 0 := by
  intro t
  induction t using Tm.ind with
  | h nm st ks ih =>
    have hl : ∀ L : List Tm, (∀ k, k ∈ L → rcmp k k = 0) → rcmps L L = 0 := by
      intro L
      induction L with
      | nil => intro _; rfl
      | cons x L ihL =>
        intro h
        rw [rcmps, h x (by simp), if_neg (fun h => h rfl)]
        exact ihL (fun k hk => h k (by simp [hk]))
    have hb : ∀ s : ByteArray, bcmp s s = 0 := fun s => bcmp_zero.2 rfl
    have hn : ncmp ks.length ks.length = 0 := by unfold ncmp; rw [if_neg (by omega), if_neg (by omega)]
    rw [rcmp_eq rfl]
    dsimp only [Tm.nm_mk, Tm.st_mk, Tm.ks_mk]
    simp [hb, hn, hl ks ih]
theorem putAt_top {t s : Tm} {i : Int} {is : List Int} (u : Tm) (h : subAt t (i :: is) = some s) : (putAt t (i :: is) u).nm = t.nm ∧ (putAt t (i :: is) u).st = t.st ∧ (putAt t (i :: is) u).ks.length = t.ks.length := by
  obtain ⟨n, k, rfl, hk, _⟩ := subAt_cons h
  rw [putAt_cons is u hk]
  exact ⟨rfl, rfl, List.length_set⟩

/-- The world after a term is stored at an address. -/
def put3 (w : World) (b o : Nat) (u : Tm) (A : Option Addr) (c : Nat) : World :=
  ((w.setCell ⟨b, o, none⟩ (.string u.nm)).setCell ⟨b, o + 1, none⟩ (.string u.st)).setCell ⟨b, o + 2, none⟩ (.slice A u.ks.length c)
theorem put3_other (w : World) (b o : Nat) (u : Tm) (A : Option Addr) (c i : Nat) (h : i ≠ b) : (put3 w b o u A c).heap[i]? = w.heap[i]? := set3_heap w b o _ _ _ i h
theorem put3_size (w : World) (b o : Nat) (u : Tm) (A : Option Addr) (c : Nat) : (put3 w b o u A c).heap.size = w.heap.size := by simp [put3]
theorem put3_cells {w : World} {b o : Nat} {cur : Array Value} {T : TypeId} (h : w.heap[b]? = some (.cells cur T (0, 0))) (u : Tm) (A : Option Addr) (c : Nat) :
    (put3 w b o u A c).heap[b]? = some (.cells (((cur.setIfInBounds o (.string u.nm)).setIfInBounds (o + 1) (.string u.st)).setIfInBounds (o + 2) (.slice A u.ks.length c)) T (0, 0)) :=
  heap_setCell_same _ b (o + 2) _ T _ (heap_setCell_same _ b (o + 1) _ T _ (heap_setCell_same w b o cur T _ h))
theorem put3_at {w : World} {b o : Nat} {cur : Array Value} {T : TypeId} (h : w.heap[b]? = some (.cells cur T (0, 0))) (ho : o + 2 < cur.size) (u : Tm) (A : Option Addr) (c : Nat) :
    (put3 w b o u A c).cell? ⟨b, o, none⟩ = some (.string u.nm) ∧ (put3 w b o u A c).cell? ⟨b, o + 1, none⟩ = some (.string u.st) ∧ (put3 w b o u A c).cell? ⟨b, o + 2, none⟩ = some (.slice A u.ks.length c) := by
  have hc := put3_cells (o := o) h u A c
  refine ⟨?_, ?_, ?_⟩ <;> rw [cell_of_row _ b _ _ _ (0, 0) hc] <;> simp [Array.getElem?_setIfInBounds] <;> omega
theorem put3_off {w : World} {b o j : Nat} {cur : Array Value} {T : TypeId} (h : w.heap[b]? = some (.cells cur T (0, 0))) (hj : j < o ∨ o + 2 < j) (u : Tm) (A : Option Addr) (c : Nat) :
    (put3 w b o u A c).cell? ⟨b, j, none⟩ = w.cell? ⟨b, j, none⟩ := by
  have hc := put3_cells (o := o) h u A c
  rw [cell_of_row _ b _ _ _ (0, 0) hc, cell_of_row _ b _ _ _ (0, 0) h]
  rw [Array.getElem?_setIfInBounds_ne (by omega), Array.getElem?_setIfInBounds_ne (by omega), Array.getElem?_setIfInBounds_ne (by omega)]
theorem set_get {α : Type} {l : List α} {i j : Nat} {x y : α} (h : (l.set i x)[j]? = some y) : (j = i ∧ y = x) ∨ (j ≠ i ∧ l[j]? = some y) := by
  by_cases hj : j = i
  · subst hj
    have hlt := (List.getElem?_eq_some_iff.1 h).1
    rw [List.length_set] at hlt
    rw [List.getElem?_set_self hlt] at h
    injection h with h
    exact .inl ⟨rfl, h.symm⟩
  · rw [List.getElem?_set_ne (fun e => hj e.symm)] at h
    exact .inr ⟨hj, h⟩

/-- The parts of a term in memory, in blocks of which P holds. -/
inductive TIn (P : Nat → Prop) (w : World) : Tm → Option Addr → Prop
  | mk (nm st : ByteArray) (ks : List Tm) (A : Option Addr) (b off : Nat) (al : Nat → Option Addr) (cs : Nat → Nat)
    (hA : 0 < ks.length → A = some ⟨b, off, none⟩ ∧ P b)
    (h0 : ∀ i k, ks[i]? = some k → w.cell? ⟨b, off + i * 3, none⟩ = some (.string k.nm))
    (h1 : ∀ i k, ks[i]? = some k → w.cell? ⟨b, off + i * 3 + 1, none⟩ = some (.string k.st))
    (h2 : ∀ i k, ks[i]? = some k → w.cell? ⟨b, off + i * 3 + 2, none⟩ = some (.slice (al i) k.ks.length (cs i)))
    (hr : ∀ i k, ks[i]? = some k → TIn P w k (al i)) : TIn P w (.mk nm st ks) A
theorem TIn.keep {P Q : Nat → Prop} {w w' : World} {t : Tm} {A : Option Addr} (h : TIn P w t A) (hk : ∀ i, P i → w'.heap[i]? = w.heap[i]?) (hq : ∀ i, P i → Q i) : TIn Q w' t A := by
  induction h with
  | mk nm st ks A b off al cs hA h0 h1 h2 hr ih =>
    have hp : ∀ {i k}, ks[i]? = some k → P b := fun {i k} hi => (hA (by have := (List.getElem?_eq_some_iff.1 hi).1; omega)).2
    have hc : ∀ {i k} (o : Nat), ks[i]? = some k → w'.cell? ⟨b, o, none⟩ = w.cell? ⟨b, o, none⟩ := fun o hi => World.cell?_of_block (hk b (hp hi))
    exact .mk nm st ks A b off al cs (fun h => ⟨(hA h).1, hq _ (hA h).2⟩) (fun i k hi => (hc _ hi).trans (h0 i k hi)) (fun i k hi => (hc _ hi).trans (h1 i k hi)) (fun i k hi => (hc _ hi).trans (h2 i k hi)) ih
theorem TIn.mono {P Q : Nat → Prop} {w : World} {t : Tm} {A : Option Addr} (h : TIn P w t A) (hq : ∀ i, P i → Q i) : TIn Q w t A := h.keep (fun _ _ => rfl) hq
theorem TIn.rep {P : Nat → Prop} {n : Nat} {w : World} {t : Tm} {A : Option Addr} (h : TIn P w t A) (hn : ∀ i, P i → i < n) : TRep n w t A := by
  induction h with
  | mk nm st ks A b off al cs hA h0 h1 h2 hr ih => exact .mk nm st ks A b off al cs (fun h => ⟨(hA h).1, hn _ (hA h).2⟩) h0 h1 h2 ih
theorem TRep.tin {n : Nat} {w : World} {t : Tm} {A : Option Addr} (h : TRep n w t A) : TIn (fun i => i < n) w t A := by
  induction h with
  | mk nm st ks A b off al cs hA h0 h1 h2 hr ih => exact .mk nm st ks A b off al cs hA h0 h1 h2 ih
theorem TOwn.tin {w : World} {lo hi : Nat} {t : Tm} {A : Option Addr} (h : TOwn w lo hi t A) : TIn (fun i => lo ≤ i ∧ i < hi) w t A := by
  induction h with
  | mk lo hi nm st ks A b ls al cs hA hb h0 h1 h2 hl hr ih =>
    refine .mk nm st ks A b 0 al cs (fun h => ?_) (fun i k hi => by rw [Nat.zero_add]; exact h0 i k hi) (fun i k hi => by rw [Nat.zero_add]; exact h1 i k hi) (fun i k hi => by rw [Nat.zero_add]; exact h2 i k hi) (fun i k hi => (ih i k hi).mono (fun j hj => ?_))
    · obtain ⟨e1, e2, e3, e4⟩ := hA h
      have := mono_ls hl 0 ks.length (Nat.zero_le _) (Nat.le_refl _)
      exact ⟨e1, by omega, by omega⟩
    · have hlt := (List.getElem?_eq_some_iff.1 hi).1
      obtain ⟨e1, e2, e3, e4⟩ := hA (by omega)
      have m1 := mono_ls hl 0 i (Nat.zero_le _) (by omega)
      have m2 := mono_ls hl (i + 1) ks.length (by omega) (Nat.le_refl _)
      omega

/-- A term is stored at a path of a term whose parts lie in blocks of their own. -/
theorem TOwn.put {w : World} {lo hi : Nat} {t : Tm} {A : Option Addr} (h : TOwn w lo hi t A) : ∀ (L : List Int) (s : Tm), L ≠ [] → subAt t L = some s → ∀ (b0 o0 n c b o : Nat), w.cell? ⟨b0, o0 + 2, none⟩ = some (.slice A n c) → Loc w L b0 o0 b o →
    lo ≤ b ∧ b < hi ∧ (∃ cur, w.heap[b]? = some (.cells cur 56 (0, 0))) ∧
    ∀ (w5 : World), (∀ j, lo ≤ j → j < hi → w5.heap[j]? = w.heap[j]?) → ∀ (u : Tm) (A5 : Option Addr) (c5 : Nat) (P : Nat → Prop), (∀ j, lo ≤ j → j < hi → P j) → TIn P (put3 w5 b o u A5 c5) u A5 → TIn P (put3 w5 b o u A5 c5) (putAt t L u) A := by
  induction h with
  | mk lo hi nm st ks A b1 ls al cs hA hb h0 h1 h2 hl hr ih =>
    intro L s hL hs b0 o0 n c b o hc hloc
    cases L with
    | nil => exact absurd rfl hL
    | cons x is =>
      obtain ⟨i, k, rfl, hk, hs'⟩ := subAt_cons hs
      dsimp only [Tm.ks_mk] at hk
      have hlt := (List.getElem?_eq_some_iff.1 hk).1
      obtain ⟨rfl, hlo, hls0, hlsn⟩ := hA (by omega)
      obtain ⟨cur, hcur⟩ := hb (by omega)
      obtain ⟨b2, o2, n2, c2, hc2, hl2⟩ := hloc
      rw [hc] at hc2
      injection hc2 with hc2
      injection hc2 with hc2 _ _
      injection hc2 with hc2
      injection hc2 with e1 e2 _
      subst e1 e2
      rw [Int.toNat_natCast, Nat.zero_add] at hl2
      have m0 := mono_ls hl 0 ks.length (Nat.zero_le _) (Nat.le_refl _)
      have m1 := mono_ls hl 0 i (Nat.zero_le _) (by omega)
      have m2 := mono_ls hl (i + 1) ks.length (by omega) (Nat.le_refl _)
      have hkeep : ∀ (w5 : World), (∀ j, lo ≤ j → j < hi → w5.heap[j]? = w.heap[j]?) → ∀ (v : Tm) (A5 : Option Addr) (c5 : Nat) (P : Nat → Prop) (b' o' : Nat), (∀ j, lo ≤ j → j < hi → P j) → (b' = b1 ∨ (ls i ≤ b' ∧ b' < ls (i + 1))) → ∀ j k', j ≠ i → ks[j]? = some k' → TIn P (put3 w5 b' o' v A5 c5) k' (al j) := by
        intro w5 h5 v A5 c5 P b' o' hP hb' j k' hj hk'
        have hjl := (List.getElem?_eq_some_iff.1 hk').1
        have n1 := mono_ls hl 0 j (Nat.zero_le _) (by omega)
        have n2 := mono_ls hl (j + 1) ks.length (by omega) (Nat.le_refl _)
        have hap : j < i → ls (j + 1) ≤ ls i := fun h => mono_ls hl (j + 1) i (by omega) (by omega)
        have hap2 : i < j → ls (i + 1) ≤ ls j := fun h => mono_ls hl (i + 1) j (by omega) (by omega)
        refine ((hr j k' hk').keep (fun q hq1 hq2 => (put3_other w5 b' o' v A5 c5 q ?_).trans (h5 q (by omega) (by omega)))).tin.mono (fun q hq => hP q (by omega) (by omega))
        rcases hb' with rfl | hb'
        · omega
        · rcases Nat.lt_or_gt_of_ne hj with h | h
          · have := hap h; omega
          · have := hap2 h; omega
      cases is with
      | nil =>
        obtain ⟨rfl, rfl⟩ := hl2
        refine ⟨hlo, by omega, ⟨cur, hcur⟩, fun w5 h5 u A5 c5 P hP hu => ?_⟩
        have hc5 := (h5 b1 hlo (by omega)).trans hcur
        have hsz : i * 3 + 2 < cur.size := by
          have := h2 i k hk
          rw [cell_of_row _ b1 _ _ _ (0, 0) hcur] at this
          exact (Array.getElem?_eq_some_iff.1 this).1
        obtain ⟨p0, p1, p2⟩ := put3_at hc5 hsz u A5 c5
        have hoff : ∀ j q, j ≠ i → q < 3 → (put3 w5 b1 (i * 3) u A5 c5).cell? ⟨b1, j * 3 + q, none⟩ = w.cell? ⟨b1, j * 3 + q, none⟩ := fun j q hj hq => by
          rw [put3_off hc5 (by omega) u A5 c5, cell_of_row _ b1 _ _ _ (0, 0) hc5, cell_of_row _ b1 _ _ _ (0, 0) hcur]
        rw [putAt_cons [] u hk, putAt]
        refine .mk nm st _ (some ⟨b1, 0, none⟩) b1 0 (fun j => if j = i then A5 else al j) (fun j => if j = i then c5 else cs j) (fun _ => ⟨rfl, hP b1 hlo (by omega)⟩) (fun j k' hj => ?_) (fun j k' hj => ?_) (fun j k' hj => ?_) (fun j k' hj => ?_)
        · rcases set_get hj with ⟨rfl, rfl⟩ | ⟨hji, hk'⟩
          · rw [Nat.zero_add]; exact p0
          · rw [Nat.zero_add]; exact (hoff j 0 hji (by omega)).trans (h0 j k' hk')
        · rcases set_get hj with ⟨rfl, rfl⟩ | ⟨hji, hk'⟩
          · rw [Nat.zero_add]; exact p1
          · rw [Nat.zero_add]; exact (hoff j 1 hji (by omega)).trans (h1 j k' hk')
        · rcases set_get hj with ⟨rfl, rfl⟩ | ⟨hji, hk'⟩
          · rw [Nat.zero_add, if_pos rfl, if_pos rfl]; exact p2
          · rw [Nat.zero_add, if_neg hji, if_neg hji]; exact (hoff j 2 hji (by omega)).trans (h2 j k' hk')
        · rcases set_get hj with ⟨rfl, rfl⟩ | ⟨hji, hk'⟩
          · rw [if_pos rfl]; exact hu
          · rw [if_neg hji]; exact hkeep w5 h5 u A5 c5 P b1 _ hP (.inl rfl) j k' hji hk'
      | cons y is =>
        obtain ⟨g1, g2, g3, g4⟩ := ih i k hk (y :: is) s (by simp) hs' b1 (i * 3) k.ks.length (cs i) b o (h2 i k hk) hl2
        refine ⟨by omega, by omega, g3, fun w5 h5 u A5 c5 P hP hu => ?_⟩
        have hne : b1 ≠ b := by omega
        have hcell : ∀ q, (put3 w5 b o u A5 c5).cell? ⟨b1, q, none⟩ = w.cell? ⟨b1, q, none⟩ := fun q => World.cell?_of_block ((put3_other w5 b o u A5 c5 b1 hne).trans (h5 b1 hlo (by omega)))
        obtain ⟨e1, e2, e3⟩ := putAt_top u hs'
        rw [putAt_cons (y :: is) u hk]
        refine .mk nm st _ (some ⟨b1, 0, none⟩) b1 0 al cs (fun _ => ⟨rfl, hP b1 hlo (by omega)⟩) (fun j k' hj => ?_) (fun j k' hj => ?_) (fun j k' hj => ?_) (fun j k' hj => ?_)
        · rcases set_get hj with ⟨rfl, rfl⟩ | ⟨hji, hk'⟩
          · rw [Nat.zero_add, hcell, e1]; exact h0 _ k hk
          · rw [Nat.zero_add, hcell]; exact h0 j k' hk'
        · rcases set_get hj with ⟨rfl, rfl⟩ | ⟨hji, hk'⟩
          · rw [Nat.zero_add, hcell, e2]; exact h1 _ k hk
          · rw [Nat.zero_add, hcell]; exact h1 j k' hk'
        · rcases set_get hj with ⟨rfl, rfl⟩ | ⟨hji, hk'⟩
          · rw [Nat.zero_add, hcell, e3]; exact h2 _ k hk
          · rw [Nat.zero_add, hcell]; exact h2 j k' hk'
        · rcases set_get hj with ⟨rfl, rfl⟩ | ⟨hji, hk'⟩
          · exact g4 w5 (fun q h1 h2 => h5 q (by omega) (by omega)) u A5 c5 P (fun q h1 h2 => hP q (by omega) (by omega)) hu
          · exact hkeep w5 h5 u A5 c5 P b o hP (.inr ⟨g1, g2⟩) j k' hji hk'
end Go.Proofs.YthbcfcbonmphfaaDoor

/- TermRepl: Replace. -/namespace Go.Proofs.YthbcfcbonmphfaaDoor
open Go.RowKit Go.Shelf
set_option maxRecDepth 100000

/-- What Replace hands back. -/
def replPost (t : Tm) (L : List Int) (u : Tm) (w : World) (e : Ending) (w' : World) : Prop :=
  (if replCode t L u = 0 then ∃ A' c', e = .returned (.tuple #[TV (putAt t L u) A' c', .int .i64 0]) ∧ TRep w'.heap.size w' (putAt t L u) A' else e = .returned (.tuple #[TV0, .int .i64 (replCode t L u)])) ∧ Below w.heap.size w w'
theorem replPost_bad {t u : Tm} {L : List Int} {w w' : World} {k : Int} (h : replCode t L u = k) (hk : k ≠ 0) (hb : Below w.heap.size w w') : replPost t L u w (.returned (.tuple #[TV0, .int .i64 k])) w' := by
  unfold replPost; rw [h, if_neg hk]; exact ⟨rfl, hb⟩
theorem replPost_ok {t u : Tm} {L : List Int} {w w' : World} {A : Option Addr} {c : Nat} (h : replCode t L u = 0) (hr : TRep w'.heap.size w' (putAt t L u) A) (hb : Below w.heap.size w w') : replPost t L u w (.returned (.tuple #[TV (putAt t L u) A c, .int .i64 0])) w' := by
  unfold replPost; rw [if_pos h]; exact ⟨⟨A, c, rfl, hr⟩, hb⟩
theorem replPost_yes {t u : Tm} {L : List Int} {w w' : World} {e : Ending} (h : replPost t L u w e w') (hc : replCode t L u = 0) : (∃ A' c', e = .returned (.tuple #[TV (putAt t L u) A' c', .int .i64 0]) ∧ TRep w'.heap.size w' (putAt t L u) A') ∧ Below w.heap.size w w' := by
  unfold replPost at h; rw [if_pos hc] at h; exact h
theorem replPost_no {t u : Tm} {L : List Int} {w w' : World} {e : Ending} (h : replPost t L u w e w') (hc : replCode t L u ≠ 0) : e = .returned (.tuple #[TV0, .int .i64 (replCode t L u)]) ∧ Below w.heap.size w w' := by
  unfold replPost at h; rw [if_neg hc] at h; exact h

/-- The boxes of Replace. -/
structure RPW (t u : Tm) (A Au : Option Addr) (c cu : Nat) (w w' : World) : Prop where
  below : Below w.heap.size w w'
  bt : w'.heap[w.heap.size]? = some (.cells (tcells t A c) 56 (0, 0))
  bu : w'.heap[w.heap.size + 1]? = some (.cells (tcells u Au cu) 56 (0, 0))
  br : w'.heap[w.heap.size + 1 + 1]? = some (.cells #[.string ⟨#[]⟩, .string ⟨#[]⟩, .slice none 0 0] 56 (0, 0))
theorem RPW.next {t u : Tm} {A Au : Option Addr} {c cu : Nat} {w w1 w2 : World} (h : RPW t u A Au c cu w w1) (hb : Below w1.heap.size w1 w2) : RPW t u A Au c cu w w2 :=
  ⟨h.below.trans (hb.mono h.below.size), cells_below h.bt hb, cells_below h.bu hb, cells_below h.br hb⟩
theorem RPW.start (t u : Tm) (A Au : Option Addr) (c cu : Nat) (w : World) : RPW t u A Au c cu w (((w.alloc (.cells (tcells t A c) 56)).alloc (.cells (tcells u Au cu) 56)).alloc (.cells #[.string ⟨#[]⟩, .string ⟨#[]⟩, .slice none 0 0] 56)) := by
  have h1 := heap_alloc_new w (.cells (tcells t A c) 56)
  have h2 := heap_alloc_new (w.alloc (.cells (tcells t A c) 56)) (.cells (tcells u Au cu) 56)
  have h3 := heap_alloc_new ((w.alloc (.cells (tcells t A c) 56)).alloc (.cells (tcells u Au cu) 56)) (.cells #[.string ⟨#[]⟩, .string ⟨#[]⟩, .slice none 0 0] 56)
  simp only [World.size_alloc] at h2 h3
  exact ⟨(((Below.refl _ _).alloc (Nat.le_refl _) _).alloc (by simp) _).alloc (by simp; omega) _,
    (Below.heap_alloc _ _ _ (by simp; omega)).trans ((Below.heap_alloc _ _ _ (by simp)).trans h1),
    (Below.heap_alloc _ _ _ (by simp)).trans h2, h3⟩
theorem RPW.lt {t u : Tm} {A Au : Option Addr} {c cu : Nat} {w w1 : World} (h : RPW t u A Au c cu w w1) : w.heap.size + 3 ≤ w1.heap.size := by
  have := (Array.getElem?_eq_some_iff.1 h.br).1; omega
/-- Nothing of the boxes is written above them. -/
theorem RPW.set {t u : Tm} {A Au : Option Addr} {c cu : Nat} {w w1 : World} (h : RPW t u A Au c cu w w1) (b o : Nat) (v : Tm) (A5 : Option Addr) (c5 : Nat) (hb : w.heap.size + 3 ≤ b) : RPW t u A Au c cu w (put3 w1 b o v A5 c5) :=
  ⟨set3_below h.below b o _ _ _ (by omega), (put3_other _ _ _ _ _ _ _ (by omega)).trans h.bt, (put3_other _ _ _ _ _ _ _ (by omega)).trans h.bu, (put3_other _ _ _ _ _ _ _ (by omega)).trans h.br⟩

/-- The state behind the store. -/
theorem repl_store {t u s : Tm} {A Au A3 A5 : Option Addr} {c cu c3 c5 : Nat} {L : List Int} {w w3 W4 w5 : World} {b o : Nat} (hs : subAt t L = some s)
    (h3 : w.heap.size + 3 ≤ w3.heap.size) (hlo : ∃ lo, w.heap.size + 3 ≤ lo ∧ TOwn W4 lo w3.heap.size t A3) (h4 : RPW t u A Au c cu w W4) (hR : W4.heap[w3.heap.size]? = some (.cells (tcells t A3 c3) 56 (0, 0))) (hl : Loc W4 L w3.heap.size 0 b o)
    (hb5 : Below W4.heap.size W4 w5) (ho5 : TOwn w5 W4.heap.size w5.heap.size u A5) :
    (w.heap.size + 3 ≤ b ∧ b < W4.heap.size ∧ ∃ cur, W4.heap[b]? = some (.cells cur 56 (0, 0))) ∧
    RPW t u A Au c cu w (put3 w5 b o u A5 c5) ∧ ∃ AX cX, (put3 w5 b o u A5 c5).heap[w3.heap.size]? = some (.cells (tcells (putAt t L u) AX cX) 56 (0, 0)) ∧ TIn (fun i => w.heap.size + 3 ≤ i ∧ i < w5.heap.size) (put3 w5 b o u A5 c5) (putAt t L u) AX := by
  obtain ⟨lo, hlo1, hown⟩ := hlo
  have hRlt := (Array.getElem?_eq_some_iff.1 hR).1
  have hs5 := hb5.size
  have hu5 : ∀ b o, b < W4.heap.size → TIn (fun i => w.heap.size + 3 ≤ i ∧ i < w5.heap.size) (put3 w5 b o u A5 c5) u A5 := fun b o hb => (ho5.keep (fun j h1 h2 => put3_other w5 b o u A5 c5 j (by omega))).tin.mono (fun i hi => ⟨by omega, hi.2⟩)
  cases L with
  | nil =>
    obtain ⟨rfl, rfl⟩ := hl
    have hR5 := cells_below hR hb5
    refine ⟨⟨h3, hRlt, _, hR⟩, (h4.next hb5).set _ _ _ _ _ h3, A5, c5, ?_, by rw [putAt]; exact hu5 _ _ hRlt⟩
    rw [putAt, put3_cells (o := 0) hR5 u A5 c5]
    rfl
  | cons i is =>
    obtain ⟨g1, g2, g3, g4⟩ := hown.put (i :: is) s (by simp) hs w3.heap.size 0 t.ks.length c3 b o (by rw [cell_of_row _ _ _ _ _ (0, 0) hR]; rfl) hl
    refine ⟨⟨by omega, by omega, g3⟩, (h4.next hb5).set _ _ _ _ _ (by omega), A3, c3, ?_, ?_⟩
    · obtain ⟨e1, e2, e3⟩ := putAt_top u hs
      rw [put3_other _ _ _ _ _ _ _ (by omega), cells_below hR hb5]
      unfold tcells
      rw [e1, e2, e3]
    · exact g4 w5 (fun j h1 h2 => hb5.block j (by omega)) u A5 c5 _ (fun j h1 h2 => ⟨by omega, by omega⟩) (hu5 b o (by omega))

set_option maxHeartbeats 8000000 in
theorem Replace_any (t u : Tm) (A Au : Option Addr) (c cu : Nat) (P : Option Addr) (cp : Nat) (L : List Int) (w : World) (hrep : TRep w.heap.size w t A) (hru : TRep w.heap.size w u Au) (hp : SlI w.heap.size w P L) (hl : L.length ≤ maxLen) (hok : okT 1000000 t) (hou : okT 1000000 u)
    (hdp : t.depth ≤ 1000000) (hdu : u.depth ≤ 1000000) :
    Calls Tryd.prog 33 #[TV t A c, .slice P L.length cp, TV u Au cu] w (replPost t L u w) := by
  have HREP := Lib.hid hrep
  have HRU := Lib.hid hru
  have HP := Lib.hid hp
  have HOK := Lib.hid hok
  have HOU := Lib.hid hou
  have HOM := Lib.hid (hok.mono (m' := maxLen) (by unfold maxLen; omega))
  have HOUM := Lib.hid (hou.mono (m' := maxLen) (by unfold maxLen; omega))
  have HL := Lib.hid hl
  have H0 := Lib.hid (RPW.start t u A Au c cu w)
  clear hrep hru hp hok hou hl
  generalize hvt : formed t = vt
  have HVT := Lib.hid hvt
  unfold TV
  go_enter Tryd.func33, Tryd.ntmps33
  go_wp2_with fail
  refine (wellFormed_any t A c _ ((HREP.out.later H0.out.below).mono H0.out.below.size) HOM.out (by omega)).mono ?_
  rintro e w1 ⟨rfl, hb1⟩
  rw [hvt]
  clear hvt
  have H1 := Lib.hid (H0.out.next hb1)
  obtain ⟨⟨x0, x1, x2⟩, _⟩ := blk3 H1.out.bt
  obtain ⟨⟨y0, y1, y2⟩, _⟩ := blk3 H1.out.bu
  obtain ⟨⟨r0, r1, r2⟩, _⟩ := blk3 H1.out.br
  clear hb1 H0
  cases vt
  · go_wp2_with fail
    refine bodyPost_ret (v := .tuple #[TV0, .int .i64 1]) (by simp [results, Tryd.results33, go_sem, r0, r1, r2, TV0]) rfl ?_
    exact replPost_bad (repl_arg (fun h => by rw [HVT.out] at h; exact absurd h.1 (by decide))) (by decide) (set3_below H1.out.below (w.heap.size + 1 + 1) 0 _ _ _ (by omega))
  · generalize hvu : formed u = vu
    have HVU := Lib.hid hvu
    go_wp2_with fail
    refine (wellFormed_any u Au cu _ ((HRU.out.later H1.out.below).mono H1.out.below.size) HOUM.out (by omega)).mono ?_
    rintro e w2 ⟨rfl, hb2⟩
    rw [hvu]
    clear hvu
    have H2 := Lib.hid (H1.out.next hb2)
    clear hb2 x0 x1 x2 y0 y1 y2 r0 r1 r2
    obtain ⟨⟨x0, x1, x2⟩, _⟩ := blk3 H2.out.bt
    obtain ⟨⟨r0, r1, r2⟩, _⟩ := blk3 H2.out.br
    cases vu
    · go_wp2_with fail
      refine bodyPost_ret (v := .tuple #[TV0, .int .i64 1]) (by simp [results, Tryd.results33, go_sem, r0, r1, r2, TV0]) rfl ?_
      exact replPost_bad (repl_arg (fun h => by rw [HVU.out] at h; exact absurd h.2 (by decide))) (by decide) (set3_below H2.out.below (w.heap.size + 1 + 1) 0 _ _ _ (by omega))
    · go_wp2_with fail
      refine (termCopied_any t A c w2.heap.size w2 ((HREP.out.later H2.out.below).mono H2.out.below.size) (Nat.le_refl _) HOK.out).mono ?_
      rintro e w3 ⟨⟨A3, c3, rfl, ho3⟩, hb3⟩
      have H3 := Lib.hid (H2.out.next hb3)
      have hlt2 := H2.out.lt
      have hlt3 := H3.out.lt
      have hbA : Below w3.heap.size w3 (w3.alloc (.cells (tcells t A3 c3) 56)) := (Below.refl _ _).alloc (Nat.le_refl _) _
      have H4 := Lib.hid (H3.out.next hbA)
      have HR4 := Lib.hid (heap_alloc_new w3 (.cells (tcells t A3 c3) 56))
      have hlo : ∃ lo, w.heap.size + 3 ≤ lo ∧ TOwn (w3.alloc (.cells (tcells t A3 c3) 56)) lo w3.heap.size t A3 := ⟨w2.heap.size, hlt2, ho3.keep (fun i _ h => hbA.block i h)⟩
      have HLO := Lib.hid hlo
      have hs4 : (w3.alloc (.cells (tcells t A3 c3) 56)).heap.size = w3.heap.size + 1 := by simp
      clear hb3 ho3 hbA hlo x0 x1 x2 r0 r1 r2
      unfold TV
      go_upto_region 4 with fail
      generalize hW4 : w3.alloc (.cells (tcells t A3 c3) 56) = W4 at H4 HR4 HLO hs4 ⊢
      clear hW4
      obtain ⟨⟨x0, x1, x2⟩, _⟩ := blk3 HR4.out
      have hown := HLO.out
      have HT : Hid (TAt W4.heap.size W4 w3.heap.size 0 t) := by
        obtain ⟨lo, _, ho⟩ := hown
        exact ⟨A3, c3, x0, x1, x2, ho.rep.mono (by omega)⟩
      clear hown
      go_wp2_with fail
      refine (find_any W4.heap.size W4 t w3.heap.size 0 P cp L HL.out HT.out ((HP.out.later H4.out.below).mono H4.out.below.size) HOM.out).mono ?_
      rintro e w4 ⟨hf, rfl⟩
      have HS4 := Lib.hid hs4
      clear hs4 x0 x1 x2
      obtain ⟨⟨r0, r1, r2⟩, _⟩ := blk3 H4.out.br
      cases hsub : subAt t L with
      | none =>
        rw [hsub] at hf
        simp only at hf
        subst hf
        have HSU := Lib.hid hsub
        clear hsub
        go_wp2_with fail
        refine bodyPost_ret (v := .tuple #[TV0, .int .i64 2]) (by simp [results, Tryd.results33, go_sem, r0, r1, r2, TV0]) rfl ?_
        exact replPost_bad (repl_range ⟨HVT.out, HVU.out⟩ HSU.out) (by decide) (set3_below H4.out.below (w.heap.size + 1 + 1) 0 _ _ _ (by omega))
      | some s =>
        rw [hsub] at hf
        simp only at hf
        obtain ⟨b, o, rfl, ⟨A2, c2, u0, u1, u2, hru2⟩, _, hloc⟩ := hf
        have HSU := Lib.hid hsub
        have HLOC := Lib.hid hloc
        clear hsub hloc hru2
        obtain ⟨⟨y0, y1, y2⟩, _⟩ := blk3 H4.out.bu
        go_wp2_with fail
        refine (termCopied_any u Au cu w4.heap.size w4 ((HRU.out.later H4.out.below).mono H4.out.below.size) (Nat.le_refl _) HOU.out).mono ?_
        rintro e w5 ⟨⟨A5, c5, rfl, ho5⟩, hb5⟩
        obtain ⟨⟨k1, k2, cur, k3⟩, h6, AX, cX, hX, hin⟩ := repl_store (c5 := c5) HSU.out hlt3 HLO.out H4.out HR4.out HLOC.out hb5 ho5
        have H6 := Lib.hid h6
        have HX := Lib.hid hX
        have HIN := Lib.hid hin
        have hsz5 := hb5.size
        replace u0 := (hb5.cell (p := ⟨b, o, none⟩) k2).trans u0
        replace u1 := (hb5.cell (p := ⟨b, o + 1, none⟩) k2).trans u1
        replace u2 := (hb5.cell (p := ⟨b, o + 2, none⟩) k2).trans u2
        have k5 := cells_below k3 hb5
        have f0 : w5.frozen? ⟨b, o, none⟩ = false := by simp [World.frozen?, k5]
        have f1 : w5.frozen? ⟨b, o + 1, none⟩ = false := by simp [World.frozen?, k5]
        have f2 : w5.frozen? ⟨b, o + 2, none⟩ = false := by simp [World.frozen?, k5]
        clear ho5 hb5 h6 hX hin r0 r1 r2 y0 y1 y2 k3 k5 H4 HR4 HLO HT HLOC
        unfold TV
        go_upto_region 8 with fail
        generalize hW6 : ((w5.setCell ⟨b, o, none⟩ (.string u.nm)).setCell ⟨b, o + 1, none⟩ (.string u.st)).setCell ⟨b, o + 2, none⟩ (.slice A5 u.ks.length c5) = W6 at ⊢
        have e6 : put3 w5 b o u A5 c5 = W6 := hW6
        rw [e6] at H6 HX HIN
        have hs6 : w5.heap.size = W6.heap.size := by rw [← e6, put3_size]
        rw [hs6] at HIN
        clear hW6 e6 u0 u1 u2 f0 f1 f2
        obtain ⟨⟨x0, x1, x2⟩, _⟩ := blk3 HX.out
        have hokx := putAt_ok L t u HOM.out HOUM.out
        have HOX := Lib.hid hokx
        have hdx := putAt_depth L t u
        have HRX := Lib.hid (HIN.out.rep (n := W6.heap.size) (fun i h => h.2))
        clear hokx
        generalize hvf : fitsL ((putAt t L u).pre 1) = vf
        have HVF := Lib.hid hvf
        go_wp2_with fail
        refine (fits_any (putAt t L u) AX cX _ HRX.out HOX.out (by omega)).mono ?_
        rintro e w7 ⟨rfl, hb7⟩
        rw [hvf]
        clear hvf
        have H7 := Lib.hid (H6.out.next hb7)
        have HX7 := Lib.hid (cells_below HX.out hb7)
        have HIN7 := Lib.hid (HIN.out.keep (fun i h => hb7.block i h.2) (fun i h => h))
        have hs7 := hb7.size
        clear hb7 x0 x1 x2
        obtain ⟨⟨r0, r1, r2⟩, rf0, rf1, rf2⟩ := blk3 H7.out.br
        cases vf
        · go_wp2_with fail
          refine bodyPost_ret (v := .tuple #[TV0, .int .i64 4]) (by simp [results, Tryd.results33, go_sem, r0, r1, r2, TV0]) rfl ?_
          exact replPost_bad (repl_full ⟨HVT.out, HVU.out⟩ HSU.out HVF.out) (by decide) (set3_below H7.out.below (w.heap.size + 1 + 1) 0 _ _ _ (by omega))
        · obtain ⟨⟨x0, x1, x2⟩, _⟩ := blk3 HX7.out
          have hsz := fitsL_size HVF.out
          generalize hva : agreeL ((putAt t L u).pre 1) = va
          have HVA := Lib.hid hva
          have HRX7 := Lib.hid (HIN7.out.rep (n := w7.heap.size) (fun i h => by omega))
          go_wp2_with fail
          refine (varSorts_any (putAt t L u) AX cX _ HRX7.out HOX.out (by omega) (by omega)).mono ?_
          rintro e w8 ⟨⟨mm, rfl, _⟩, hb8⟩
          rw [hva]
          clear hva
          have H8 := Lib.hid (H7.out.next hb8)
          have HX8 := Lib.hid (cells_below HX7.out hb8)
          have HIN8 := Lib.hid (HIN7.out.keep (fun i h => hb8.block i (by omega)) (fun i h => h))
          have hs8 := hb8.size
          clear hb8 x0 x1 x2 r0 r1 r2 rf0 rf1 rf2
          obtain ⟨⟨r0, r1, r2⟩, rf0, rf1, rf2⟩ := blk3 H8.out.br
          obtain ⟨⟨x0, x1, x2⟩, _⟩ := blk3 HX8.out
          cases va
          · go_wp2_with fail
            refine bodyPost_ret (v := .tuple #[TV0, .int .i64 11]) (by simp [results, Tryd.results33, go_sem, r0, r1, r2, TV0]) rfl ?_
            exact replPost_bad (repl_type ⟨HVT.out, HVU.out⟩ HSU.out HVF.out HVA.out) (by decide) (set3_below H8.out.below (w.heap.size + 1 + 1) 0 _ _ _ (by omega))
          · go_wp2_with fail
            refine bodyPost_ret (v := .tuple #[TV (putAt t L u) AX cX, .int .i64 0]) (by simp [results, Tryd.results33, go_sem, r0, r1, r2, TV]) rfl ?_
            refine replPost_ok (repl_ok ⟨HVT.out, HVU.out⟩ HSU.out HVF.out HVA.out) ?_ (set3_below H8.out.below (w.heap.size + 1 + 1) 0 _ _ _ (by omega))
            exact (HIN8.out.keep (fun i h => set3_heap _ (w.heap.size + 1 + 1) 0 _ _ _ i (by omega)) (fun i h => h)).rep (fun i h => by simp; omega)
end Go.Proofs.YthbcfcbonmphfaaDoor

/- TermRef: The reference's At, Put, Replace. -/namespace Go.Proofs.YthbcfcbonmphfaaDoor
open Go.RowKit Go.Shelf
set_option maxRecDepth 100000

/-- Where At of the reference stands. -/
def RAInv (t : Tm) (L : List Int) (n₀ : Nat) (w : World) (k : Nat) (wr : World) : Prop :=
  ∃ (v : Tm) (Av : Option Addr) (cv : Nat), k ≤ L.length ∧ Below w.heap.size w wr ∧ wr.heap[w.heap.size]? = some (.cells (tcells v Av cv) 56 (0, 0)) ∧
    wr.heap[w.heap.size + 1]? = some (.cells #[.string ⟨#[]⟩, .string ⟨#[]⟩, .slice none 0 0] 56 (0, 0)) ∧ subAt t L = subAt v (L.drop k) ∧ TRep n₀ w v Av ∧ okT maxLen v
/-- What At of the reference hands back. -/
def refAtPost (t : Tm) (L : List Int) (n₀ : Nat) (w : World) (e : Ending) (w' : World) : Prop :=
  (match subAt t L with | none => e = .returned (.tuple #[TV0, .bool false]) | some s => ∃ A' c', e = .returned (.tuple #[TV s A' c', .bool true]) ∧ TRep n₀ w s A') ∧ Below w.heap.size w w'
theorem refAt_none {t : Tm} {L : List Int} {n₀ : Nat} {w w' : World} (h : subAt t L = none) (hb : Below w.heap.size w w') : refAtPost t L n₀ w (.returned (.tuple #[TV0, .bool false])) w' := by
  unfold refAtPost; rw [h]; exact ⟨rfl, hb⟩
theorem refAt_some {t s : Tm} {L : List Int} {n₀ : Nat} {w w' : World} {A : Option Addr} {c : Nat} (h : subAt t L = some s) (hr : TRep n₀ w s A) (hb : Below w.heap.size w w') : refAtPost t L n₀ w (.returned (.tuple #[TV s A c, .bool true])) w' := by
  unfold refAtPost; rw [h]; exact ⟨⟨A, c, rfl, hr⟩, hb⟩

set_option maxHeartbeats 4000000 in
theorem refAt_any (t : Tm) (A : Option Addr) (c : Nat) (P : Option Addr) (cp : Nat) (L : List Int) (n₀ : Nat) (w : World) (hrep : TRep n₀ w t A) (hp : SlI n₀ w P L) (hn : n₀ ≤ w.heap.size) (hl : L.length ≤ maxLen) (hok : okT maxLen t) :
    Calls Tryd.prog 38 #[TV t A c, .slice P L.length cp] w (refAtPost t L n₀ w) := by
  have HP := Lib.hid hp
  have H0 : Hid (RAInv t L n₀ w 0 ((w.alloc (.cells (tcells t A c) 56)).alloc (.cells #[.string ⟨#[]⟩, .string ⟨#[]⟩, .slice none 0 0] 56))) := by
    have h1 := heap_alloc_new w (.cells (tcells t A c) 56)
    have h2 := heap_alloc_new (w.alloc (.cells (tcells t A c) 56)) (.cells #[.string ⟨#[]⟩, .string ⟨#[]⟩, .slice none 0 0] 56)
    simp only [World.size_alloc] at h2
    exact ⟨t, A, c, Nat.zero_le _, ((Below.refl _ _).alloc (Nat.le_refl _) _).alloc (by simp) _, (Below.heap_alloc _ _ _ (by simp)).trans h1, h2, rfl, hrep, hok⟩
  unfold maxLen at hl
  clear hp hrep hok
  unfold TV
  go_enter Tryd.func38, Tryd.ntmps38
  go_wp2_with fail
  go_loopw [6] (fun y wr => ∃ k : Nat, y = .int .i64 k ∧ RAInv t L n₀ w k wr) (fun y _ => L.length - (intOf y).toNat)
  case atStart => exact ⟨0, rfl, H0.out⟩
  case round =>
    clear H0
    obtain ⟨k, rfl, v, Av, cv, hk, hbw, hbt, hbr, hsub, hrv, hov⟩ := hrel
    have HBW := Lib.hid hbw
    have HBT := Lib.hid hbt
    have HBR := Lib.hid hbr
    have HSUB := Lib.hid hsub
    have HRV := Lib.hid hrv
    have HOV := Lib.hid hov
    have hlv := hov.len
    unfold maxLen at hlv
    obtain ⟨⟨x0, x1, x2⟩, xf0, xf1, xf2⟩ := blk3 hbt
    obtain ⟨⟨r0, r1, r2⟩, rf0, rf1, rf2⟩ := blk3 hbr
    have hws := hbw.size
    have hltr := (Array.getElem?_eq_some_iff.1 hbr).1
    clear hbw hbt hbr hsub hrv hov
    by_cases hlt : k < L.length
    · obtain ⟨x, hx⟩ : ∃ x, L[k]? = some x := ⟨L[k]'hlt, List.getElem?_eq_getElem _⟩
      obtain ⟨pb, po, rfl, hpb, hc⟩ := HP.out (by omega)
      have y := (HBW.out.cell (p := ⟨pb, po + k, none⟩) (by show pb < _; omega)).trans (hc k x hx)
      have hd : L.drop k = x :: L.drop (k + 1) := by
        obtain ⟨h1, e1⟩ := List.getElem?_eq_some_iff.1 hx
        rw [List.drop_eq_getElem_cons h1, e1]
      have HD := Lib.hid hd
      have hI : (k : Int) < (L.length : Int) := by omega
      clear hc hx hd
      by_cases hneg : x < 0
      · have hb1 : decide (x < 0) = true := decide_eq_true hneg
        have HN := Lib.hid hneg
        clear hneg
        go_wp2_with fail
        go_quiet (fail)
        go_wp2_with fail
        refine bodyPost_ret (v := .tuple #[TV0, .bool false]) (by simp [results, Tryd.results38, go_sem, r0, r1, r2, TV0]) rfl ?_
        exact refAt_none (by rw [HSUB.out, HD.out, subAt, if_pos (.inl HN.out)]) (set3_below (below_drewN HBW.out _) (w.heap.size + 1) 0 _ _ _ (by omega))
      · have hb1 : decide (x < 0) = false := decide_eq_false hneg
        by_cases hge : (v.ks.length : Int) ≤ x
        · have hb2 : decide ((v.ks.length : Int) ≤ x) = true := decide_eq_true hge
          have HG := Lib.hid hge
          clear hge hneg
          go_wp2_with fail
          go_quiet (fail)
          go_wp2_with fail
          refine bodyPost_ret (v := .tuple #[TV0, .bool false]) (by simp [results, Tryd.results38, go_sem, r0, r1, r2, TV0]) rfl ?_
          exact refAt_none (by rw [HSUB.out, HD.out, subAt, if_pos (.inr HG.out)]) (set3_below (below_drewN HBW.out _) (w.heap.size + 1) 0 _ _ _ (by omega))
        · have hb2 : decide ((v.ks.length : Int) ≤ x) = false := decide_eq_false hge
          obtain ⟨n, rfl⟩ : ∃ n : Nat, x = (n : Int) := ⟨x.toNat, by omega⟩
          have hn : n < v.ks.length := by omega
          obtain ⟨kk, hkk⟩ : ∃ kk, v.ks[n]? = some kk := ⟨v.ks[n]'hn, List.getElem?_eq_getElem _⟩
          obtain ⟨tb, tq, A', c', rfl, htb, v0, v1, v2, hrk⟩ := HRV.out.kid (i := n) hkk
          replace v0 := (HBW.out.cell (p := ⟨tb, _, none⟩) (by show tb < _; omega)).trans v0
          replace v1 := (HBW.out.cell (p := ⟨tb, _, none⟩) (by show tb < _; omega)).trans v1
          replace v2 := (HBW.out.cell (p := ⟨tb, _, none⟩) (by show tb < _; omega)).trans v2
          have HRK := Lib.hid hrk
          have HKK := Lib.hid hkk
          have hIn : (n : Int) < (v.ks.length : Int) := by omega
          clear hkk hrk hneg hge
          go_wp2_with fail
          go_quiet (fail)
          go_wp2_with fail
          generalize hW : wr.drewN _ = W2 at ⊢
          have hb2' : Below w.heap.size w W2 := by rw [← hW]; exact below_drewN HBW.out _
          have hbt2 : W2.heap[w.heap.size]? = some (.cells (tcells v (some ⟨tb, tq, none⟩) cv) 56 (0, 0)) := by rw [← hW]; exact HBT.out
          have hbr2 : W2.heap[w.heap.size + 1]? = some (.cells #[.string ⟨#[]⟩, .string ⟨#[]⟩, .slice none 0 0] 56 (0, 0)) := by rw [← hW]; exact HBR.out
          have v0' : W2.cell? ⟨tb, tq + n * 3, none⟩ = some (.string kk.nm) := by rw [← hW]; exact v0
          have v1' : W2.cell? ⟨tb, tq + n * 3 + 1, none⟩ = some (.string kk.st) := by rw [← hW]; exact v1
          have v2' : W2.cell? ⟨tb, tq + n * 3 + 2, none⟩ = some (.slice A' kk.ks.length c') := by rw [← hW]; exact v2
          have y' : W2.cell? ⟨pb, po + k, none⟩ = some (.int .i64 (n : Int)) := by rw [← hW]; exact y
          clear hW x0 x1 x2 xf0 xf1 xf2 r0 r1 r2 rf0 rf1 rf2 v0 v1 v2 y
          obtain ⟨⟨x0, x1, x2⟩, xf0, xf1, xf2⟩ := blk3 hbt2
          have HB2 := Lib.hid hb2'
          have HBT2 := Lib.hid hbt2
          have HBR2 := Lib.hid hbr2
          clear hb2' hbt2 hbr2
          go_still_tail 8, (by kernel_rfl)
          change wpList _ _ _ _ _ W2.drew
          go_wp2_with fail
          go_roundw
          case rel =>
            have hc := put3_cells (w := W2.drew) (o := 0) HBT2.out kk A' c'
            refine ⟨k + 1, by go_num, kk, A', c', by omega, set3_below HB2.out.drew w.heap.size 0 _ _ _ (Nat.le_refl _), hc, (put3_other W2.drew w.heap.size 0 kk A' c' _ (by omega)).trans HBR2.out, ?_, HRK.out, HOV.out.kid (List.mem_of_getElem? HKK.out)⟩
            rw [HSUB.out, HD.out, subAt_at _ HKK.out]
          case measure => simp [intOf]; omega
    · have hkl : k = L.length := by omega
      have HKL := Lib.hid hkl
      have hI : ¬ (k : Int) < (L.length : Int) := by omega
      clear hkl
      go_wp2_with fail
      refine bodyPost_ret (v := .tuple #[TV v Av cv, .bool true]) (by simp [results, Tryd.results38, go_sem, r0, r1, r2, TV]) rfl ?_
      exact refAt_some (by rw [HSUB.out, HKL.out, List.drop_length, subAt]) HRV.out (set3_below HBW.out (w.heap.size + 1) 0 _ _ _ (by omega))

/-! ### Put -/
/-- A part, where its own parts lie. -/
abbrev Kt := Tm × Option Addr × Nat
def ktC (x : Kt) : List Value := [.string x.1.nm, .string x.1.st, .slice x.2.1 x.1.ks.length x.2.2]
def ktcs (l : List Kt) : List Value := l.flatMap ktC
theorem ktcs_cons (x : Kt) (l : List Kt) : ktcs (x :: l) = .string x.1.nm :: .string x.1.st :: .slice x.2.1 x.1.ks.length x.2.2 :: ktcs l := rfl
theorem ktcs_length : ∀ l : List Kt, (ktcs l).length = l.length * 3
  | [] => rfl
  | x :: l => by rw [ktcs_cons]; simp only [List.length_cons, ktcs_length l]; omega
theorem ktcs_at : ∀ (l : List Kt) (i : Nat) (x : Kt), l[i]? = some x → (ktcs l)[i * 3]? = some (.string x.1.nm) ∧ (ktcs l)[i * 3 + 1]? = some (.string x.1.st) ∧ (ktcs l)[i * 3 + 2]? = some (.slice x.2.1 x.1.ks.length x.2.2)
  | [], i, x, h => by simp at h
  | y :: l, 0, x, h => by
    simp at h
    subst h
    exact ⟨rfl, rfl, rfl⟩
  | y :: l, i + 1, x, h => by
    have ih := ktcs_at l i x (by simpa using h)
    rw [ktcs_cons, show (i + 1) * 3 = i * 3 + 1 + 1 + 1 by omega]
    simpa using ih
theorem ktcs_get : ∀ (l : List Kt) (j : Nat) (v : Value), (ktcs l)[j]? = some v → ∃ i x, l[i]? = some x ∧ ((j = i * 3 ∧ v = .string x.1.nm) ∨ (j = i * 3 + 1 ∧ v = .string x.1.st) ∨ (j = i * 3 + 2 ∧ v = .slice x.2.1 x.1.ks.length x.2.2))
  | [], j, v, h => by simp [ktcs] at h
  | x :: l, 0, v, h => by rw [ktcs_cons] at h; simp at h; exact ⟨0, x, rfl, .inl ⟨rfl, h.symm⟩⟩
  | x :: l, 1, v, h => by rw [ktcs_cons] at h; simp at h; exact ⟨0, x, rfl, .inr (.inl ⟨rfl, h.symm⟩)⟩
  | x :: l, 2, v, h => by rw [ktcs_cons] at h; simp at h; exact ⟨0, x, rfl, .inr (.inr ⟨rfl, h.symm⟩)⟩
  | x :: l, j + 3, v, h => by
    rw [ktcs_cons] at h
    obtain ⟨i, y, hy, hh⟩ := ktcs_get l j v (by simpa using h)
    refine ⟨i + 1, y, by simpa using hy, ?_⟩
    rcases hh with ⟨rfl, hh⟩ | ⟨rfl, hh⟩ | ⟨rfl, hh⟩
    · exact .inl ⟨by omega, hh⟩
    · exact .inr (.inl ⟨by omega, hh⟩)
    · exact .inr (.inr ⟨by omega, hh⟩)
theorem ktcs_one (l : List Kt) : ∀ v ∈ ktcs l, v.oneCell' = true := by
  intro v hv
  obtain ⟨j, hj⟩ := List.getElem?_of_mem hv
  obtain ⟨i, x, _, h⟩ := ktcs_get l j v hj
  rcases h with ⟨_, rfl⟩ | ⟨_, rfl⟩ | ⟨_, rfl⟩ <;> rfl
/-- The parts of a term as a list of cells. -/
theorem TRep.kts {n₀ : Nat} {w : World} {t : Tm} {A : Option Addr} (h : TRep n₀ w t A) : ∃ l : List Kt, l.length = t.ks.length ∧ (∀ (i : Nat) (k : Tm), t.ks[i]? = some k → ∃ (Ak : Option Addr) (ck : Nat), l[i]? = some (k, Ak, ck) ∧ TRep n₀ w k Ak) ∧
    (0 < t.ks.length → ∃ b off, A = some ⟨b, off, none⟩ ∧ b < n₀ ∧ ∀ (j : Nat) (v : Value), (ktcs l)[j]? = some v → w.cell? ⟨b, off + j, none⟩ = some v) := by
  cases h with
  | mk nm st ks A b off al cs hA h0 h1 h2 hr =>
    have hg : ∀ i : Nat, (ks.mapIdx (fun i k => ((k, al i, cs i) : Kt)))[i]? = (ks[i]?).map (fun k => (k, al i, cs i)) := fun i => List.getElem?_mapIdx
    refine ⟨ks.mapIdx (fun i k => (k, al i, cs i)), by simp, fun i k hi => ⟨al i, cs i, by rw [hg]; dsimp only [Tm.ks_mk] at hi; rw [hi]; rfl, hr i k hi⟩, fun hl => ⟨b, off, (hA hl).1, (hA hl).2, fun j v hj => ?_⟩⟩
    obtain ⟨i, x, hx, hh⟩ := ktcs_get _ j v hj
    rw [hg] at hx
    cases hk : ks[i]? with
    | none => rw [hk] at hx; cases hx
    | some k =>
      rw [hk] at hx
      simp only [Option.map_some, Option.some.injEq] at hx
      subst hx
      rcases hh with ⟨rfl, rfl⟩ | ⟨rfl, rfl⟩ | ⟨rfl, rfl⟩
      · exact h0 i k hk
      · exact h1 i k hk
      · exact h2 i k hk

/-- What Put hands back. -/
def putPost (x : Tm) (n₀ : Nat) (w : World) (e : Ending) (w' : World) : Prop :=
  (∃ A' c', e = .returned (TV x A' c') ∧ TIn (fun i => i < n₀ ∨ (w.heap.size + 3 ≤ i ∧ i < w'.heap.size)) w' x A') ∧ Below w.heap.size w w'
/-- The boxes of Put. -/
structure PW (t u : Tm) (A Au : Option Addr) (c cu R : Nat) (AO : Option Addr) (nO cO : Nat) (w w' : World) : Prop where
  rw : RPW t u A Au c cu w w'
  bo : w'.heap[R]? = some (.cells #[.string t.nm, .string t.st, .slice AO nO cO] 56 (0, 0))
  hR : w.heap.size + 3 ≤ R
theorem PW.next {t u : Tm} {A Au AO : Option Addr} {c cu R nO cO : Nat} {w w1 w2 : World} (h : PW t u A Au c cu R AO nO cO w w1) (hb : Below w1.heap.size w1 w2) : PW t u A Au c cu R AO nO cO w w2 := ⟨h.rw.next hb, cells_below h.bo hb, h.hR⟩
theorem PW.lt {t u : Tm} {A Au AO : Option Addr} {c cu R nO cO : Nat} {w w1 : World} (h : PW t u A Au c cu R AO nO cO w w1) : R < w1.heap.size := (Array.getElem?_eq_some_iff.1 h.bo).1
theorem PW.drew {t u : Tm} {A Au AO : Option Addr} {c cu R nO cO : Nat} {w w1 : World} (h : PW t u A Au c cu R AO nO cO w w1) : PW t u A Au c cu R AO nO cO w w1.drew := ⟨⟨h.rw.below.drew, h.rw.bt, h.rw.bu, h.rw.br⟩, h.bo, h.hR⟩
theorem PW.grown {t u : Tm} {A Au AO : Option Addr} {c cu R nO cO : Nat} {w w1 w2 : World} {g : Nat} (h : PW t u A Au c cu R AO nO cO w w1) (hg : w1.grownBy w2 (some g)) (hlt : R < g) : PW t u A Au c cu R AO nO cO w w2 := by
  have hs := h.lt
  have hR := h.hR
  exact ⟨⟨h.rw.below.grown hg (by omega) (fun k e => by cases e; omega), (hg.block _ (by omega) (fun e => by cases e; omega)).trans h.rw.bt, (hg.block _ (by omega) (fun e => by cases e; omega)).trans h.rw.bu, (hg.block _ (by omega) (fun e => by cases e; omega)).trans h.rw.br⟩, (hg.block _ hs (fun e => by cases e; omega)).trans h.bo, hR⟩
/-- The list of the copy is put into its box. -/
theorem PW.list {t u : Tm} {A Au AO : Option Addr} {c cu R nO cO : Nat} {w w1 : World} (h : PW t u A Au c cu R AO nO cO w w1) (A2 : Option Addr) (n2 c2 : Nat) : PW t u A Au c cu R A2 n2 c2 w (w1.setCell ⟨R, 2, none⟩ (.slice A2 n2 c2)) := by
  have hR := h.hR
  exact ⟨⟨h.rw.below.setCell (p := ⟨R, 2, none⟩) (by show w.heap.size ≤ R; omega) _, (Below.heap_setCell _ _ _ _ (by show w.heap.size ≠ R; omega)).trans h.rw.bt, (Below.heap_setCell _ _ _ _ (by show w.heap.size + 1 ≠ R; omega)).trans h.rw.bu, (Below.heap_setCell _ _ _ _ (by show w.heap.size + 1 + 1 ≠ R; omega)).trans h.rw.br⟩, by
    rw [heap_setCell_same _ _ 2 _ _ _ h.bo]; rfl, hR⟩
theorem PW.start {t u : Tm} {A Au : Option Addr} {c cu : Nat} {w W0 : World} (h : RPW t u A Au c cu w W0) : PW t u A Au c cu W0.heap.size A t.ks.length c w (W0.alloc (.cells #[.string t.nm, .string t.st, .slice A t.ks.length c] 56)) :=
  ⟨h.next ((Below.refl _ _).alloc (Nat.le_refl _) _), heap_alloc_new _ _, h.lt⟩

theorem snd_held {a : Prop} {w w' : World} (h : a ∧ Below w.heap.size w w') : Below w.heap.size w w' := h.2
theorem next_held {a : Prop} {w w1 w2 : World} (h : a ∧ Below w.heap.size w w1) (hb : Below w1.heap.size w1 w2) : Below w.heap.size w w2 := h.2.trans (hb.mono h.2.size)
theorem slI_tail {n₀ : Nat} {w : World} {pb po n : Nat} {is : List Int} (h : SlI n₀ w (some ⟨pb, po, none⟩) ((n : Int) :: is)) : SlI n₀ w (some ⟨pb, po + 1, none⟩) is := fun hl => by
  obtain ⟨b, off, e, hb, hc⟩ := h (by simp)
  injection e with e
  injection e with e1 e2 _
  subst e1 e2
  exact ⟨pb, po + 1, rfl, hb, fun i x hi => by rw [show po + 1 + i = po + (i + 1) by omega]; exact hc (i + 1) x hi⟩
/-- The state behind the store into the copy's list. -/
theorem put_end {t u k y : Tm} {A Au A5 : Option Addr} {c cu R cap n n₀ base g c5 : Nat} {l : List Kt} {w W5 wx W9 : World} (hn : n₀ ≤ w.heap.size) (hgW : R < g)
    (h5 : PW t u A Au c cu R (some ⟨g, 0, none⟩) t.ks.length cap w W5) (ho : W5.ownsRow base 56 3 (.slice (some ⟨g, 0, none⟩) t.ks.length cap) t.ks.length (ktcs l)) (hll : l.length = t.ks.length)
    (hlk : ∀ (i : Nat) (k : Tm), t.ks[i]? = some k → ∃ (Ak : Option Addr) (ck : Nat), l[i]? = some (k, Ak, ck) ∧ TRep n₀ w k Ak) (hk : t.ks[n]? = some k) (hbx : Below W5.drew.heap.size W5.drew wx)
    (hin : TIn (fun i => i < n₀ ∨ W5.drew.heap.size + 3 ≤ i ∧ i < wx.heap.size) wx y A5)
    (h9 : ((wx.setCell ⟨g, n * 3, none⟩ (.string y.nm)).setCell ⟨g, n * 3 + 1, none⟩ (.string y.st)).setCell ⟨g, n * 3 + 2, none⟩ (.slice A5 y.ks.length c5) = W9) :
    Hid (PW t u A Au c cu R (some ⟨g, 0, none⟩) t.ks.length cap w W9) ∧ Hid (TIn (fun i => i < n₀ ∨ w.heap.size + 3 ≤ i ∧ i < W9.heap.size) W9 (.mk t.nm t.st (t.ks.set n y)) (some ⟨g, 0, none⟩)) ∧ Hid (W9.heap.size = wx.heap.size) := by
  have hR := h5.hR
  have hlt5 := h5.lt
  have hg5 : g < W5.heap.size := (ho.lt _ rfl).2
  have hbw : Below W5.heap.size W5 wx := (Below.refl _ _).drew.trans hbx
  have hsx := hbw.size
  have e9 : put3 wx g (n * 3) y A5 c5 = W9 := h9
  have hs9 : W9.heap.size = wx.heap.size := by rw [← e9, put3_size]
  have hnl := (List.getElem?_eq_some_iff.1 hk).1
  have hx5 := h5.next hbw
  have hoth : ∀ i, i ≠ g → W9.heap[i]? = wx.heap[i]? := fun i hi => by rw [← e9]; exact put3_other _ _ _ _ _ _ _ hi
  have hP9 : PW t u A Au c cu R (some ⟨g, 0, none⟩) t.ks.length cap w W9 := ⟨by rw [← e9]; exact hx5.rw.set g (n * 3) y A5 c5 (by omega), (hoth R (by omega)).trans hx5.bo, hR⟩
  have hcur : ∃ cur, wx.heap[g]? = some (.cells cur 56 (0, 0)) := by
    rcases ho.2 with ⟨h', _⟩ | ⟨g', cap', cur, h', _, hg, _⟩
    · simp at h'
    · simp only [Value.slice.injEq, Option.some.injEq, Addr.mk.injEq, and_true, true_and] at h'
      obtain ⟨rfl, rfl⟩ := h'
      exact ⟨cur, cells_below hg hbw⟩
  obtain ⟨cur, hcur⟩ := hcur
  have hox := own_below ho hbw
  have hxl : (ktcs l).length = t.ks.length * 3 := by rw [ktcs_length, hll]
  have hsz : n * 3 + 2 < cur.size := by
    have := hox.cellAt (n * 3 + 2) (by omega)
    rw [cell_of_row _ g _ _ _ (0, 0) hcur, List.getElem?_eq_getElem (by omega)] at this
    exact (Array.getElem?_eq_some_iff.1 this).1
  obtain ⟨p0, p1, p2⟩ := put3_at hcur hsz y A5 c5
  rw [e9] at p0 p1 p2
  have hoff : ∀ j q, j ≠ n → q < 3 → j * 3 + q < (ktcs l).length → W9.cell? ⟨g, j * 3 + q, none⟩ = (ktcs l)[j * 3 + q]? := fun j q hj hq hl => by
    rw [← e9, put3_off hcur (by omega) y A5 c5]
    exact hox.cellAt (j * 3 + q) (by omega)
  have hkids : ∀ k' Ak, TRep n₀ w k' Ak → TIn (fun i => i < n₀ ∨ w.heap.size + 3 ≤ i ∧ i < W9.heap.size) W9 k' Ak := fun k' Ak h => by
    have hb5 := h5.rw.below
    have hs5 := hb5.size
    exact h.tin.keep (fun i hi => (hoth i (by omega)).trans ((hbw.block i (by omega)).trans (hb5.block i (by omega)))) (fun i hi => .inl hi)
  refine ⟨Lib.hid hP9, Lib.hid ?_, Lib.hid hs9⟩
  have hof : ∀ (j : Nat) (k' : Tm), t.ks[j]? = some k' → ∃ (Ak : Option Addr) (ck : Nat), (l[j]?).getD (t, none, 0) = (k', Ak, ck) ∧ TRep n₀ w k' Ak ∧ l[j]? = some (k', Ak, ck) := fun j k' hj => by
    obtain ⟨Ak, ck, h1, h2⟩ := hlk j k' hj
    exact ⟨Ak, ck, by rw [h1]; rfl, h2, h1⟩
  refine .mk t.nm t.st _ (some ⟨g, 0, none⟩) g 0 (fun j => if j = n then A5 else ((l[j]?).getD (t, none, 0)).2.1) (fun j => if j = n then c5 else ((l[j]?).getD (t, none, 0)).2.2) (fun _ => ⟨rfl, .inr ⟨by omega, by omega⟩⟩) (fun j k' hj => ?_) (fun j k' hj => ?_) (fun j k' hj => ?_) (fun j k' hj => ?_)
  · rcases set_get hj with ⟨rfl, rfl⟩ | ⟨hji, hk'⟩
    · rw [Nat.zero_add]; exact p0
    · obtain ⟨Ak, ck, e, _, hl⟩ := hof j k' hk'
      have := (List.getElem?_eq_some_iff.1 hk').1
      rw [Nat.zero_add]
      exact (hoff j 0 hji (by omega) (by omega)).trans (ktcs_at l j _ hl).1
  · rcases set_get hj with ⟨rfl, rfl⟩ | ⟨hji, hk'⟩
    · rw [Nat.zero_add]; exact p1
    · obtain ⟨Ak, ck, e, _, hl⟩ := hof j k' hk'
      have := (List.getElem?_eq_some_iff.1 hk').1
      rw [Nat.zero_add]
      exact (hoff j 1 hji (by omega) (by omega)).trans (ktcs_at l j _ hl).2.1
  · rcases set_get hj with ⟨rfl, rfl⟩ | ⟨hji, hk'⟩
    · rw [Nat.zero_add, if_pos rfl, if_pos rfl]; exact p2
    · obtain ⟨Ak, ck, e, _, hl⟩ := hof j k' hk'
      have := (List.getElem?_eq_some_iff.1 hk').1
      rw [Nat.zero_add, if_neg hji, if_neg hji, e]
      exact (hoff j 2 hji (by omega) (by omega)).trans (ktcs_at l j _ hl).2.2
  · rcases set_get hj with ⟨rfl, rfl⟩ | ⟨hji, hk'⟩
    · rw [if_pos rfl]
      exact hin.keep (fun i hi => hoth i (by
        have hs5 : W5.drew.heap.size = W5.heap.size := rfl
        rcases hi with hi | hi <;> omega)) (fun i hi => by
        have hs5 : W5.drew.heap.size = W5.heap.size := rfl
        have hs5b := h5.rw.below.size
        rcases hi with hi | hi
        · exact .inl hi
        · exact .inr ⟨by omega, by omega⟩)
    · obtain ⟨Ak, ck, e, hr, hl⟩ := hof j k' hk'
      rw [if_neg hji, e]
      exact hkids k' Ak hr
set_option maxHeartbeats 8000000 in
theorem refPut_any : ∀ (L : List Int) (t s u : Tm) (A Au : Option Addr) (c cu : Nat) (P : Option Addr) (cp n₀ : Nat) (w : World), subAt t L = some s → TRep n₀ w t A → TRep n₀ w u Au → SlI n₀ w P L → L.length ≤ cp → cp ≤ maxLen → n₀ ≤ w.heap.size → okT 1000000 t →
    Calls Tryd.prog 81 #[TV t A c, .slice P L.length cp, TV u Au cu] w (putPost (putAt t L u) n₀ w) := by
  intro L
  induction L with
  | nil =>
    intro t s u A Au c cu P cp n₀ w hs hrep hru hp hcp hcm hn hok
    have H0 := Lib.hid (RPW.start t u A Au c cu w)
    have HRU := Lib.hid hru
    clear hs hrep hru hp hok hcp hcm
    rw [putAt]
    unfold TV
    go_enter Tryd.func81, Tryd.ntmps81
    go_upto_region 1 with fail
    generalize (((w.alloc (.cells #[.string t.nm, .string t.st, .slice A t.ks.length c] 56)).alloc (.cells #[.string u.nm, .string u.st, .slice Au u.ks.length cu] 56)).alloc (.cells #[.string ⟨#[]⟩, .string ⟨#[]⟩, .slice none 0 0] 56)) = W0 at H0 ⊢
    obtain ⟨⟨y0, y1, y2⟩, _⟩ := blk3 H0.out.bu
    obtain ⟨⟨r0, r1, r2⟩, rf0, rf1, rf2⟩ := blk3 H0.out.br
    go_wp2_with fail
    refine bodyPost_ret (v := TV u Au cu) (by simp [results, Tryd.results81, go_sem, r0, r1, r2, TV]) rfl ?_
    refine ⟨⟨Au, cu, rfl, ?_⟩, set3_below H0.out.below (w.heap.size + 1 + 1) 0 _ _ _ (by omega)⟩
    exact (HRU.out.tin).keep (fun i h => (set3_heap _ (w.heap.size + 1 + 1) 0 _ _ _ i (by omega)).trans (H0.out.below.block i (by omega))) (fun i h => .inl h)
  | cons x is ih =>
    intro t s u A Au c cu P cp n₀ w hs hrep hru hp hcp hcm hn hok
    obtain ⟨n, k, rfl, hk, hs2⟩ := subAt_cons hs
    have hlt := (List.getElem?_eq_some_iff.1 hk).1
    obtain ⟨l, hll, hlk, hlc⟩ := hrep.kts
    obtain ⟨tb, tq, rfl, htb, hcells⟩ := hlc (by omega)
    have H0 := Lib.hid (RPW.start t u (some ⟨tb, tq, none⟩) Au c cu w)
    have HPUT := Lib.hid (putAt_cons is u hk)
    have HREP := Lib.hid hrep
    have HRU := Lib.hid hru
    have HP := Lib.hid hp
    have HOK := Lib.hid hok
    have HIH := Lib.hid ih
    have HK := Lib.hid hk
    have HLK := Lib.hid hlk
    have HC := Lib.hid hcells
    have HS2 := Lib.hid hs2
    have HLL := Lib.hid hll
    have hlen := hok.len
    have hokt := hok
    clear hs hrep hru hp hok ih hk hlk hcells hs2 hll hlc hokt
    rw [HPUT.out]
    unfold TV
    go_enter Tryd.func81, Tryd.ntmps81
    go_upto_region 1 with fail
    generalize (((w.alloc (.cells #[.string t.nm, .string t.st, .slice (some ⟨tb, tq, none⟩) t.ks.length c] 56)).alloc (.cells #[.string u.nm, .string u.st, .slice Au u.ks.length cu] 56)).alloc (.cells #[.string ⟨#[]⟩, .string ⟨#[]⟩, .slice none 0 0] 56)) = W0 at H0 ⊢
    have hltW0 := H0.out.lt
    obtain ⟨⟨x0, x1, x2⟩, _⟩ := blk3 H0.out.bt
    have hnz : (((((n : Int) :: is).length : Nat) : Int) == 0) = false := beq_eq_false_iff_ne.2 (by simp only [List.length_cons]; omega)
    go_upto_region 4 with fail
    have HP1 := Lib.hid (PW.start H0.out)
    generalize W0.alloc (.cells #[.string t.nm, .string t.st, .slice (some ⟨tb, tq, none⟩) t.ks.length c] 56) = W1 at HP1 ⊢
    have hlt1 := HP1.out.lt
    have hown0 : (W1.alloc (.cells #[] 56)).ownsRow W1.heap.size 56 3 (.slice (some ⟨W1.heap.size, 0, none⟩) 0 0) 0 [] :=
      ⟨rfl, .inr ⟨W1.heap.size, 0, #[], rfl, Nat.le_refl _, heap_alloc_new _ _, Nat.le_refl _, by simp [maxLen], rfl, rfl⟩⟩
    have HOWN0 := Lib.hid hown0
    have HPA := Lib.hid (HP1.out.next ((Below.refl _ _).alloc (Nat.le_refl _) (.cells #[] 56)))
    have hnews : ∀ (j : Nat) (v : Value), (ktcs l)[j]? = some v → (W1.alloc (.cells #[] 56)).cell? ((⟨tb, tq, none⟩ : Addr).add j) = some v := fun j v hj => by
      have had : (⟨tb, tq, none⟩ : Addr).add j = ⟨tb, tq + j, none⟩ := by unfold Addr.add; split <;> simp_all
      rw [had]
      exact (HPA.out.rw.below.cell (p := ⟨tb, _, none⟩) (by show tb < _; omega)).trans (HC.out j v hj)
    have HNEWS := Lib.hid hnews
    obtain ⟨i0, hi, hz0, hz1, hz2⟩ := info_parts Tryd.infoTerm
    clear x0 x1 x2 hown0 hnews
    obtain ⟨⟨x0, x1, x2⟩, _⟩ := blk3 HP1.out.rw.bt
    have hlw1 : w.heap.size < W1.heap.size := by omega
    go_wp2_with (at_builtin; go_loud (refine wpList_append_lies _ rfl (.tmp 13) (.tmp 15) 54 rfl W1.heap.size 56 i0 _ 3 56 Tryd.underlying54 hi hz0 hz1 hz2 rfl (by decide) _ 0 [] rfl HOWN0.out ⟨tb, tq, none⟩ t.ks.length c (ktcs l) rfl ((ktcs_length l).trans (by rw [HLL.out])) HNEWS.out (ktcs_one l) (by omega) (by unfold maxLen; omega) (by omega) (by simp) _ rfl ?_))
    intro g cap W2 hown2 hgr hg hglt
    have hP2 := HPA.out.grown hgr hlt1
    have hgW : W0.heap.size < g := by
      rcases hg with hg | hg
      · have : W1.heap.size = g := by simpa [Value.ownBlock] using hg
        omega
      · omega
    have hP5 := hP2.list (some ⟨g, 0, none⟩) t.ks.length cap
    have hown5 := ownsRow_setCell_below hown2 (a := ⟨W0.heap.size, 2, none⟩) hlt1 (.slice (some ⟨g, 0, none⟩) t.ks.length cap)
    have hgl5 : g < (W2.setCell ⟨W0.heap.size, 2, none⟩ (.slice (some ⟨g, 0, none⟩) t.ks.length cap)).heap.size := by simpa using hglt
    have HP5 := Lib.hid hP5
    have HOWN5 := Lib.hid hown5
    obtain ⟨⟨o0, o1, o2⟩, of0, of1, of2⟩ := blk3 hP2.bo
    clear hP2 hP5 hown2 hown5 hgr hg HOWN0 HPA HNEWS x0 x1 x2 HP1
    go_wp2_with fail
    generalize W2.setCell ⟨W0.heap.size, 2, none⟩ (.slice (some ⟨g, 0, none⟩) t.ks.length cap) = W5 at HP5 HOWN5 hgl5 ⊢
    clear o0 o1 o2 of0 of1 of2 hglt hlt1
    have hB5 := HP5.out.rw.below
    obtain ⟨pb, po, rfl, hpb, hpc⟩ := HP.out (by simp)
    have y0 := (hB5.cell (p := ⟨pb, po + 0, none⟩) (by show pb < _; omega)).trans (hpc 0 n rfl)
    rw [Nat.add_zero] at y0
    obtain ⟨Ak, ck, hlkn, hrk⟩ := HLK.out n k HK.out
    obtain ⟨c0, c1, c2⟩ := ktcs_at l n _ hlkn
    have u0 := (hB5.cell (p := ⟨tb, _, none⟩) (by show tb < _; omega)).trans (HC.out _ _ c0)
    have u1 := (hB5.cell (p := ⟨tb, _, none⟩) (by show tb < _; omega)).trans (HC.out _ _ c1)
    have u2 := (hB5.cell (p := ⟨tb, _, none⟩) (by show tb < _; omega)).trans (HC.out _ _ c2)
    have hcl : n * 3 + 2 < (ktcs l).length := by rw [ktcs_length, HLL.out]; omega
    have g0 := (HOWN5.out.cellAt (n * 3) (by omega)).trans c0
    have g1 := (HOWN5.out.cellAt (n * 3 + 1) (by omega)).trans c1
    have g2 := (HOWN5.out.cellAt (n * 3 + 2) (by omega)).trans c2
    have gf0 := HOWN5.out.frozenAt (n * 3)
    have gf1 := HOWN5.out.frozenAt (n * 3 + 1)
    have gf2 := HOWN5.out.frozenAt (n * 3 + 2)
    obtain ⟨⟨_, _, o2⟩, _⟩ := blk3 HP5.out.bo
    obtain ⟨⟨_, _, x2⟩, _⟩ := blk3 HP5.out.rw.bt
    obtain ⟨⟨w0, w1, w2⟩, _⟩ := blk3 HP5.out.rw.bu
    have hR5 := HP5.out.hR
    have hkeep : ∀ W' : World, (∀ b o, b < W5.heap.size → b ≠ g → W'.cell? ⟨b, o, none⟩ = W5.cell? ⟨b, o, none⟩) → ((W'.cell? ⟨W0.heap.size, 2, none⟩ = some (.slice (some ⟨g, 0, none⟩) t.ks.length cap) ∧ W'.cell? ⟨w.heap.size, 2, none⟩ = some (.slice (some ⟨tb, tq, none⟩) t.ks.length c) ∧ W'.cell? ⟨pb, po, none⟩ = some (.int .i64 (n : Int))) ∧
        (W'.cell? ⟨tb, tq + n * 3, none⟩ = some (.string k.nm) ∧ W'.cell? ⟨tb, tq + n * 3 + 1, none⟩ = some (.string k.st) ∧ W'.cell? ⟨tb, tq + n * 3 + 2, none⟩ = some (.slice Ak k.ks.length ck)) ∧
        (W'.cell? ⟨w.heap.size + 1, 0, none⟩ = some (.string u.nm) ∧ W'.cell? ⟨w.heap.size + 1, 1, none⟩ = some (.string u.st) ∧ W'.cell? ⟨w.heap.size + 1, 2, none⟩ = some (.slice Au u.ks.length cu))) := fun W' hc => by
      have hlt5 := HP5.out.lt
      exact ⟨⟨(hc _ _ (by omega) (by omega)).trans o2, (hc _ _ (by omega) (by omega)).trans x2, (hc _ _ (by omega) (by omega)).trans y0⟩, ⟨(hc _ _ (by omega) (by omega)).trans u0, (hc _ _ (by omega) (by omega)).trans u1, (hc _ _ (by omega) (by omega)).trans u2⟩, ⟨(hc _ _ (by omega) (by omega)).trans w0, (hc _ _ (by omega) (by omega)).trans w1, (hc _ _ (by omega) (by omega)).trans w2⟩⟩
    have hgc : ∀ W', Below W5.heap.size W5 W' → (W'.cell? ⟨g, n * 3, none⟩ = some (.string k.nm) ∧ W'.cell? ⟨g, n * 3 + 1, none⟩ = some (.string k.st) ∧ W'.cell? ⟨g, n * 3 + 2, none⟩ = some (.slice Ak k.ks.length ck)) ∧
        (W'.frozen? ⟨g, n * 3, none⟩ = false ∧ W'.frozen? ⟨g, n * 3 + 1, none⟩ = false ∧ W'.frozen? ⟨g, n * 3 + 2, none⟩ = false) := fun W' hb => by
      have hc : ∀ b o, b < W5.heap.size → W'.cell? ⟨b, o, none⟩ = W5.cell? ⟨b, o, none⟩ := fun b o h => hb.cell (p := ⟨b, o, none⟩) h
      have hf : ∀ b o, b < W5.heap.size → W'.frozen? ⟨b, o, none⟩ = W5.frozen? ⟨b, o, none⟩ := fun b o h => hb.frozen (p := ⟨b, o, none⟩) h
      exact ⟨⟨(hc _ _ (by omega)).trans g0, (hc _ _ (by omega)).trans g1, (hc _ _ (by omega)).trans g2⟩, ⟨(hf _ _ (by omega)).trans gf0, (hf _ _ (by omega)).trans gf1, (hf _ _ (by omega)).trans gf2⟩⟩
    have HG := Lib.hid hgc
    have hk1 := hkeep W5.drew (fun b o _ _ => rfl)
    have hk2 : ∀ W', Below W5.heap.size W5 W' → _ := fun W' hb => hkeep W' (fun b o h _ => hb.cell (p := ⟨b, o, none⟩) h)
    have hk3 : ∀ W', Below W5.heap.size W5 W' → ∀ v0 v1 v2, _ := fun W' hb v0 v1 v2 => hkeep (((W'.setCell ⟨g, n * 3, none⟩ v0).setCell ⟨g, n * 3 + 1, none⟩ v1).setCell ⟨g, n * 3 + 2, none⟩ v2) (fun b o h hne => (World.cell?_of_block (set3_heap W' g (n * 3) v0 v1 v2 b hne)).trans (hb.cell (p := ⟨b, o, none⟩) h))
    have HK1 := Lib.hid hk1
    have HK2 := Lib.hid hk2
    have HK3 := Lib.hid hk3
    have hb0 : Below w.heap.size w W5 := hB5
    have hlt5 := HP5.out.lt
    have hcall : ∀ W', Below W5.heap.size W5 W' → ∀ P' cp', (P' = some ⟨pb, po + 1, none⟩ ∨ is.length = 0) → is.length ≤ cp' → cp' ≤ maxLen → Calls Tryd.prog 81 #[TV k Ak ck, .slice P' is.length cp', TV u Au cu] W' (putPost (putAt k is u) n₀ W') := fun W' hb P' cp' hP' hc1 hc2 => by
      have hbw : Below n₀ w W' := (hb0.mono hn).trans (hb.mono (by have := hb0.size; omega))
      refine HIH.out k s u Ak Au ck cu P' cp' n₀ W' HS2.out (hrk.later hbw) (HRU.out.later hbw) ?_ hc1 hc2 (by have := hb0.size; have := hb.size; omega) (HOK.out.kid (List.mem_of_getElem? HK.out))
      rcases hP' with rfl | h0
      · exact (slI_tail HP.out).later hbw
      · intro hl; omega
    have HCALL := Lib.hid hcall
    unfold TV at HCALL
    have hIn : (n : Int) < (t.ks.length : Int) := by omega
    clear hk1 hk2 hk3 hkeep hgc hcall c0 c1 c2 hlkn hpc hB5 hb0 y0 u0 u1 u2 g0 g1 g2 gf0 gf1 gf2 o2 x2 w0 w1 w2
    by_cases hc1 : cp = 1
    · subst hc1
      simp only [List.length_cons] at hcp
      have h0 : is.length = 0 := by omega
      have H0L := Lib.hid h0
      clear h0
      have hcpJ : (is.length : Int) + 1 ≤ 1 := by omega
      have hcpK : (1 : Int) ≤ (is.length : Int) + 1 := by omega
      have hq1 : is.length ≤ 0 := by omega
      have hq2 : 0 ≤ maxLen := Nat.zero_le _
      have hc0 := HCALL.out W5.drew (Below.refl _ _).drew (some ⟨pb, po, none⟩) 0 (.inr H0L.out) hq1 hq2
      rw [H0L.out] at hc0
      have HC0 := Lib.hid hc0
      clear hc0
      go_region_held3 (fun w' => ((w'.cell? ⟨W0.heap.size, 2, none⟩ = some (.slice (some ⟨g, 0, none⟩) t.ks.length cap) ∧ w'.cell? ⟨w.heap.size, 2, none⟩ = some (.slice (some ⟨tb, tq, none⟩) t.ks.length c) ∧ w'.cell? ⟨pb, po, none⟩ = some (.int .i64 (n : Int))) ∧
        (w'.cell? ⟨tb, tq + n * 3, none⟩ = some (.string k.nm) ∧ w'.cell? ⟨tb, tq + n * 3 + 1, none⟩ = some (.string k.st) ∧ w'.cell? ⟨tb, tq + n * 3 + 2, none⟩ = some (.slice Ak k.ks.length ck)) ∧
        (w'.cell? ⟨w.heap.size + 1, 0, none⟩ = some (.string u.nm) ∧ w'.cell? ⟨w.heap.size + 1, 1, none⟩ = some (.string u.st) ∧ w'.cell? ⟨w.heap.size + 1, 2, none⟩ = some (.slice Au u.ks.length cu))))
        (first | exact HK1.out | assumption | exact HK2.out _ ((Below.refl _ _).drew.trans hbx) | exact HK3.out _ ((Below.refl _ _).drew.trans hbx) _ _ _)
        (first
          | (go_at_call 81; refine HC0.out.mono ?_; rintro e wx ⟨⟨A5, c5, rfl, hin⟩, hbx⟩; obtain ⟨⟨g0, g1, g2⟩, gf0, gf1, gf2⟩ := HG.out wx ((Below.refl _ _).drew.trans hbx); have HIN := Lib.hid hin; clear hin; unfold TV))
      generalize hWx : ((wx.setCell ⟨g, n * 3, none⟩ (.string (putAt k is u).nm)).setCell ⟨g, n * 3 + 1, none⟩ (.string (putAt k is u).st)).setCell ⟨g, n * 3 + 2, none⟩ (.slice A5 (putAt k is u).ks.length c5) = W9 at ⊢
      obtain ⟨HP9, HIN9, HB9⟩ := put_end (c5 := c5) hn hgW HP5.out HOWN5.out HLL.out HLK.out HK.out hbx HIN.out hWx
      clear hWx g0 g1 g2 gf0 gf1 gf2
      rename_i hHeld
      clear hHeld
      obtain ⟨⟨o0, o1, o2⟩, _⟩ := blk3 HP9.out.bo
      obtain ⟨⟨r0, r1, r2⟩, rf0, rf1, rf2⟩ := blk3 HP9.out.rw.br
      go_wp2_with fail
      refine bodyPost_ret (v := TV (.mk t.nm t.st (t.ks.set n (putAt k is u))) (some ⟨g, 0, none⟩) cap) (by simp [results, Tryd.results81, go_sem, r0, r1, r2, TV]) rfl ?_
      refine ⟨⟨_, cap, rfl, ?_⟩, set3_below HP9.out.rw.below (w.heap.size + 1 + 1) 0 _ _ _ (by omega)⟩
      exact HIN9.out.keep (fun i h => set3_heap _ (w.heap.size + 1 + 1) 0 _ _ _ i (by rcases h with h | h <;> omega)) (fun i h => by
        rcases h with h | h
        · exact .inl h
        · exact .inr ⟨h.1, by simp; omega⟩)
    · have hcp1 : 1 ≤ cp := by simp only [List.length_cons] at hcp; omega
      have hcp2 : 1 < cp := by omega
      simp only [List.length_cons] at hcp
      have hcpI : (1 : Int) ≤ (cp : Int) := by omega
      have hcpJ : (is.length : Int) + 1 ≤ (cp : Int) := by omega
      have hcpK : (1 : Int) ≤ (is.length : Int) + 1 := by omega
      have hq1 : is.length ≤ cp - 1 := by omega
      have hq2 : cp - 1 ≤ maxLen := by omega
      go_region_held3 (fun w' => ((w'.cell? ⟨W0.heap.size, 2, none⟩ = some (.slice (some ⟨g, 0, none⟩) t.ks.length cap) ∧ w'.cell? ⟨w.heap.size, 2, none⟩ = some (.slice (some ⟨tb, tq, none⟩) t.ks.length c) ∧ w'.cell? ⟨pb, po, none⟩ = some (.int .i64 (n : Int))) ∧
        (w'.cell? ⟨tb, tq + n * 3, none⟩ = some (.string k.nm) ∧ w'.cell? ⟨tb, tq + n * 3 + 1, none⟩ = some (.string k.st) ∧ w'.cell? ⟨tb, tq + n * 3 + 2, none⟩ = some (.slice Ak k.ks.length ck)) ∧
        (w'.cell? ⟨w.heap.size + 1, 0, none⟩ = some (.string u.nm) ∧ w'.cell? ⟨w.heap.size + 1, 1, none⟩ = some (.string u.st) ∧ w'.cell? ⟨w.heap.size + 1, 2, none⟩ = some (.slice Au u.ks.length cu))))
        (first | exact HK1.out | assumption | exact HK2.out _ ((Below.refl _ _).drew.trans hbx) | exact HK3.out _ ((Below.refl _ _).drew.trans hbx) _ _ _)
        (first
          | (go_at_call 81; refine (HCALL.out W5.drew (Below.refl _ _).drew (some ⟨pb, po + 1, none⟩) (cp - 1) (.inl rfl) hq1 hq2).mono ?_; rintro e wx ⟨⟨A5, c5, rfl, hin⟩, hbx⟩; obtain ⟨⟨g0, g1, g2⟩, gf0, gf1, gf2⟩ := HG.out wx ((Below.refl _ _).drew.trans hbx); have HIN := Lib.hid hin; clear hin; unfold TV))
      generalize hWx : ((wx.setCell ⟨g, n * 3, none⟩ (.string (putAt k is u).nm)).setCell ⟨g, n * 3 + 1, none⟩ (.string (putAt k is u).st)).setCell ⟨g, n * 3 + 2, none⟩ (.slice A5 (putAt k is u).ks.length c5) = W9 at ⊢
      obtain ⟨HP9, HIN9, HB9⟩ := put_end (c5 := c5) hn hgW HP5.out HOWN5.out HLL.out HLK.out HK.out hbx HIN.out hWx
      clear hWx g0 g1 g2 gf0 gf1 gf2
      rename_i hHeld
      clear hHeld
      obtain ⟨⟨o0, o1, o2⟩, _⟩ := blk3 HP9.out.bo
      obtain ⟨⟨r0, r1, r2⟩, rf0, rf1, rf2⟩ := blk3 HP9.out.rw.br
      go_wp2_with fail
      refine bodyPost_ret (v := TV (.mk t.nm t.st (t.ks.set n (putAt k is u))) (some ⟨g, 0, none⟩) cap) (by simp [results, Tryd.results81, go_sem, r0, r1, r2, TV]) rfl ?_
      refine ⟨⟨_, cap, rfl, ?_⟩, set3_below HP9.out.rw.below (w.heap.size + 1 + 1) 0 _ _ _ (by omega)⟩
      exact HIN9.out.keep (fun i h => set3_heap _ (w.heap.size + 1 + 1) 0 _ _ _ i (by rcases h with h | h <;> omega)) (fun i h => by
        rcases h with h | h
        · exact .inl h
        · exact .inr ⟨h.1, by simp; omega⟩)

set_option maxHeartbeats 8000000 in
theorem refReplace_any (t u : Tm) (A Au : Option Addr) (c cu : Nat) (P : Option Addr) (cp : Nat) (L : List Int) (w : World) (hrep : TRep w.heap.size w t A) (hru : TRep w.heap.size w u Au) (hp : SlI w.heap.size w P L) (hcp : L.length ≤ cp) (hcm : cp ≤ maxLen) (hok : okT 1000000 t) (hou : okT 1000000 u) :
    Calls Tryd.prog 34 #[TV t A c, .slice P L.length cp, TV u Au cu] w (replPost t L u w) := by
  have HREP := Lib.hid hrep
  have HRU := Lib.hid hru
  have HP := Lib.hid hp
  have HOK := Lib.hid hok
  have HOU := Lib.hid hou
  have HOM := Lib.hid (hok.mono (m' := maxLen) (by unfold maxLen; omega))
  have HOUM := Lib.hid (hou.mono (m' := maxLen) (by unfold maxLen; omega))
  have HCP := Lib.hid hcp
  have HCM := Lib.hid hcm
  have H0 := Lib.hid (RPW.start t u A Au c cu w)
  clear hrep hru hp hok hou hcp hcm
  generalize hvt : formed t = vt
  have HVT := Lib.hid hvt
  have HF1 := Lib.hid (fun (W : World) (h : RPW t u A Au c cu w W) => formed_any t A c W.heap.size W ((HREP.out.later h.below).mono h.below.size) (Nat.le_refl _) HOM.out)
  have HF2 := Lib.hid (fun (W : World) (h : RPW t u A Au c cu w W) => formed_any u Au cu W.heap.size W ((HRU.out.later h.below).mono h.below.size) (Nat.le_refl _) HOUM.out)
  rw [hvt] at HF1
  clear hvt
  unfold TV at HF1 HF2 ⊢
  go_enter Tryd.func34, Tryd.ntmps34
  go_wp2_with fail
  refine (HF1.out _ H0.out).mono ?_
  rintro e w1 ⟨rfl, hb1⟩
  have H1 := Lib.hid (H0.out.next hb1)
  obtain ⟨⟨x0, x1, x2⟩, _⟩ := blk3 H1.out.bt
  obtain ⟨⟨y0, y1, y2⟩, _⟩ := blk3 H1.out.bu
  obtain ⟨⟨r0, r1, r2⟩, _⟩ := blk3 H1.out.br
  clear hb1 H0 HF1
  cases vt
  · go_wp2_with fail
    refine bodyPost_ret (v := .tuple #[TV0, .int .i64 1]) (by simp [results, Tryd.results34, go_sem, r0, r1, r2, TV0]) rfl ?_
    exact replPost_bad (repl_arg (fun h => by rw [HVT.out] at h; exact absurd h.1 (by decide))) (by decide) (set3_below H1.out.below (w.heap.size + 1 + 1) 0 _ _ _ (by omega))
  · generalize hvu : formed u = vu at HF2
    have HVU := Lib.hid hvu
    clear hvu
    go_wp2_with fail
    refine (HF2.out _ H1.out).mono ?_
    rintro e w2 ⟨rfl, hb2⟩
    have H2 := Lib.hid (H1.out.next hb2)
    clear hb2 x0 x1 x2 y0 y1 y2 r0 r1 r2 HF2
    obtain ⟨⟨x0, x1, x2⟩, _⟩ := blk3 H2.out.bt
    obtain ⟨⟨r0, r1, r2⟩, _⟩ := blk3 H2.out.br
    cases vu
    · go_wp2_with fail
      refine bodyPost_ret (v := .tuple #[TV0, .int .i64 1]) (by simp [results, Tryd.results34, go_sem, r0, r1, r2, TV0]) rfl ?_
      exact replPost_bad (repl_arg (fun h => by rw [HVU.out] at h; exact absurd h.2 (by decide))) (by decide) (set3_below H2.out.below (w.heap.size + 1 + 1) 0 _ _ _ (by omega))
    · have hcp := HCP.out
      have hcm := HCM.out
      have HAT := Lib.hid (refAt_any t A c P cp L w.heap.size w2 (HREP.out.later H2.out.below) (HP.out.later H2.out.below) H2.out.below.size (by omega) HOM.out)
      clear hcp hcm
      unfold TV at HAT
      go_wp2_with fail
      refine HAT.out.mono ?_
      rintro e w3 ⟨hat, hb3⟩
      have H3 := Lib.hid (H2.out.next hb3)
      clear hb3 x0 x1 x2 r0 r1 r2 HAT
      cases hsub : subAt t L with
      | none =>
        rw [hsub] at hat
        simp only at hat
        subst hat
        have HSU := Lib.hid hsub
        clear hsub
        have H4 := Lib.hid (H3.out.next ((Below.refl _ _).alloc (Nat.le_refl _) (.cells #[.string ⟨#[]⟩, .string ⟨#[]⟩, .slice none 0 0] 56)))
        unfold TV0
        go_upto_region 4 with fail
        generalize w3.alloc (.cells #[.string ⟨#[]⟩, .string ⟨#[]⟩, .slice none 0 0] 56) = W4 at H4 ⊢
        obtain ⟨⟨r0, r1, r2⟩, rf0, rf1, rf2⟩ := blk3 H4.out.br
        go_wp2_with fail
        refine bodyPost_ret (v := .tuple #[TV0, .int .i64 2]) (by simp [results, Tryd.results34, go_sem, r0, r1, r2, TV0]) rfl ?_
        exact replPost_bad (repl_range ⟨HVT.out, HVU.out⟩ HSU.out) (by decide) (set3_below H4.out.below (w.heap.size + 1 + 1) 0 _ _ _ (by omega))
      | some s =>
        rw [hsub] at hat
        simp only at hat
        obtain ⟨As, cs, rfl, _⟩ := hat
        have HSU := Lib.hid hsub
        clear hsub
        have H4 := Lib.hid (H3.out.next ((Below.refl _ _).alloc (Nat.le_refl _) (.cells (tcells s As cs) 56)))
        unfold TV
        go_upto_region 4 with fail
        generalize w3.alloc (.cells (tcells s As cs) 56) = W4 at H4 ⊢
        obtain ⟨⟨x0, x1, x2⟩, _⟩ := blk3 H4.out.bt
        obtain ⟨⟨y0, y1, y2⟩, _⟩ := blk3 H4.out.bu
        have HC := Lib.hid (refPut_any L t s u A Au c cu P cp w.heap.size W4 HSU.out (HREP.out.later H4.out.below) (HRU.out.later H4.out.below) (HP.out.later H4.out.below) HCP.out HCM.out H4.out.below.size HOK.out)
        unfold TV at HC
        go_wp2_with fail
        refine HC.out.mono ?_
        rintro e w5 ⟨⟨AX, cX, rfl, hin⟩, hb5⟩
        have hs4 := H4.out.lt
        have hs5 := hb5.size
        have H5 := Lib.hid (H4.out.next hb5)
        have hbA : Below w5.heap.size w5 (w5.alloc (.cells (tcells (putAt t L u) AX cX) 56)) := (Below.refl _ _).alloc (Nat.le_refl _) _
        have H6 := Lib.hid (H5.out.next hbA)
        have HX := Lib.hid (heap_alloc_new w5 (.cells (tcells (putAt t L u) AX cX) 56))
        have HIN := Lib.hid (hin.keep (Q := fun i => i < w.heap.size ∨ w.heap.size + 3 ≤ i ∧ i < (w5.alloc (.cells (tcells (putAt t L u) AX cX) 56)).heap.size) (fun i h => hbA.block i (by rcases h with h | h <;> omega)) (fun i h => by
          rcases h with h | h
          · exact .inl h
          · exact .inr ⟨by omega, by simp; omega⟩))
        have hs6 := hbA.size
        clear hin hb5 hbA x0 x1 x2 y0 y1 y2 HC
        unfold TV
        go_upto_region 7 with fail
        generalize w5.alloc (.cells (tcells (putAt t L u) AX cX) 56) = W6 at H6 HX HIN hs6 ⊢
        obtain ⟨⟨x0, x1, x2⟩, _⟩ := blk3 HX.out
        have hlt6 := H6.out.lt
        have HOX := Lib.hid (putAt_ok L t u HOM.out HOUM.out)
        have HRX := Lib.hid (HIN.out.rep (n := W6.heap.size) (fun i h => by rcases h with h | h <;> omega))
        have HS := Lib.hid (small_formed (putAt t L u))
        have HNM := Lib.hid (nmd_all (putAt_nmd L t u (formed_nmd HVT.out) (formed_nmd HVU.out)) 1)
        have HSM := Lib.hid (Small_any (putAt t L u) AX cX W6.heap.size 1 1000 W6 HRX.out (Nat.le_refl _) HOX.out (by omega) (by omega) (by omega))
        unfold TV at HSM
        have HFX := Lib.hid (formed_put (L := L) (show formed t = true ∧ formed u = true from ⟨HVT.out, HVU.out⟩))
        go_wp2_with fail
        refine HSM.out.mono ?_
        rintro e w7 ⟨rfl, hb7⟩
        have H7 := Lib.hid (H6.out.next hb7)
        have HX7 := Lib.hid (cells_below HX.out hb7)
        have hs7 := hb7.size
        have HIN7 := Lib.hid (HIN.out.keep (Q := fun i => i < w.heap.size ∨ w.heap.size + 3 ≤ i ∧ i < W6.heap.size) (fun i h => hb7.block i (by rcases h with h | h <;> omega)) (fun i h => h))
        clear hb7 x0 x1 x2 HSM
        obtain ⟨⟨r0, r1, r2⟩, rf0, rf1, rf2⟩ := blk3 H7.out.br
        obtain ⟨⟨x0, x1, x2⟩, _⟩ := blk3 HX7.out
        by_cases hneg : small (putAt t L u) 1 1000 < 0
        · have hnb : decide (small (putAt t L u) 1 1000 < 0) = true := decide_eq_true hneg
          have hvf : fitsL ((putAt t L u).pre 1) = false := by
            have h := HS.out
            rw [hnb, HNM.out, Bool.and_true] at h
            cases hf : fitsL ((putAt t L u).pre 1) with
            | false => rfl
            | true => rw [hf] at h; cases h
          have HVF := Lib.hid hvf
          clear hvf
          go_wp2_with fail
          refine bodyPost_ret (v := .tuple #[TV0, .int .i64 4]) (by simp [results, Tryd.results34, go_sem, r0, r1, r2, TV0]) rfl ?_
          exact replPost_bad (repl_full ⟨HVT.out, HVU.out⟩ HSU.out HVF.out) (by decide) (set3_below H7.out.below (w.heap.size + 1 + 1) 0 _ _ _ (by omega))
        · have hnb : decide (small (putAt t L u) 1 1000 < 0) = false := decide_eq_false hneg
          have hvf : fitsL ((putAt t L u).pre 1) = true := by
            have h := HS.out
            rw [hnb, HNM.out, Bool.and_true] at h
            cases hf : fitsL ((putAt t L u).pre 1) with
            | true => rfl
            | false => rw [hf] at h; cases h
          have HVF := Lib.hid hvf
          have HRX7 := Lib.hid (HIN7.out.rep (n := w7.heap.size) (fun i h => by rcases h with h | h <;> omega))
          have HFC := Lib.hid (formed_any (putAt t L u) AX cX w7.heap.size w7 HRX7.out (Nat.le_refl _) HOX.out)
          rw [HFX.out, hvf, Bool.true_and] at HFC
          clear hvf
          generalize hva : agreeL ((putAt t L u).pre 1) = va at HFC
          have HVA := Lib.hid hva
          clear hva
          unfold TV at HFC
          go_wp2_with fail
          refine HFC.out.mono ?_
          rintro e w8 ⟨rfl, hb8⟩
          have H8 := Lib.hid (H7.out.next hb8)
          have HX8 := Lib.hid (cells_below HX7.out hb8)
          have hs8 := hb8.size
          have HIN8 := Lib.hid (HIN7.out.keep (Q := fun i => i < w.heap.size ∨ w.heap.size + 3 ≤ i ∧ i < W6.heap.size) (fun i h => hb8.block i (by rcases h with h | h <;> omega)) (fun i h => h))
          clear hb8 x0 x1 x2 r0 r1 r2 rf0 rf1 rf2 HFC
          obtain ⟨⟨r0, r1, r2⟩, rf0, rf1, rf2⟩ := blk3 H8.out.br
          obtain ⟨⟨x0, x1, x2⟩, _⟩ := blk3 HX8.out
          cases va
          · go_wp2_with fail
            refine bodyPost_ret (v := .tuple #[TV0, .int .i64 11]) (by simp [results, Tryd.results34, go_sem, r0, r1, r2, TV0]) rfl ?_
            exact replPost_bad (repl_type ⟨HVT.out, HVU.out⟩ HSU.out HVF.out HVA.out) (by decide) (set3_below H8.out.below (w.heap.size + 1 + 1) 0 _ _ _ (by omega))
          · go_wp2_with fail
            refine bodyPost_ret (v := .tuple #[TV (putAt t L u) AX cX, .int .i64 0]) (by simp [results, Tryd.results34, go_sem, r0, r1, r2, TV]) rfl ?_
            refine replPost_ok (repl_ok ⟨HVT.out, HVU.out⟩ HSU.out HVF.out HVA.out) ?_ (set3_below H8.out.below (w.heap.size + 1 + 1) 0 _ _ _ (by omega))
            exact (HIN8.out.keep (Q := fun i => i < w8.heap.size) (fun i h => set3_heap _ (w.heap.size + 1 + 1) 0 _ _ _ i (by rcases h with h | h <;> omega)) (fun i h => by rcases h with h | h <;> omega)).rep (fun i h => by simp; omega)
end Go.Proofs.YthbcfcbonmphfaaDoor

/- TermPath: TermPaths: the law's walk. -/namespace Go.Proofs.YthbcfcbonmphfaaDoor
open Go.RowKit Go.Shelf
set_option maxRecDepth 100000

/-- The term that is returned with an error. -/
def tm0 : Tm := .mk ⟨#[]⟩ ⟨#[]⟩ []
theorem tv0 : TV0 = TV tm0 none 0 := rfl
theorem okB0 : okB tm0 := .mk _ _ _ (Nat.zero_le _) (Nat.zero_le _) (Nat.zero_le _) (fun k hk => by cases hk)
theorem big0 : bigL [tm0] = false := bigL_one okB0 (by decide) (by decide)
/-- What At answers: its number, its term. -/
def atCode (t : Tm) (L : List Int) : Int := if formed t = true then (if (subAt t L).isSome = true then 0 else 2) else 1
def atTerm (t : Tm) (L : List Int) : Tm := if formed t = true then (subAt t L).getD tm0 else tm0
theorem at_all {t : Tm} {L : List Int} {w w' : World} {e : Ending} (h : atPost t L w e w') : (∃ A' c', e = .returned (.tuple #[TV (atTerm t L) A' c', .int .i64 (atCode t L)]) ∧ TRep w'.heap.size w' (atTerm t L) A') ∧ Below w.heap.size w w' := by
  unfold atPost at h
  unfold atTerm atCode
  by_cases hf : formed t = true
  · rw [if_pos hf] at h
    rw [if_pos hf, if_pos hf]
    cases hs : subAt t L with
    | none =>
      rw [hs] at h
      exact ⟨⟨none, 0, h.1, TRep.leaf _ _ _ _ rfl⟩, h.2⟩
    | some s =>
      rw [hs] at h
      obtain ⟨⟨A, c, he, ho⟩, hb⟩ := h
      exact ⟨⟨A, c, he, ho.rep⟩, hb⟩
  · rw [if_neg hf] at h
    rw [if_neg hf, if_neg hf]
    exact ⟨⟨none, 0, h.1, TRep.leaf _ _ _ _ rfl⟩, h.2⟩
/-- What Replace answers: its term. -/
def replTerm (t : Tm) (L : List Int) (u : Tm) : Tm := if replCode t L u = 0 then putAt t L u else tm0
theorem repl_all {t u : Tm} {L : List Int} {w w' : World} {e : Ending} (h : replPost t L u w e w') : (∃ A' c', e = .returned (.tuple #[TV (replTerm t L u) A' c', .int .i64 (replCode t L u)]) ∧ TRep w'.heap.size w' (replTerm t L u) A') ∧ Below w.heap.size w w' := by
  unfold replTerm
  by_cases hc : replCode t L u = 0
  · rw [if_pos hc]
    obtain ⟨⟨A, c, he, hr⟩, hb⟩ := replPost_yes h hc
    exact ⟨⟨A, c, by rw [he, hc], hr⟩, hb⟩
  · rw [if_neg hc]
    obtain ⟨he, hb⟩ := replPost_no h hc
    exact ⟨⟨none, 0, he, TRep.leaf _ _ _ _ rfl⟩, hb⟩
theorem atTerm_big {t : Tm} {L : List Int} (ht : okB t) (hd : t.depth ≤ 80) (hs : t.size ≤ 1100) : okB (atTerm t L) ∧ bigL [atTerm t L] = false := by
  unfold atTerm
  by_cases hf : formed t = true
  · rw [if_pos hf]
    cases h : subAt t L with
    | none => exact ⟨okB0, big0⟩
    | some s => exact ⟨(subAt_okB L t s ht h).1, big_sub ht hd hs h⟩
  · rw [if_neg hf]; exact ⟨okB0, big0⟩
theorem replTerm_big {t u : Tm} {L : List Int} (ht : okB t) (hu : okB u) : okB (replTerm t L u) ∧ bigL [replTerm t L u] = false := by
  unfold replTerm
  by_cases hc : replCode t L u = 0
  · rw [if_pos hc]
    obtain ⟨_, _, _, hf⟩ := repl_zero hc
    exact ⟨putAt_okB L t u ht hu, big_put ht hu hf⟩
  · rw [if_neg hc]; exact ⟨okB0, big0⟩

theorem at_bad {t : Tm} {L : List Int} (hf : formed t = false) : atTerm t L = tm0 ∧ atCode t L = 1 := by unfold atTerm atCode; rw [hf]; exact ⟨rfl, rfl⟩
theorem at_none {t : Tm} {L : List Int} (hf : formed t = true) (hs : subAt t L = none) : atTerm t L = tm0 ∧ atCode t L = 2 := by unfold atTerm atCode; rw [hf, hs]; exact ⟨rfl, rfl⟩
theorem at_some {t s : Tm} {L : List Int} (hf : formed t = true) (hs : subAt t L = some s) : atTerm t L = s ∧ atCode t L = 0 := by unfold atTerm atCode; rw [hf, hs]; exact ⟨rfl, rfl⟩
/-- The law's zero, of the term that is returned with an error. -/
theorem zero_any (A : Option Addr) (c : Nat) (w : World) : Calls Tryd.prog 37 #[.agg #[.string ⟨#[]⟩, .string ⟨#[]⟩, .slice A 0 c]] w fun e w' => e = .returned (.bool true) ∧ Below w.heap.size w w' := by
  go_enter Tryd.func37, Tryd.ntmps37
  go_wp2_with fail
  go_ret
  exact ⟨rfl, (Below.refl _ _).alloc (Nat.le_refl _) _⟩
theorem blk0 {w : World} {b : Nat} {A : Option Addr} {c : Nat} (h : w.heap[b]? = some (.cells (tcells tm0 A c) 56 (0, 0))) :
    w.heap[b]? = some (.cells #[.string ⟨#[]⟩, .string ⟨#[]⟩, .slice A 0 c] 56 (0, 0)) := h

theorem trep_pair {n₀ : Nat} {w : World} {x : Nat} {a b : Tm} {A B : Option Addr} {ca cb : Nat} (nm st : ByteArray) (h : w.heap[x]? = some (.cells #[.string a.nm, .string a.st, .slice A a.ks.length ca, .string b.nm, .string b.st, .slice B b.ks.length cb] 56 (0, 0))) (hx : x < n₀)
    (ha : TRep n₀ w a A) (hb : TRep n₀ w b B) : TRep n₀ w (.mk nm st [a, b]) (some ⟨x, 0, none⟩) := by
  have c0 := cell_of_row w x 0 _ _ (0, 0) h
  have c1 := cell_of_row w x 1 _ _ (0, 0) h
  have c2 := cell_of_row w x 2 _ _ (0, 0) h
  have c3 := cell_of_row w x 3 _ _ (0, 0) h
  have c4 := cell_of_row w x 4 _ _ (0, 0) h
  have c5 := cell_of_row w x 5 _ _ (0, 0) h
  refine .mk nm st [a, b] _ x 0 (fun i => if i = 0 then A else B) (fun i => if i = 0 then ca else cb) (fun _ => ⟨rfl, hx⟩) (fun i y hi => ?_) (fun i y hi => ?_) (fun i y hi => ?_) (fun i y hi => ?_) <;>
    (match i, hi with
      | 0, hi => injection hi with hi; subst hi; first | exact c0 | exact c1 | exact c2 | exact ha
      | 1, hi => injection hi with hi; subst hi; first | exact c3 | exact c4 | exact c5 | exact hb)
/-- big of two terms, of one. -/
theorem bigTwo_any (a b : Tm) (A B : Option Addr) (ca cb : Nat) (w : World) (x : Nat) (h : w.heap[x]? = some (.cells #[.string a.nm, .string a.st, .slice A a.ks.length ca, .string b.nm, .string b.st, .slice B b.ks.length cb] 56 (0, 0)))
    (ha : TRep w.heap.size w a A) (hb : TRep w.heap.size w b B) (hoa : okT maxLen a) (hob : okT maxLen b) :
    Calls Tryd.prog 31 #[.slice (some ⟨x, 0, none⟩) 2 2] w fun e w' => e = .returned (.bool (bigL [a, b])) ∧ Below w.heap.size w w' :=
  bigTerms_any ⟨#[]⟩ ⟨#[]⟩ [a, b] (some ⟨x, 0, none⟩) 2 w (trep_pair _ _ h (Array.getElem?_eq_some_iff.1 h).1 ha hb)
    (.mk _ _ _ (Nat.zero_le _) (Nat.zero_le _) (by show 2 ≤ maxLen; unfold maxLen; omega) (fun k hk => by
      simp at hk
      rcases hk with h | h <;> rw [h]
      · exact hoa
      · exact hob)) (by simp)
theorem bigOne_any (a : Tm) (A : Option Addr) (ca : Nat) (w : World) (x : Nat) (h : w.heap[x]? = some (.cells #[.string a.nm, .string a.st, .slice A a.ks.length ca] 56 (0, 0))) (ha : TRep w.heap.size w a A) (hoa : okB a) :
    Calls Tryd.prog 31 #[.slice (some ⟨x, 0, none⟩) 1 1] w fun e w' => e = .returned (.bool (bigL [a])) ∧ Below w.heap.size w w' :=
  bigTerms_any ⟨#[]⟩ ⟨#[]⟩ [a] (some ⟨x, 0, none⟩) 1 w (trep_one _ _ h (Array.getElem?_eq_some_iff.1 h).1 ha)
    (.mk _ _ _ (Nat.zero_le _) (Nat.zero_le _) (by show 1 ≤ maxLen; unfold maxLen; omega) (fun k hk => by
      simp at hk
      rw [hk]; exact hoa.okT.mono (by unfold maxLen; omega))) (by simp)

/-- A term in a box. -/
def BX (w : World) (b : Nat) (t : Tm) (A : Option Addr) (c : Nat) : Prop := w.heap[b]? = some (.cells (tcells t A c) 56 (0, 0)) ∧ TRep w.heap.size w t A
theorem BX.next {w w' : World} {b : Nat} {t : Tm} {A : Option Addr} {c : Nat} (h : BX w b t A c) (hb : Below w.heap.size w w') : BX w' b t A c := ⟨cells_below h.1 hb, (h.2.later hb).mono hb.size⟩
theorem BX.new (w : World) (t : Tm) (A : Option Addr) (c : Nat) (h : TRep w.heap.size w t A) : BX (w.alloc (.cells (tcells t A c) 56)) w.heap.size t A c :=
  ⟨heap_alloc_new _ _, (h.later ((Below.refl _ _).alloc (Nat.le_refl _) _)).mono (by simp)⟩
/-- The boxes of the law. -/
structure QW (t u : Tm) (A Au : Option Addr) (c cu : Nat) (w w' : World) : Prop where
  below : Below w.heap.size w w'
  bt : BX w' w.heap.size t A c
  bu : BX w' (w.heap.size + 1) u Au cu
theorem QW.next {t u : Tm} {A Au : Option Addr} {c cu : Nat} {w w1 w2 : World} (h : QW t u A Au c cu w w1) (hb : Below w1.heap.size w1 w2) : QW t u A Au c cu w w2 :=
  ⟨h.below.trans (hb.mono h.below.size), h.bt.next hb, h.bu.next hb⟩
theorem QW.start (t u : Tm) (A Au : Option Addr) (c cu : Nat) (w : World) (h : TRep w.heap.size w t A) (h2 : TRep w.heap.size w u Au) : QW t u A Au c cu w ((w.alloc (.cells (tcells t A c) 56)).alloc (.cells (tcells u Au cu) 56)) := by
  have hb1 := (Below.refl w.heap.size w).alloc (Nat.le_refl _) (.cells (tcells t A c) 56)
  have hb2 : Below (w.alloc (.cells (tcells t A c) 56)).heap.size (w.alloc (.cells (tcells t A c) 56)) _ := (Below.refl _ _).alloc (Nat.le_refl _) (.cells (tcells u Au cu) 56)
  have h3 := BX.new (w.alloc (.cells (tcells t A c) 56)) u Au cu ((h2.later hb1).mono (by simp))
  simp only [World.size_alloc] at h3
  exact ⟨hb1.alloc (by simp) _, (BX.new w t A c h).next hb2, h3⟩

set_option maxHeartbeats 8000000 in
theorem termPaths_any (t u : Tm) (A Au : Option Addr) (c cu : Nat) (P : Option Addr) (cp : Nat) (L : List Int) (w : World) (hp : Pairs w) (hrt : TRep w.heap.size w t A) (hru : TRep w.heap.size w u Au) (hpl : SlI w.heap.size w P L) (hcp : L.length ≤ cp) (hcm : cp ≤ maxLen) (hot : okT maxLen t) (hou : okT maxLen u) :
    Calls Tryd.prog 8 #[TV t A c, .slice P L.length cp, TV u Au cu] w fun e w' => e = .returned (.bool true) ∧ Below w.heap.size w w' := by
  have H0 := Lib.hid (QW.start t u A Au c cu w hrt hru)
  have HP := Lib.hid ((hp.alloc (.cells (tcells t A c) 56)).alloc (.cells (tcells u Au cu) 56))
  have HPL := Lib.hid hpl
  have HCP := Lib.hid hcp
  have HCM := Lib.hid hcm
  have HOT := Lib.hid hot
  have HOU := Lib.hid hou
  have hll : (L.length : Int) ≤ 9223372036854775807 := by unfold maxLen at hcm; omega
  clear hp hrt hru hpl hcp hcm hot hou
  unfold TV
  go_enter Tryd.func8, Tryd.ntmps8
  go_wp2_with fail
  refine (awake02_any _ HP.out).mono ?_
  rintro e w1 ⟨rfl, hb1⟩
  have H1 := Lib.hid (H0.out.next hb1)
  obtain ⟨⟨x0, x1, x2⟩, _⟩ := blk3 H1.out.bt.1
  obtain ⟨⟨y0, y1, y2⟩, _⟩ := blk3 H1.out.bu.1
  clear hb1 H0 HP
  have H2 := Lib.hid (H1.out.next ((Below.refl _ _).alloc (Nat.le_refl _) (.cells #[.string t.nm, .string t.st, .slice A t.ks.length c, .string u.nm, .string u.st, .slice Au u.ks.length cu] 56)))
  have HBIG := Lib.hid (bigTwo_any t u A Au c cu _ w1.heap.size (heap_alloc_new w1 (.cells #[.string t.nm, .string t.st, .slice A t.ks.length c, .string u.nm, .string u.st, .slice Au u.ks.length cu] 56)) H2.out.bt.2 H2.out.bu.2 HOT.out HOU.out)
  go_wp2_with fail
  refine HBIG.out.mono ?_
  rintro e w2 ⟨rfl, hb2⟩
  have H3 := Lib.hid (H2.out.next hb2)
  clear hb2 x0 x1 x2 y0 y1 y2 HBIG H1 H2
  obtain ⟨⟨x0, x1, x2⟩, _⟩ := blk3 H3.out.bt.1
  generalize hbg : bigL [t, u] = bg
  cases bg
  · obtain ⟨hsm, hsz⟩ := bigL_small hbg
    have HST := Lib.hid (hsm t (by simp))
    have HSU := Lib.hid (hsm u (by simp))
    have hszt : t.size ≤ 1100 := by simp [sizes] at hsz; omega
    have HOT6 := Lib.hid ((HST.out.1.okT).mono (m' := 1000000) (by omega))
    have HOU6 := Lib.hid ((HSU.out.1.okT).mono (m' := 1000000) (by omega))
    clear hsm hsz hbg
    by_cases hl : 80 < L.length
    · have hlI : decide ((80 : Int) < (L.length : Int)) = true := decide_eq_true (by omega)
      clear hl
      go_wp2_with fail
      go_ret
      exact ⟨rfl, H3.out.below⟩
    · have hlI : decide ((80 : Int) < (L.length : Int)) = false := decide_eq_false (by omega)
      have HPW := Lib.hid (fun (W : World) (h : Below w.heap.size w W) => (HPL.out.later h).mono h.size)
      have HLM := Lib.hid (show L.length ≤ maxLen from Nat.le_trans HCP.out HCM.out)
      go_wp2_with fail
      refine (At_any t A c P cp L w2 H3.out.bt.2 (HPW.out _ H3.out.below) HLM.out HOT6.out (by have := HST.out.2; omega)).mono ?_
      rintro e w3 hat
      obtain ⟨⟨AX, cX, rfl, hrx⟩, hb3⟩ := at_all hat
      have H4 := Lib.hid ((H3.out.next hb3).next ((Below.refl _ _).alloc (Nat.le_refl _) (.cells (tcells (atTerm t L) AX cX) 56)))
      have HX4 := Lib.hid (BX.new w3 _ AX cX hrx)
      clear hat hrx hb3 x0 x1 x2 hlI H3
      unfold TV
      go_upto_region 6 with fail
      generalize w3.alloc (.cells (tcells (atTerm t L) AX cX) 56) = W4 at H4 HX4 ⊢
      obtain ⟨⟨x0, x1, x2⟩, _⟩ := blk3 H4.out.bt.1
      obtain ⟨⟨y0, y1, y2⟩, _⟩ := blk3 H4.out.bu.1
      have HC := Lib.hid (Replace_any t u A Au c cu P cp L W4 H4.out.bt.2 H4.out.bu.2 (HPW.out _ H4.out.below) HLM.out HOT6.out HOU6.out (by have := HST.out.2; omega) (by have := HSU.out.2; omega))
      unfold TV at HC
      go_wp2_with fail
      refine HC.out.mono ?_
      rintro e w5 hre
      obtain ⟨⟨AY, cY, rfl, hry⟩, hb5⟩ := repl_all hre
      have hbA : Below w5.heap.size w5 (w5.alloc (.cells (tcells (replTerm t L u) AY cY) 56)) := (Below.refl _ _).alloc (Nat.le_refl _) _
      have H6 := Lib.hid ((H4.out.next hb5).next hbA)
      have HX6 := Lib.hid ((HX4.out.next hb5).next hbA)
      have HY6 := Lib.hid (BX.new w5 _ AY cY hry)
      clear hre hry hb5 hbA x0 x1 x2 y0 y1 y2 HC H4 HX4
      unfold TV
      go_upto_region 7 with fail
      generalize w5.alloc (.cells (tcells (replTerm t L u) AY cY) 56) = W6 at H6 HX6 HY6 ⊢
      obtain ⟨⟨x0, x1, x2⟩, _⟩ := blk3 H6.out.bt.1
      obtain ⟨⟨y0, y1, y2⟩, _⟩ := blk3 H6.out.bu.1
      have HC := Lib.hid (refReplace_any t u A Au c cu P cp L W6 H6.out.bt.2 H6.out.bu.2 (HPW.out _ H6.out.below) HCP.out HCM.out HOT6.out HOU6.out)
      unfold TV at HC
      go_wp2_with fail
      refine HC.out.mono ?_
      rintro e w7 hre
      obtain ⟨⟨AZ, cZ, rfl, hrz⟩, hb7⟩ := repl_all hre
      have hbA : Below w7.heap.size w7 (w7.alloc (.cells (tcells (replTerm t L u) AZ cZ) 56)) := (Below.refl _ _).alloc (Nat.le_refl _) _
      have H8 := Lib.hid ((H6.out.next hb7).next hbA)
      have HX8 := Lib.hid ((HX6.out.next hb7).next hbA)
      have HY8 := Lib.hid ((HY6.out.next hb7).next hbA)
      have HZ8 := Lib.hid (BX.new w7 _ AZ cZ hrz)
      clear hre hrz hb7 hbA x0 x1 x2 y0 y1 y2 HC H6 HX6 HY6
      unfold TV
      go_upto_region 8 with fail
      generalize w7.alloc (.cells (tcells (replTerm t L u) AZ cZ) 56) = W8 at H8 HX8 HY8 HZ8 ⊢
      have HXB := Lib.hid (atTerm_big (L := L) HST.out.1 HST.out.2 hszt)
      have HYB := Lib.hid (replTerm_big (L := L) HST.out.1 HSU.out.1)
      obtain ⟨⟨x0, x1, x2⟩, _⟩ := blk3 HX8.out.1
      have hbN : Below W8.heap.size W8 (W8.alloc (.cells #[.string (atTerm t L).nm, .string (atTerm t L).st, .slice AX (atTerm t L).ks.length cX] 56)) := (Below.refl _ _).alloc (Nat.le_refl _) _
      have HBIG := Lib.hid (bigOne_any (atTerm t L) AX cX _ W8.heap.size (heap_alloc_new W8 (.cells #[.string (atTerm t L).nm, .string (atTerm t L).st, .slice AX (atTerm t L).ks.length cX] 56)) (HX8.out.next hbN).2 HXB.out.1)
      rw [HXB.out.2] at HBIG
      have H9 := Lib.hid (H8.out.next hbN)
      have HX9 := Lib.hid (HX8.out.next hbN)
      have HY9 := Lib.hid (HY8.out.next hbN)
      have HZ9 := Lib.hid (HZ8.out.next hbN)
      obtain ⟨⟨y0, y1, y2⟩, _⟩ := blk3 HY9.out.1
      clear hbN H8 HX8 HY8 HZ8
      go_wp2_with fail
      refine HBIG.out.mono ?_
      rintro e w9 ⟨rfl, hb9⟩
      have H10 := Lib.hid (H9.out.next hb9)
      have HX10 := Lib.hid (HX9.out.next hb9)
      have HY10 := Lib.hid (HY9.out.next hb9)
      have HZ10 := Lib.hid (HZ9.out.next hb9)
      clear hb9 x0 x1 x2 y0 y1 y2 HBIG H9 HX9 HY9 HZ9
      obtain ⟨⟨y0, y1, y2⟩, _⟩ := blk3 HY10.out.1
      have hbN : Below w9.heap.size w9 (w9.alloc (.cells #[.string (replTerm t L u).nm, .string (replTerm t L u).st, .slice AY (replTerm t L u).ks.length cY] 56)) := (Below.refl _ _).alloc (Nat.le_refl _) _
      have HBIG := Lib.hid (bigOne_any (replTerm t L u) AY cY _ w9.heap.size (heap_alloc_new w9 (.cells #[.string (replTerm t L u).nm, .string (replTerm t L u).st, .slice AY (replTerm t L u).ks.length cY] 56)) (HY10.out.next hbN).2 HYB.out.1)
      rw [HYB.out.2] at HBIG
      have H11 := Lib.hid (H10.out.next hbN)
      have HX11 := Lib.hid (HX10.out.next hbN)
      have HY11 := Lib.hid (HY10.out.next hbN)
      have HZ11 := Lib.hid (HZ10.out.next hbN)
      clear hbN H10 HX10 HY10 HZ10
      go_wp2_with fail
      refine HBIG.out.mono ?_
      rintro e w11 ⟨rfl, hb11⟩
      have H12 := Lib.hid (H11.out.next hb11)
      have HX12 := Lib.hid (HX11.out.next hb11)
      have HY12 := Lib.hid (HY11.out.next hb11)
      have HZ12 := Lib.hid (HZ11.out.next hb11)
      clear hb11 y0 y1 y2 HBIG H11 HX11 HY11 HZ11
      obtain ⟨⟨y0, y1, y2⟩, _⟩ := blk3 HY12.out.1
      obtain ⟨⟨z0, z1, z2⟩, _⟩ := blk3 HZ12.out.1
      have HC := Lib.hid (refSame_any (replTerm t L u) (replTerm t L u) AY AZ cY cZ w11.heap.size w11 HY12.out.2 HZ12.out.2 (Nat.le_refl _) (HYB.out.1.okT.mono (by unfold maxLen; omega)) (HYB.out.1.okT.mono (by unfold maxLen; omega)))
      rw [rcmp_self] at HC
      unfold TV at HC
      have hrr : (replCode t L u != replCode t L u) = false := by simp
      generalize replCode t L u = rc at hrr ⊢
      go_wp2_with fail
      refine HC.out.mono ?_
      rintro e w13 ⟨rfl, hb13⟩
      have H14 := Lib.hid (H12.out.next hb13)
      have HX14 := Lib.hid (HX12.out.next hb13)
      clear hb13 y0 y1 y2 z0 z1 z2 HC H12 HX12 HY12 HZ12 hrr
      obtain ⟨⟨x0, x1, x2⟩, _⟩ := blk3 H14.out.bt.1
      have HC := Lib.hid (formed_any t A c w13.heap.size w13 H14.out.bt.2 (Nat.le_refl _) (HST.out.1.okT.mono (by unfold maxLen; omega)))
      unfold TV at HC
      cases hf : formed t
      · rw [hf] at HC
        obtain ⟨ha1, ha2⟩ := at_bad (L := L) hf
        rw [ha1] at HX14
        rw [ha2]
        clear hf ha1 ha2
        go_wp2_with fail
        refine HC.out.mono ?_
        rintro e w14 ⟨rfl, hb14⟩
        have H15 := Lib.hid (H14.out.next hb14)
        have HX15 := Lib.hid (HX14.out.next hb14)
        clear hb14 x0 x1 x2 HC H14 HX14
        obtain ⟨⟨x0, x1, x2⟩, _⟩ := blk3 (blk0 HX15.out.1)
        have HC := Lib.hid (zero_any AX cX w14)
        go_wp2_with fail
        refine HC.out.mono ?_
        rintro e w15 ⟨rfl, hb15⟩
        have H16 := Lib.hid (H15.out.next hb15)
        clear hb15 x0 x1 x2 HC
        go_wp2_with fail
        go_ret
        exact ⟨rfl, H16.out.below⟩
      · rw [hf] at HC
        have HF := Lib.hid hf
        clear hf
        go_wp2_with fail
        refine HC.out.mono ?_
        rintro e w14 ⟨rfl, hb14⟩
        have H15 := Lib.hid (H14.out.next hb14)
        have HX15 := Lib.hid (HX14.out.next hb14)
        clear hb14 x0 x1 x2 HC H14 HX14
        obtain ⟨⟨x0, x1, x2⟩, _⟩ := blk3 H15.out.bt.1
        have HC := Lib.hid (refAt_any t A c P cp L w14.heap.size w14 H15.out.bt.2 (HPW.out _ H15.out.below) (Nat.le_refl _) HLM.out (HST.out.1.okT.mono (by unfold maxLen; omega)))
        unfold TV at HC
        go_wp2_with fail
        refine HC.out.mono ?_
        rintro e w15 hat
        unfold refAtPost at hat
        cases hs : subAt t L with
        | none =>
          rw [hs] at hat
          obtain ⟨rfl, hb15⟩ := hat
          obtain ⟨ha1, ha2⟩ := at_none HF.out hs
          rw [ha1] at HX15
          rw [ha2]
          have hbA : Below w15.heap.size w15 (w15.alloc (.cells #[.string ⟨#[]⟩, .string ⟨#[]⟩, .slice none 0 0] 56)) := (Below.refl _ _).alloc (Nat.le_refl _) _
          have H16 := Lib.hid ((H15.out.next hb15).next hbA)
          have HX16 := Lib.hid ((HX15.out.next hb15).next hbA)
          clear hs ha1 ha2 hb15 hbA x0 x1 x2 HC H15 HX15
          unfold TV0
          go_upto_region 15 with fail
          generalize w15.alloc (.cells #[.string ⟨#[]⟩, .string ⟨#[]⟩, .slice none 0 0] 56) = W16 at H16 HX16 ⊢
          obtain ⟨⟨x0, x1, x2⟩, _⟩ := blk3 (blk0 HX16.out.1)
          have HC := Lib.hid (zero_any AX cX W16)
          go_wp2_with fail
          refine HC.out.mono ?_
          rintro e w17 ⟨rfl, hb17⟩
          have H18 := Lib.hid (H16.out.next hb17)
          clear hb17 x0 x1 x2 HC
          go_wp2_with fail
          go_ret
          exact ⟨rfl, H18.out.below⟩
        | some s =>
          rw [hs] at hat
          obtain ⟨⟨AS, cS, rfl, hrs⟩, hb15⟩ := hat
          obtain ⟨ha1, ha2⟩ := at_some HF.out hs
          rw [ha1] at HX15 HXB
          rw [ha2]
          have hbA : Below w15.heap.size w15 (w15.alloc (.cells (tcells s AS cS) 56)) := (Below.refl _ _).alloc (Nat.le_refl _) _
          have H16 := Lib.hid ((H15.out.next hb15).next hbA)
          have HX16 := Lib.hid ((HX15.out.next hb15).next hbA)
          have HS16 := Lib.hid (BX.new w15 s AS cS ((hrs.later hb15).mono hb15.size))
          clear hs ha1 ha2 hb15 hbA hrs x0 x1 x2 HC H15 HX15
          unfold TV
          go_upto_region 15 with fail
          generalize w15.alloc (.cells (tcells s AS cS) 56) = W16 at H16 HX16 HS16 ⊢
          obtain ⟨⟨x0, x1, x2⟩, _⟩ := blk3 HX16.out.1
          obtain ⟨⟨y0, y1, y2⟩, _⟩ := blk3 HS16.out.1
          have HC := Lib.hid (refSame_any s s AX AS cX cS W16.heap.size W16 HX16.out.2 HS16.out.2 (Nat.le_refl _) (HXB.out.1.okT.mono (by unfold maxLen; omega)) (HXB.out.1.okT.mono (by unfold maxLen; omega)))
          rw [rcmp_self] at HC
          unfold TV at HC
          go_wp2_with fail
          refine HC.out.mono ?_
          rintro e w17 ⟨rfl, hb17⟩
          have H18 := Lib.hid (H16.out.next hb17)
          clear hb17 x0 x1 x2 y0 y1 y2 HC
          go_wp2_with fail
          go_ret
          exact ⟨rfl, H18.out.below⟩
  · go_wp2_with fail
    go_ret
    exact ⟨rfl, H3.out.below⟩
end Go.Proofs.YthbcfcbonmphfaaDoor
