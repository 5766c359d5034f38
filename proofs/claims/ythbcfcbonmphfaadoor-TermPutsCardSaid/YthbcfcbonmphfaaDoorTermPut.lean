/- Terms with another one at a path: plain facts, and where it is put in memory. -/
import Derived.Test.YthbcfcbonmphfaaDoorTermL
import Derived.Test.YthbcfcbonmphfaaDoorTermBig
import Derived.Test.YthbcfcbonmphfaaDoorTermK
namespace Go.Proofs.YthbcfcbonmphfaaDoor
open Go.RowKit Go.Shelf
set_option maxRecDepth 100000

/-- A term with another one at a path that leads somewhere. -/
def putAt : Tm → List Int → Tm → Tm
  | _, [], u => u
  | t, i :: is, u => match t.ks[i.toNat]? with | none => t | some k => .mk t.nm t.st (t.ks.set i.toNat (putAt k is u))
theorem subAt_cons {t s : Tm} {i : Int} {is : List Int} (h : subAt t (i :: is) = some s) : ∃ (n : Nat) (k : Tm), i = (n : Int) ∧ t.ks[n]? = some k ∧ subAt k is = some s := by
  unfold subAt at h
  by_cases hi : i < 0 ∨ (t.ks.length : Int) ≤ i
  · rw [if_pos hi] at h; cases h
  · rw [if_neg hi] at h
    cases hk : t.ks[i.toNat]? with
    | none => rw [hk] at h; cases h
    | some k => rw [hk] at h; exact ⟨i.toNat, k, by omega, hk, h⟩
theorem subAt_at {t k : Tm} {n : Nat} (is : List Int) (h : t.ks[n]? = some k) : subAt t ((n : Int) :: is) = subAt k is := by
  have hlt := (List.getElem?_eq_some_iff.1 h).1
  rw [subAt, if_neg (by omega)]
  simp only [Int.toNat_natCast, h]
theorem putAt_cons {t k : Tm} {n : Nat} (is : List Int) (u : Tm) (h : t.ks[n]? = some k) : putAt t ((n : Int) :: is) u = .mk t.nm t.st (t.ks.set n (putAt k is u)) := by
  rw [putAt]
  simp only [Int.toNat_natCast, h]
theorem mem_set {α : Type} {l : List α} {n : Nat} {x y : α} (h : y ∈ l.set n x) : y = x ∨ y ∈ l := by
  rcases List.mem_or_eq_of_mem_set h with h | h
  · exact .inr h
  · exact .inl h
theorem sizes_set : ∀ (l : List Tm) (n : Nat) (k x : Tm), l[n]? = some k → sizes (l.set n x) + k.size = sizes l + x.size
  | [], _, _, _, h => by simp at h
  | y :: l, 0, k, x, h => by
    simp at h
    subst h
    rw [List.set_cons_zero, sizes, sizes]; omega
  | y :: l, n + 1, k, x, h => by
    have := sizes_set l n k x (by simpa using h)
    rw [List.set_cons_succ, sizes, sizes]; omega
theorem depths_set : ∀ (l : List Tm) (n : Nat) (x : Tm), depths (l.set n x) ≤ max (depths l) x.depth
  | [], _, _ => by simp [depths]
  | y :: l, 0, x => by rw [List.set_cons_zero, depths, depths]; omega
  | y :: l, n + 1, x => by
    have := depths_set l n x
    rw [List.set_cons_succ, depths, depths]; omega
theorem putAt_size : ∀ (L : List Int) (t u : Tm), (putAt t L u).size ≤ t.size + u.size
  | [], t, u => by rw [putAt]; omega
  | i :: is, t, u => by
    rw [putAt]
    cases hk : t.ks[i.toNat]? with
    | none => show t.size ≤ _; omega
    | some k =>
      have h1 := sizes_set t.ks i.toNat k (putAt k is u) hk
      have h2 := putAt_size is k u
      cases t with
      | mk nm st ks =>
        show (Tm.mk nm st (ks.set i.toNat (putAt k is u))).size ≤ _
        rw [Tm.size, Tm.size]
        dsimp only [Tm.ks_mk] at h1
        omega
theorem putAt_depth : ∀ (L : List Int) (t u : Tm), (putAt t L u).depth ≤ t.depth + u.depth
  | [], t, u => by rw [putAt]; omega
  | i :: is, t, u => by
    rw [putAt]
    cases hk : t.ks[i.toNat]? with
    | none => show t.depth ≤ _; omega
    | some k =>
      have h1 := depths_set t.ks i.toNat (putAt k is u)
      have h2 := putAt_depth is k u
      have h3 := (sizes_get t.ks i.toNat k hk).2
      cases t with
      | mk nm st ks =>
        show (Tm.mk nm st (ks.set i.toNat (putAt k is u))).depth ≤ _
        rw [Tm.depth, Tm.depth]
        dsimp only [Tm.ks_mk] at h1 h3
        omega
theorem putAt_ok {m : Nat} : ∀ (L : List Int) (t u : Tm), okT m t → okT m u → okT m (putAt t L u)
  | [], t, u, _, hu => by rw [putAt]; exact hu
  | i :: is, t, u, ht, hu => by
    rw [putAt]
    cases hk : t.ks[i.toNat]? with
    | none => exact ht
    | some k =>
      refine .mk _ _ _ ht.nm ht.st (by rw [List.length_set]; exact ht.len) (fun y hy => ?_)
      rcases mem_set hy with rfl | hy
      · exact putAt_ok is k u (ht.kid (List.mem_of_getElem? hk)) hu
      · exact ht.kid hy

/-- Every node has the names that it must have. -/
inductive Nmd : Tm → Prop
  | mk (nm st : ByteArray) (ks : List Tm) (h : namedT (.mk nm st ks) = true) (h2 : ∀ k, k ∈ ks → Nmd k) : Nmd (.mk nm st ks)
theorem Nmd.top {t : Tm} (h : Nmd t) : namedT t = true := by cases h; assumption
theorem Nmd.kid {t k : Tm} (h : Nmd t) (hk : k ∈ t.ks) : Nmd k := by cases h with | mk nm st ks h h2 => exact h2 k hk
mutual
theorem nmd_pre : ∀ (t : Tm) (d : Nat), Nmd t → ∀ x ∈ t.pre d, namedT x.2 = true
  | .mk nm st ks, d, h, x, hx => by
    simp only [Tm.pre, List.mem_cons] at hx
    rcases hx with rfl | hx
    · exact h.top
    · exact nmd_pres ks (d + 1) (fun k hk => h.kid hk) x hx
theorem nmd_pres : ∀ (ks : List Tm) (d : Nat), (∀ k, k ∈ ks → Nmd k) → ∀ x ∈ pres d ks, namedT x.2 = true
  | [], _, _, x, hx => by simp [pres] at hx
  | k :: ks, d, h, x, hx => by
    simp only [pres, List.mem_append] at hx
    rcases hx with hx | hx
    · exact nmd_pre k d (h k (by simp)) x hx
    · exact nmd_pres ks d (fun k hk => h k (by simp [hk])) x hx
end
mutual
theorem pre_nmd : ∀ (t : Tm) (d : Nat), (∀ x ∈ t.pre d, namedT x.2 = true) → Nmd t
  | .mk nm st ks, d, h => by
    rw [Tm.pre] at h
    exact .mk nm st ks (h (d, .mk nm st ks) (by simp)) (pres_nmd ks (d + 1) (fun x hx => h x (by simp [hx])))
theorem pres_nmd : ∀ (ks : List Tm) (d : Nat), (∀ x ∈ pres d ks, namedT x.2 = true) → ∀ k, k ∈ ks → Nmd k
  | [], _, _, k, hk => by cases hk
  | y :: ks, d, h, k, hk => by
    rw [pres] at h
    rcases List.mem_cons.1 hk with he | hk
    · rw [he]; exact pre_nmd y d (fun x hx => h x (by simp [hx]))
    · exact pres_nmd ks d (fun x hx => h x (by simp [hx])) k hk
end
theorem formed_nmd {t : Tm} (h : formed t = true) : Nmd t := by
  unfold formed at h
  simp only [Bool.and_eq_true, List.all_eq_true] at h
  exact pre_nmd t 1 h.1.2
theorem nmd_all {t : Tm} (h : Nmd t) (d : Nat) : (t.pre d).all (fun x => namedT x.2) = true := by
  rw [List.all_eq_true]; exact nmd_pre t d h
theorem namedT_len {nm st : ByteArray} {ks ks' : List Tm} (h : ks'.length = ks.length) : namedT (.mk nm st ks') = namedT (.mk nm st ks) := by
  have e : decide (0 < ks'.length) = decide (0 < ks.length) := by rw [h]
  show (if (!st.toList.isEmpty && (!isName st.toList || decide (0 < ks'.length))) = true then false else isName nm.toList) = (if (!st.toList.isEmpty && (!isName st.toList || decide (0 < ks.length))) = true then false else isName nm.toList)
  rw [e]
theorem putAt_nmd : ∀ (L : List Int) (t u : Tm), Nmd t → Nmd u → Nmd (putAt t L u)
  | [], t, u, _, hu => by rw [putAt]; exact hu
  | i :: is, t, u, ht, hu => by
    rw [putAt]
    cases hk : t.ks[i.toNat]? with
    | none => exact ht
    | some k =>
      refine .mk _ _ _ ?_ (fun y hy => ?_)
      · rw [namedT_len (ks := t.ks) (List.length_set), ← Tm.eta]; exact ht.top
      · rcases mem_set hy with rfl | hy
        · exact putAt_nmd is k u (ht.kid (List.mem_of_getElem? hk)) hu
        · exact ht.kid hy

/-- What Replace answers: 0, or the number of an error. -/
def replCode (t : Tm) (L : List Int) (u : Tm) : Int :=
  if formed t = true ∧ formed u = true then (if (subAt t L).isSome = true then (if fitsL ((putAt t L u).pre 1) = true then (if agreeL ((putAt t L u).pre 1) = true then 0 else 11) else 4) else 2) else 1
theorem repl_arg {t u : Tm} {L : List Int} (h : ¬ (formed t = true ∧ formed u = true)) : replCode t L u = 1 := by unfold replCode; rw [if_neg h]
theorem repl_range {t u : Tm} {L : List Int} (h : formed t = true ∧ formed u = true) (h2 : subAt t L = none) : replCode t L u = 2 := by unfold replCode; rw [if_pos h, h2]; rfl
theorem repl_full {t u s : Tm} {L : List Int} (h : formed t = true ∧ formed u = true) (h2 : subAt t L = some s) (h3 : fitsL ((putAt t L u).pre 1) = false) : replCode t L u = 4 := by unfold replCode; rw [if_pos h, h2, h3]; rfl
theorem repl_type {t u s : Tm} {L : List Int} (h : formed t = true ∧ formed u = true) (h2 : subAt t L = some s) (h3 : fitsL ((putAt t L u).pre 1) = true) (h4 : agreeL ((putAt t L u).pre 1) = false) : replCode t L u = 11 := by unfold replCode; rw [if_pos h, h2, h3, h4]; rfl
theorem repl_ok {t u s : Tm} {L : List Int} (h : formed t = true ∧ formed u = true) (h2 : subAt t L = some s) (h3 : fitsL ((putAt t L u).pre 1) = true) (h4 : agreeL ((putAt t L u).pre 1) = true) : replCode t L u = 0 := by unfold replCode; rw [if_pos h, h2, h3, h4]; rfl
theorem repl_zero {t u : Tm} {L : List Int} (h : replCode t L u = 0) : formed t = true ∧ formed u = true ∧ (∃ s, subAt t L = some s) ∧ formed (putAt t L u) = true := by
  by_cases h1 : formed t = true ∧ formed u = true
  · cases hs : subAt t L with
    | none => rw [repl_range h1 hs] at h; exact absurd h (by decide)
    | some s =>
      cases h3 : fitsL ((putAt t L u).pre 1) with
      | false => rw [repl_full h1 hs h3] at h; exact absurd h (by decide)
      | true =>
        cases h4 : agreeL ((putAt t L u).pre 1) with
        | false => rw [repl_type h1 hs h3 h4] at h; exact absurd h (by decide)
        | true =>
          refine ⟨h1.1, h1.2, ⟨s, rfl⟩, ?_⟩
          unfold formed
          rw [h3, h4, nmd_all (putAt_nmd L t u (formed_nmd h1.1) (formed_nmd h1.2)) 1]; rfl
  · rw [repl_arg h1] at h; exact absurd h (by decide)
theorem formed_put {t u : Tm} {L : List Int} (h : formed t = true ∧ formed u = true) : formed (putAt t L u) = (fitsL ((putAt t L u).pre 1) && agreeL ((putAt t L u).pre 1)) := by
  unfold formed
  rw [nmd_all (putAt_nmd L t u (formed_nmd h.1) (formed_nmd h.2)) 1, Bool.and_true]

/-- Names and lists that are not long for big. -/
inductive okB : Tm → Prop
  | mk (nm st : ByteArray) (ks : List Tm) (h1 : nm.size ≤ 100) (h2 : st.size ≤ 100) (h3 : ks.length ≤ 40) (h4 : ∀ k, k ∈ ks → okB k) : okB (.mk nm st ks)
theorem okB.kid {t k : Tm} (h : okB t) (hk : k ∈ t.ks) : okB k := by cases h with | mk _ _ _ _ _ _ h4 => exact h4 k hk
theorem okB.top {t : Tm} (h : okB t) : t.nm.size ≤ 100 ∧ t.st.size ≤ 100 ∧ t.ks.length ≤ 40 := by cases h; exact ⟨by assumption, by assumption, by assumption⟩
theorem okB.okT {t : Tm} (h : okB t) : okT 100 t := by
  induction h with
  | mk nm st ks h1 h2 h3 _ ih => exact .mk nm st ks h1 h2 (by omega) ih
theorem putAt_okB : ∀ (L : List Int) (t u : Tm), okB t → okB u → okB (putAt t L u)
  | [], t, u, _, hu => by rw [putAt]; exact hu
  | i :: is, t, u, ht, hu => by
    rw [putAt]
    cases hk : t.ks[i.toNat]? with
    | none => exact ht
    | some k =>
      refine .mk _ _ _ ht.top.1 ht.top.2.1 (by rw [List.length_set]; exact ht.top.2.2) (fun y hy => ?_)
      rcases mem_set hy with rfl | hy
      · exact putAt_okB is k u (ht.kid (List.mem_of_getElem? hk)) hu
      · exact ht.kid hy
theorem subAt_okB : ∀ (L : List Int) (t s : Tm), okB t → subAt t L = some s → okB s ∧ s.size ≤ t.size ∧ s.depth ≤ t.depth
  | [], t, s, h, e => by
    unfold subAt at e
    injection e with e
    subst e
    exact ⟨h, Nat.le_refl _, Nat.le_refl _⟩
  | i :: is, t, s, h, e => by
    obtain ⟨n, k, rfl, hk, e⟩ := subAt_cons e
    obtain ⟨h1, h2, h3⟩ := subAt_okB is k s (h.kid (List.mem_of_getElem? hk)) e
    have h4 := sizes_get t.ks n k hk
    cases t with
    | mk nm st ks =>
      dsimp only [Tm.ks_mk] at h4
      rw [Tm.size, Tm.depth]
      exact ⟨h1, by omega, by omega⟩
mutual
theorem wk_ok2 : ∀ (t : Tm) (d left : Int), 0 ≤ d → 0 ≤ wk t d left → okB t ∧ (t.depth : Int) ≤ d ∧ wk t d left = left - t.size
  | .mk n s ks, d, left, hd, h => by
    by_cases hc : d = 0 ∨ 100 < n.size ∨ 100 < s.size ∨ 40 < ks.length
    · rw [wk_bad hc] at h; omega
    · rw [wk_good hc] at h ⊢
      obtain ⟨h1, h2, h3⟩ := wks_ok2 ks (d - 1) (left - 1) (by omega) h
      refine ⟨.mk n s ks (by omega) (by omega) (by omega) h1, ?_, ?_⟩
      · rw [Tm.depth]; omega
      · rw [h3, Tm.size]; omega
theorem wks_ok2 : ∀ (ks : List Tm) (d left : Int), 0 ≤ d → 0 ≤ wks ks d left → (∀ k, k ∈ ks → okB k) ∧ (depths ks : Int) ≤ d ∧ wks ks d left = left - sizes ks
  | [], d, left, hd, h => ⟨(fun k hk => by cases hk), by simp [depths]; omega, by simp [wks, sizes]⟩
  | k :: ks, d, left, hd, h => by
    rw [wks] at h ⊢
    by_cases hl : 0 ≤ left
    · rw [if_pos hl] at h ⊢
      by_cases hk : 0 ≤ wk k d left
      · obtain ⟨h1, h2, h3⟩ := wk_ok2 k d left hd hk
        obtain ⟨h4, h5, h6⟩ := wks_ok2 ks d (wk k d left) hd h
        refine ⟨fun y hy => ?_, ?_, ?_⟩
        · rcases List.mem_cons.1 hy with he | hy
          · rw [he]; exact h1
          · exact h4 y hy
        · rw [depths]; omega
        · rw [h6, h3, sizes]; omega
      · rw [wks_neg ks d (wk k d left) (by omega)] at h; omega
    · rw [if_neg hl] at h; omega
end
mutual
theorem wk_fit : ∀ (t : Tm) (d left : Int), okB t → (t.depth : Int) ≤ d → (t.size : Int) ≤ left → wk t d left = left - t.size
  | .mk n s ks, d, left, ho, hd, h => by
    rw [Tm.depth] at hd
    rw [Tm.size] at h ⊢
    have ht := ho.top
    dsimp only [Tm.nm_mk, Tm.st_mk, Tm.ks_mk] at ht
    rw [wk_good (by omega), wks_fit ks (d - 1) (left - 1) (fun k hk => ho.kid hk) (by omega) (by omega)]
    omega
theorem wks_fit : ∀ (ks : List Tm) (d left : Int), (∀ k, k ∈ ks → okB k) → (depths ks : Int) ≤ d → (sizes ks : Int) ≤ left → wks ks d left = left - sizes ks
  | [], d, left, _, _, h => by simp [wks, sizes]
  | k :: ks, d, left, ho, hd, h => by
    rw [depths] at hd
    rw [sizes] at h ⊢
    rw [wks, if_pos (by omega), wk_fit k d left (ho k (by simp)) (by omega) (by omega), wks_fit ks d _ (fun y hy => ho y (by simp [hy])) (by omega) (by omega)]
    omega
end
theorem fold_ok2 : ∀ (L : List Tm) (l : Int), 0 ≤ L.foldl (fun l t => wk t 80 l) l → (∀ t, t ∈ L → okB t ∧ t.depth ≤ 80) ∧ L.foldl (fun l t => wk t 80 l) l = l - sizes L
  | [], _, h => ⟨(fun t h => by cases h), by simp [sizes]⟩
  | x :: L, l, h => by
    rw [List.foldl_cons] at h ⊢
    have h0 : 0 ≤ wk x 80 l := by
      by_cases hn : wk x 80 l < 0
      · have := fold_neg L _ hn; omega
      · omega
    obtain ⟨h1, h2, h3⟩ := wk_ok2 x 80 l (by omega) h0
    obtain ⟨h4, h5⟩ := fold_ok2 L _ h
    refine ⟨fun t ht => ?_, ?_⟩
    · rcases List.mem_cons.1 ht with he | ht
      · rw [he]; exact ⟨h1, by omega⟩
      · exact h4 t ht
    · rw [h5, h3, sizes]; omega
/-- Terms that are not big are short, not deep, and have few nodes together. -/
theorem bigL_small {L : List Tm} (h : bigL L = false) : (∀ t, t ∈ L → okB t ∧ t.depth ≤ 80) ∧ sizes L ≤ 1100 := by
  unfold bigL at h
  have h0 : 0 ≤ bigN L := by have := of_decide_eq_false h; omega
  obtain ⟨h1, h2⟩ := fold_ok2 L 1100 h0
  refine ⟨h1, ?_⟩
  unfold bigN at h0
  rw [h2] at h0
  omega
theorem bigL_one {t : Tm} (h1 : okB t) (h2 : t.depth ≤ 80) (h3 : t.size ≤ 1100) : bigL [t] = false := by
  unfold bigL bigN
  rw [List.foldl_cons, List.foldl_nil, wk_fit t 80 1100 h1 (by omega) (by omega)]
  exact decide_eq_false (by omega)
theorem fitsL_depth {t : Tm} (h : fitsL (t.pre 1) = true) : t.depth ≤ 60 ∧ t.size ≤ 1000 := by
  unfold fitsL fitX at h
  simp only [Bool.and_eq_true, List.all_eq_true, decide_eq_true_eq] at h
  obtain ⟨x, hx, e⟩ := Tm.pre_deepest t 1
  have := (h.2 x hx).1
  rw [Tm.pre_length] at h
  exact ⟨by omega, h.1⟩
theorem formed_fits {t : Tm} (h : formed t = true) : fitsL (t.pre 1) = true := by
  unfold formed at h
  simp only [Bool.and_eq_true] at h
  exact h.1.1
/-- What is put together is not big. -/
theorem big_put {t u : Tm} {L : List Int} (ht : okB t) (hu : okB u) (h : formed (putAt t L u) = true) : bigL [putAt t L u] = false := by
  obtain ⟨h1, h2⟩ := fitsL_depth (formed_fits h)
  exact bigL_one (putAt_okB L t u ht hu) (by omega) (by omega)
theorem big_sub {t s : Tm} {L : List Int} (ht : okB t) (hd : t.depth ≤ 80) (hs : t.size ≤ 1100) (h : subAt t L = some s) : bigL [s] = false := by
  obtain ⟨h1, h2, h3⟩ := subAt_okB L t s ht h
  exact bigL_one h1 (by omega) (by omega)
theorem rcmp_self : ∀ t : Tm, rcmp t t = 0 := by
  intro t
  induction t using Tm.ind with
  | h nm st ks ih =>
    have hl : ∀ L : List Tm, (∀ k, k ∈ L → rcmp k k = 0) → rcmps L L = 0 := by
      intro L
      induction L with
      | nil => intro _; rfl
      | cons x L ihL =>
        intro h
        rw [rcmps, h x (by simp), if_neg (fun h => h rfl)]
        exact ihL (fun k hk => h k (by simp [hk]))
    have hb : ∀ s : ByteArray, bcmp s s = 0 := fun s => bcmp_zero.2 rfl
    have hn : ncmp ks.length ks.length = 0 := by unfold ncmp; rw [if_neg (by omega), if_neg (by omega)]
    rw [rcmp_eq rfl]
    dsimp only [Tm.nm_mk, Tm.st_mk, Tm.ks_mk]
    simp [hb, hn, hl ks ih]
theorem putAt_top {t s : Tm} {i : Int} {is : List Int} (u : Tm) (h : subAt t (i :: is) = some s) : (putAt t (i :: is) u).nm = t.nm ∧ (putAt t (i :: is) u).st = t.st ∧ (putAt t (i :: is) u).ks.length = t.ks.length := by
  obtain ⟨n, k, rfl, hk, _⟩ := subAt_cons h
  rw [putAt_cons is u hk]
  exact ⟨rfl, rfl, List.length_set⟩

/-- The world after a term is stored at an address. -/
def put3 (w : World) (b o : Nat) (u : Tm) (A : Option Addr) (c : Nat) : World :=
  ((w.setCell ⟨b, o, none⟩ (.string u.nm)).setCell ⟨b, o + 1, none⟩ (.string u.st)).setCell ⟨b, o + 2, none⟩ (.slice A u.ks.length c)
theorem put3_other (w : World) (b o : Nat) (u : Tm) (A : Option Addr) (c i : Nat) (h : i ≠ b) : (put3 w b o u A c).heap[i]? = w.heap[i]? := set3_heap w b o _ _ _ i h
theorem put3_size (w : World) (b o : Nat) (u : Tm) (A : Option Addr) (c : Nat) : (put3 w b o u A c).heap.size = w.heap.size := by simp [put3]
theorem put3_cells {w : World} {b o : Nat} {cur : Array Value} {T : TypeId} (h : w.heap[b]? = some (.cells cur T (0, 0))) (u : Tm) (A : Option Addr) (c : Nat) :
    (put3 w b o u A c).heap[b]? = some (.cells (((cur.setIfInBounds o (.string u.nm)).setIfInBounds (o + 1) (.string u.st)).setIfInBounds (o + 2) (.slice A u.ks.length c)) T (0, 0)) :=
  heap_setCell_same _ b (o + 2) _ T _ (heap_setCell_same _ b (o + 1) _ T _ (heap_setCell_same w b o cur T _ h))
theorem put3_at {w : World} {b o : Nat} {cur : Array Value} {T : TypeId} (h : w.heap[b]? = some (.cells cur T (0, 0))) (ho : o + 2 < cur.size) (u : Tm) (A : Option Addr) (c : Nat) :
    (put3 w b o u A c).cell? ⟨b, o, none⟩ = some (.string u.nm) ∧ (put3 w b o u A c).cell? ⟨b, o + 1, none⟩ = some (.string u.st) ∧ (put3 w b o u A c).cell? ⟨b, o + 2, none⟩ = some (.slice A u.ks.length c) := by
  have hc := put3_cells (o := o) h u A c
  refine ⟨?_, ?_, ?_⟩ <;> rw [cell_of_row _ b _ _ _ (0, 0) hc] <;> simp [Array.getElem?_setIfInBounds] <;> omega
theorem put3_off {w : World} {b o j : Nat} {cur : Array Value} {T : TypeId} (h : w.heap[b]? = some (.cells cur T (0, 0))) (hj : j < o ∨ o + 2 < j) (u : Tm) (A : Option Addr) (c : Nat) :
    (put3 w b o u A c).cell? ⟨b, j, none⟩ = w.cell? ⟨b, j, none⟩ := by
  have hc := put3_cells (o := o) h u A c
  rw [cell_of_row _ b _ _ _ (0, 0) hc, cell_of_row _ b _ _ _ (0, 0) h]
  rw [Array.getElem?_setIfInBounds_ne (by omega), Array.getElem?_setIfInBounds_ne (by omega), Array.getElem?_setIfInBounds_ne (by omega)]
theorem set_get {α : Type} {l : List α} {i j : Nat} {x y : α} (h : (l.set i x)[j]? = some y) : (j = i ∧ y = x) ∨ (j ≠ i ∧ l[j]? = some y) := by
  by_cases hj : j = i
  · subst hj
    have hlt := (List.getElem?_eq_some_iff.1 h).1
    rw [List.length_set] at hlt
    rw [List.getElem?_set_self hlt] at h
    injection h with h
    exact .inl ⟨rfl, h.symm⟩
  · rw [List.getElem?_set_ne (fun e => hj e.symm)] at h
    exact .inr ⟨hj, h⟩

/-- The parts of a term in memory, in blocks of which P holds. -/
inductive TIn (P : Nat → Prop) (w : World) : Tm → Option Addr → Prop
  | mk (nm st : ByteArray) (ks : List Tm) (A : Option Addr) (b off : Nat) (al : Nat → Option Addr) (cs : Nat → Nat)
    (hA : 0 < ks.length → A = some ⟨b, off, none⟩ ∧ P b)
    (h0 : ∀ i k, ks[i]? = some k → w.cell? ⟨b, off + i * 3, none⟩ = some (.string k.nm))
    (h1 : ∀ i k, ks[i]? = some k → w.cell? ⟨b, off + i * 3 + 1, none⟩ = some (.string k.st))
    (h2 : ∀ i k, ks[i]? = some k → w.cell? ⟨b, off + i * 3 + 2, none⟩ = some (.slice (al i) k.ks.length (cs i)))
    (hr : ∀ i k, ks[i]? = some k → TIn P w k (al i)) : TIn P w (.mk nm st ks) A
theorem TIn.keep {P Q : Nat → Prop} {w w' : World} {t : Tm} {A : Option Addr} (h : TIn P w t A) (hk : ∀ i, P i → w'.heap[i]? = w.heap[i]?) (hq : ∀ i, P i → Q i) : TIn Q w' t A := by
  induction h with
  | mk nm st ks A b off al cs hA h0 h1 h2 hr ih =>
    have hp : ∀ {i k}, ks[i]? = some k → P b := fun {i k} hi => (hA (by have := (List.getElem?_eq_some_iff.1 hi).1; omega)).2
    have hc : ∀ {i k} (o : Nat), ks[i]? = some k → w'.cell? ⟨b, o, none⟩ = w.cell? ⟨b, o, none⟩ := fun o hi => World.cell?_of_block (hk b (hp hi))
    exact .mk nm st ks A b off al cs (fun h => ⟨(hA h).1, hq _ (hA h).2⟩) (fun i k hi => (hc _ hi).trans (h0 i k hi)) (fun i k hi => (hc _ hi).trans (h1 i k hi)) (fun i k hi => (hc _ hi).trans (h2 i k hi)) ih
theorem TIn.mono {P Q : Nat → Prop} {w : World} {t : Tm} {A : Option Addr} (h : TIn P w t A) (hq : ∀ i, P i → Q i) : TIn Q w t A := h.keep (fun _ _ => rfl) hq
theorem TIn.rep {P : Nat → Prop} {n : Nat} {w : World} {t : Tm} {A : Option Addr} (h : TIn P w t A) (hn : ∀ i, P i → i < n) : TRep n w t A := by
  induction h with
  | mk nm st ks A b off al cs hA h0 h1 h2 hr ih => exact .mk nm st ks A b off al cs (fun h => ⟨(hA h).1, hn _ (hA h).2⟩) h0 h1 h2 ih
theorem TRep.tin {n : Nat} {w : World} {t : Tm} {A : Option Addr} (h : TRep n w t A) : TIn (fun i => i < n) w t A := by
  induction h with
  | mk nm st ks A b off al cs hA h0 h1 h2 hr ih => exact .mk nm st ks A b off al cs hA h0 h1 h2 ih
theorem TOwn.tin {w : World} {lo hi : Nat} {t : Tm} {A : Option Addr} (h : TOwn w lo hi t A) : TIn (fun i => lo ≤ i ∧ i < hi) w t A := by
  induction h with
  | mk lo hi nm st ks A b ls al cs hA hb h0 h1 h2 hl hr ih =>
    refine .mk nm st ks A b 0 al cs (fun h => ?_) (fun i k hi => by rw [Nat.zero_add]; exact h0 i k hi) (fun i k hi => by rw [Nat.zero_add]; exact h1 i k hi) (fun i k hi => by rw [Nat.zero_add]; exact h2 i k hi) (fun i k hi => (ih i k hi).mono (fun j hj => ?_))
    · obtain ⟨e1, e2, e3, e4⟩ := hA h
      have := mono_ls hl 0 ks.length (Nat.zero_le _) (Nat.le_refl _)
      exact ⟨e1, by omega, by omega⟩
    · have hlt := (List.getElem?_eq_some_iff.1 hi).1
      obtain ⟨e1, e2, e3, e4⟩ := hA (by omega)
      have m1 := mono_ls hl 0 i (Nat.zero_le _) (by omega)
      have m2 := mono_ls hl (i + 1) ks.length (by omega) (Nat.le_refl _)
      omega

/-- A term is stored at a path of a term whose parts lie in blocks of their own. -/
theorem TOwn.put {w : World} {lo hi : Nat} {t : Tm} {A : Option Addr} (h : TOwn w lo hi t A) : ∀ (L : List Int) (s : Tm), L ≠ [] → subAt t L = some s → ∀ (b0 o0 n c b o : Nat), w.cell? ⟨b0, o0 + 2, none⟩ = some (.slice A n c) → Loc w L b0 o0 b o →
    lo ≤ b ∧ b < hi ∧ (∃ cur, w.heap[b]? = some (.cells cur 56 (0, 0))) ∧
    ∀ (w5 : World), (∀ j, lo ≤ j → j < hi → w5.heap[j]? = w.heap[j]?) → ∀ (u : Tm) (A5 : Option Addr) (c5 : Nat) (P : Nat → Prop), (∀ j, lo ≤ j → j < hi → P j) → TIn P (put3 w5 b o u A5 c5) u A5 → TIn P (put3 w5 b o u A5 c5) (putAt t L u) A := by
  induction h with
  | mk lo hi nm st ks A b1 ls al cs hA hb h0 h1 h2 hl hr ih =>
    intro L s hL hs b0 o0 n c b o hc hloc
    cases L with
    | nil => exact absurd rfl hL
    | cons x is =>
      obtain ⟨i, k, rfl, hk, hs'⟩ := subAt_cons hs
      dsimp only [Tm.ks_mk] at hk
      have hlt := (List.getElem?_eq_some_iff.1 hk).1
      obtain ⟨rfl, hlo, hls0, hlsn⟩ := hA (by omega)
      obtain ⟨cur, hcur⟩ := hb (by omega)
      obtain ⟨b2, o2, n2, c2, hc2, hl2⟩ := hloc
      rw [hc] at hc2
      injection hc2 with hc2
      injection hc2 with hc2 _ _
      injection hc2 with hc2
      injection hc2 with e1 e2 _
      subst e1 e2
      rw [Int.toNat_natCast, Nat.zero_add] at hl2
      have m0 := mono_ls hl 0 ks.length (Nat.zero_le _) (Nat.le_refl _)
      have m1 := mono_ls hl 0 i (Nat.zero_le _) (by omega)
      have m2 := mono_ls hl (i + 1) ks.length (by omega) (Nat.le_refl _)
      have hkeep : ∀ (w5 : World), (∀ j, lo ≤ j → j < hi → w5.heap[j]? = w.heap[j]?) → ∀ (v : Tm) (A5 : Option Addr) (c5 : Nat) (P : Nat → Prop) (b' o' : Nat), (∀ j, lo ≤ j → j < hi → P j) → (b' = b1 ∨ (ls i ≤ b' ∧ b' < ls (i + 1))) → ∀ j k', j ≠ i → ks[j]? = some k' → TIn P (put3 w5 b' o' v A5 c5) k' (al j) := by
        intro w5 h5 v A5 c5 P b' o' hP hb' j k' hj hk'
        have hjl := (List.getElem?_eq_some_iff.1 hk').1
        have n1 := mono_ls hl 0 j (Nat.zero_le _) (by omega)
        have n2 := mono_ls hl (j + 1) ks.length (by omega) (Nat.le_refl _)
        have hap : j < i → ls (j + 1) ≤ ls i := fun h => mono_ls hl (j + 1) i (by omega) (by omega)
        have hap2 : i < j → ls (i + 1) ≤ ls j := fun h => mono_ls hl (i + 1) j (by omega) (by omega)
        refine ((hr j k' hk').keep (fun q hq1 hq2 => (put3_other w5 b' o' v A5 c5 q ?_).trans (h5 q (by omega) (by omega)))).tin.mono (fun q hq => hP q (by omega) (by omega))
        rcases hb' with rfl | hb'
        · omega
        · rcases Nat.lt_or_gt_of_ne hj with h | h
          · have := hap h; omega
          · have := hap2 h; omega
      cases is with
      | nil =>
        obtain ⟨rfl, rfl⟩ := hl2
        refine ⟨hlo, by omega, ⟨cur, hcur⟩, fun w5 h5 u A5 c5 P hP hu => ?_⟩
        have hc5 := (h5 b1 hlo (by omega)).trans hcur
        have hsz : i * 3 + 2 < cur.size := by
          have := h2 i k hk
          rw [cell_of_row _ b1 _ _ _ (0, 0) hcur] at this
          exact (Array.getElem?_eq_some_iff.1 this).1
        obtain ⟨p0, p1, p2⟩ := put3_at hc5 hsz u A5 c5
        have hoff : ∀ j q, j ≠ i → q < 3 → (put3 w5 b1 (i * 3) u A5 c5).cell? ⟨b1, j * 3 + q, none⟩ = w.cell? ⟨b1, j * 3 + q, none⟩ := fun j q hj hq => by
          rw [put3_off hc5 (by omega) u A5 c5, cell_of_row _ b1 _ _ _ (0, 0) hc5, cell_of_row _ b1 _ _ _ (0, 0) hcur]
        rw [putAt_cons [] u hk, putAt]
        refine .mk nm st _ (some ⟨b1, 0, none⟩) b1 0 (fun j => if j = i then A5 else al j) (fun j => if j = i then c5 else cs j) (fun _ => ⟨rfl, hP b1 hlo (by omega)⟩) (fun j k' hj => ?_) (fun j k' hj => ?_) (fun j k' hj => ?_) (fun j k' hj => ?_)
        · rcases set_get hj with ⟨rfl, rfl⟩ | ⟨hji, hk'⟩
          · rw [Nat.zero_add]; exact p0
          · rw [Nat.zero_add]; exact (hoff j 0 hji (by omega)).trans (h0 j k' hk')
        · rcases set_get hj with ⟨rfl, rfl⟩ | ⟨hji, hk'⟩
          · rw [Nat.zero_add]; exact p1
          · rw [Nat.zero_add]; exact (hoff j 1 hji (by omega)).trans (h1 j k' hk')
        · rcases set_get hj with ⟨rfl, rfl⟩ | ⟨hji, hk'⟩
          · rw [Nat.zero_add, if_pos rfl, if_pos rfl]; exact p2
          · rw [Nat.zero_add, if_neg hji, if_neg hji]; exact (hoff j 2 hji (by omega)).trans (h2 j k' hk')
        · rcases set_get hj with ⟨rfl, rfl⟩ | ⟨hji, hk'⟩
          · rw [if_pos rfl]; exact hu
          · rw [if_neg hji]; exact hkeep w5 h5 u A5 c5 P b1 _ hP (.inl rfl) j k' hji hk'
      | cons y is =>
        obtain ⟨g1, g2, g3, g4⟩ := ih i k hk (y :: is) s (by simp) hs' b1 (i * 3) k.ks.length (cs i) b o (h2 i k hk) hl2
        refine ⟨by omega, by omega, g3, fun w5 h5 u A5 c5 P hP hu => ?_⟩
        have hne : b1 ≠ b := by omega
        have hcell : ∀ q, (put3 w5 b o u A5 c5).cell? ⟨b1, q, none⟩ = w.cell? ⟨b1, q, none⟩ := fun q => World.cell?_of_block ((put3_other w5 b o u A5 c5 b1 hne).trans (h5 b1 hlo (by omega)))
        obtain ⟨e1, e2, e3⟩ := putAt_top u hs'
        rw [putAt_cons (y :: is) u hk]
        refine .mk nm st _ (some ⟨b1, 0, none⟩) b1 0 al cs (fun _ => ⟨rfl, hP b1 hlo (by omega)⟩) (fun j k' hj => ?_) (fun j k' hj => ?_) (fun j k' hj => ?_) (fun j k' hj => ?_)
        · rcases set_get hj with ⟨rfl, rfl⟩ | ⟨hji, hk'⟩
          · rw [Nat.zero_add, hcell, e1]; exact h0 _ k hk
          · rw [Nat.zero_add, hcell]; exact h0 j k' hk'
        · rcases set_get hj with ⟨rfl, rfl⟩ | ⟨hji, hk'⟩
          · rw [Nat.zero_add, hcell, e2]; exact h1 _ k hk
          · rw [Nat.zero_add, hcell]; exact h1 j k' hk'
        · rcases set_get hj with ⟨rfl, rfl⟩ | ⟨hji, hk'⟩
          · rw [Nat.zero_add, hcell, e3]; exact h2 _ k hk
          · rw [Nat.zero_add, hcell]; exact h2 j k' hk'
        · rcases set_get hj with ⟨rfl, rfl⟩ | ⟨hji, hk'⟩
          · exact g4 w5 (fun q h1 h2 => h5 q (by omega) (by omega)) u A5 c5 P (fun q h1 h2 => hP q (by omega) (by omega)) hu
          · exact hkeep w5 h5 u A5 c5 P b o hP (.inr ⟨g1, g2⟩) j k' hji hk'
end Go.Proofs.YthbcfcbonmphfaaDoor
