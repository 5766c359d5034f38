/- Joined tokens, as plain functions: no program text. -/
import Derived.Test.YthbcfcbonmphfaaGreatDoorTermJBundle
import Derived.Test.YthbcfcbonmphfaaGreatDoorTermGBundle
import Derived.Test.YthbcfcbonmphfaaGreatDoorTermSBundle
/- The reference's comparison: order, Compare, Same. -/
namespace Go.Proofs.YthbcfcbonmphfaaGreatDoor
open Go.RowKit Go.Shelf
set_option maxRecDepth 100000
attribute [local go_sem] Oper.semAt_some

theorem cb_less : ∀ (a b : List UInt8), Op.bytesLess a b = decide (Lib.compareBytes a b = -1)
  | [], [] => by simp [Op.bytesLess, Lib.compareBytes]
  | [], _ :: _ => by simp [Op.bytesLess, Lib.compareBytes]
  | _ :: _, [] => by simp [Op.bytesLess, Lib.compareBytes]
  | x :: a, y :: b => by
    unfold Op.bytesLess Lib.compareBytes
    rw [cb_less a b]
    by_cases h1 : x < y
    · simp [h1]
    · by_cases h2 : y < x
      · have h3 : ¬ x = y := fun e => by subst e; exact h1 h2
        simp [h1, h2, h3]
      · have h3 : x = y := UInt8.le_antisymm (UInt8.not_lt.1 h2) (UInt8.not_lt.1 h1)
        simp [h3]
theorem cb_swap : ∀ (a b : List UInt8), Lib.compareBytes b a = - Lib.compareBytes a b
  | [], [] => by simp [Lib.compareBytes]
  | [], _ :: _ => by simp [Lib.compareBytes]
  | _ :: _, [] => by simp [Lib.compareBytes]
  | x :: a, y :: b => by
    unfold Lib.compareBytes
    by_cases h1 : x < y
    · have h2 : ¬ y < x := fun h => UInt8.lt_irrefl _ (UInt8.lt_trans h1 h)
      simp [h1, h2]
    · by_cases h2 : y < x
      · simp [h1, h2]
      · simp only [h1, h2, if_false]; exact cb_swap a b
theorem cb_zero : ∀ (a b : List UInt8), Lib.compareBytes a b = 0 ↔ a = b
  | [], [] => by simp [Lib.compareBytes]
  | [], _ :: _ => by simp [Lib.compareBytes]
  | _ :: _, [] => by simp [Lib.compareBytes]
  | x :: a, y :: b => by
    unfold Lib.compareBytes
    by_cases h1 : x < y
    · have h3 : ¬ x = y := fun e => by subst e; exact UInt8.lt_irrefl _ h1
      simp [h1, h3]
    · by_cases h2 : y < x
      · have h3 : ¬ x = y := fun e => by subst e; exact UInt8.lt_irrefl _ h2
        simp [h1, h2, h3]
      · have h3 : x = y := UInt8.le_antisymm (UInt8.not_lt.1 h2) (UInt8.not_lt.1 h1)
        subst h3
        simp [cb_zero a b]
theorem cb_vals : ∀ (a b : List UInt8), Lib.compareBytes a b = -1 ∨ Lib.compareBytes a b = 0 ∨ Lib.compareBytes a b = 1
  | [], [] => by simp [Lib.compareBytes]
  | [], _ :: _ => by simp [Lib.compareBytes]
  | _ :: _, [] => by simp [Lib.compareBytes]
  | x :: a, y :: b => by
    unfold Lib.compareBytes
    by_cases h1 : x < y
    · simp [h1]
    · by_cases h2 : y < x
      · simp [h1, h2]
      · simp only [h1, h2, if_false]; exact cb_vals a b
theorem bcmp_zero {a b : ByteArray} : bcmp a b = 0 ↔ a = b := by
  unfold bcmp
  rw [cb_zero]
  exact ⟨fun h => toList_inj h, fun h => by rw [h]⟩
theorem bcmp_vals (a b : ByteArray) : bcmp a b = -1 ∨ bcmp a b = 0 ∨ bcmp a b = 1 := cb_vals _ _
theorem bcmp_swap (a b : ByteArray) : bcmp b a = - bcmp a b := cb_swap _ _

set_option maxHeartbeats 1000000 in
theorem refOrder_any (a b : ByteArray) (w : World) : Calls Tryz.prog 84 #[.string a, .string b] w fun e w' => e = .returned (.int .i64 (bcmp a b)) ∧ w' = w := by
  have e1 : Op.bytesLess a.toList b.toList = decide (bcmp a b = -1) := by rw [cb_less]; rw [Lib.toList_data, Lib.toList_data]; rfl
  have e2 : Op.bytesLess b.toList a.toList = decide (bcmp b a = -1) := by rw [cb_less]; rw [Lib.toList_data, Lib.toList_data]; rfl
  rw [bcmp_swap] at e2
  rcases bcmp_vals a b with h | h | h
  · rw [h] at e1 e2 ⊢
    have f1 : Op.bytesLess a.toList b.toList = true := by rw [e1]; decide
    clear e1 e2 h
    go_enter Tryz.func84, Tryz.ntmps84
    go_wp2_with fail
    go_ret
    exact ⟨rfl, rfl⟩
  · rw [h] at e1 e2 ⊢
    have f1 : Op.bytesLess a.toList b.toList = false := by rw [e1]; decide
    have f2 : Op.bytesLess b.toList a.toList = false := by rw [e2]; decide
    have f3 := str_eq_true (bcmp_zero.1 h)
    clear e1 e2 h
    go_enter Tryz.func84, Tryz.ntmps84
    go_wp2_with fail
    go_ret
    exact ⟨rfl, rfl⟩
  · rw [h] at e1 e2 ⊢
    have f1 : Op.bytesLess a.toList b.toList = false := by rw [e1]; decide
    have f2 : Op.bytesLess b.toList a.toList = true := by rw [e2]; decide
    have f3 := str_eq_false (a := a) (b := b) (fun e => absurd ((bcmp_zero.2 e).symm.trans h) (by decide))
    clear e1 e2 h
    go_enter Tryz.func84, Tryz.ntmps84
    go_wp2_with fail
    go_ret
    exact ⟨rfl, rfl⟩

/-! ### what Compare of the reference says -/
theorem rcmp_vn {a b : Tm} (ha : isV a = true) (hb : isV b = false) : rcmp a b = -1 := by
  cases a with
  | mk n s ks =>
    unfold rcmp
    have : (!s.toList.isEmpty) = true := ha
    rw [this, hb]; rfl
theorem rcmp_nv {a b : Tm} (ha : isV a = false) (hb : isV b = true) : rcmp a b = 1 := by
  cases a with
  | mk n s ks =>
    unfold rcmp
    have : (!s.toList.isEmpty) = false := ha
    rw [this, hb]; rfl
theorem rcmp_eq {a b : Tm} (h : isV a = isV b) : rcmp a b = if bcmp a.nm b.nm ≠ 0 then bcmp a.nm b.nm else if bcmp a.st b.st ≠ 0 then bcmp a.st b.st else if ncmp a.ks.length b.ks.length ≠ 0 then ncmp a.ks.length b.ks.length else rcmps a.ks b.ks := by
  cases a with
  | mk n s ks =>
    rw [rcmp]
    have : (!s.toList.isEmpty) = isV b := h
    rw [this, if_neg (fun h => h rfl)]; rfl
theorem rcmps_at {L M : List Tm} {k : Nat} {x y : Tm} (hx : L[k]? = some x) (hy : M[k]? = some y) : rcmps (L.drop k) (M.drop k) = if rcmp x y ≠ 0 then rcmp x y else rcmps (L.drop (k + 1)) (M.drop (k + 1)) := by
  obtain ⟨h1, e1⟩ := List.getElem?_eq_some_iff.1 hx
  obtain ⟨h2, e2⟩ := List.getElem?_eq_some_iff.1 hy
  rw [List.drop_eq_getElem_cons h1, List.drop_eq_getElem_cons h2, e1, e2, rcmps]
end Go.Proofs.YthbcfcbonmphfaaGreatDoor

/- The order of terms is total: plain facts. -/
namespace Go.Proofs.YthbcfcbonmphfaaGreatDoor
open Go.RowKit Go.Shelf
set_option maxRecDepth 100000

/-- What a comparison owes, one at a time. -/
def T3 (x y z : Int) : Prop := (x ≤ 0 → y ≤ 0 → z ≤ 0 ∧ (z = 0 → x = 0 ∧ y = 0)) ∧ (x = 0 → y = 0 → z = 0)
theorem T3.or2 {x1 x2 y1 y2 z1 z2 : Int} (h : T3 x1 y1 z1) (h2 : x1 = 0 → y1 = 0 → T3 x2 y2 z2) : T3 (or2 x1 x2) (or2 y1 y2) (or2 z1 z2) := by
  obtain ⟨ha, hb⟩ := h
  unfold Go.Proofs.YthbcfcbonmphfaaGreatDoor.or2
  by_cases hx : x1 = 0
  · by_cases hy : y1 = 0
    · have hz := hb hx hy
      rw [if_neg (fun h => h hx), if_neg (fun h => h hy), if_neg (fun h => h hz)]
      exact h2 hx hy
    · rw [if_neg (fun h => h hx), if_pos hy]
      refine ⟨fun h3 h4 => ?_, fun _ h4 => absurd h4 hy⟩
      have h5 := ha (by omega) h4
      by_cases hz : z1 = 0
      · exact absurd (h5.2 hz).2 hy
      · rw [if_pos hz]; exact ⟨h5.1, fun h6 => absurd h6 hz⟩
  · rw [if_pos hx]
    refine ⟨fun h3 h4 => ?_, fun h3 => absurd h3 hx⟩
    by_cases hy : y1 = 0
    · have h5 := ha h3 (by omega)
      by_cases hz : z1 = 0
      · exact absurd (h5.2 hz).1 hx
      · rw [if_pos hz]; exact ⟨h5.1, fun h6 => absurd h6 hz⟩
    · rw [if_pos hy] at h4
      have h5 := ha h3 h4
      by_cases hz : z1 = 0
      · exact absurd (h5.2 hz).1 hx
      · rw [if_pos hz]; exact ⟨h5.1, fun h6 => absurd h6 hz⟩
theorem cb_trans : ∀ (a b c : List UInt8), T3 (Lib.compareBytes a b) (Lib.compareBytes b c) (Lib.compareBytes a c)
  | [], [], [] => by simp [T3, Lib.compareBytes]
  | [], [], _ :: _ => by simp [T3, Lib.compareBytes]
  | [], _ :: _, [] => by simp [T3, Lib.compareBytes]
  | [], y :: b, z :: c => by
    refine ⟨fun _ _ => by simp [Lib.compareBytes], fun h => by simp [Lib.compareBytes] at h⟩
  | x :: a, [], [] => by simp [T3, Lib.compareBytes]
  | x :: a, [], z :: c => by
    refine ⟨fun h => by simp [Lib.compareBytes] at h, fun h => by simp [Lib.compareBytes] at h⟩
  | x :: a, y :: b, [] => by
    refine ⟨fun _ h => by simp [Lib.compareBytes] at h, fun _ h => by simp [Lib.compareBytes] at h⟩
  | x :: a, y :: b, z :: c => by
    have hr := cb_trans a b c
    have hirr : ∀ u : UInt8, ¬ u < u := UInt8.lt_irrefl
    have htr : ∀ u v t : UInt8, u < v → v < t → u < t := fun _ _ _ => UInt8.lt_trans
    have heq : ∀ u v : UInt8, ¬ u < v → ¬ v < u → u = v := fun u v h1 h2 => UInt8.le_antisymm (UInt8.not_lt.1 h2) (UInt8.not_lt.1 h1)
    unfold Lib.compareBytes
    by_cases h1 : x < y
    · by_cases h2 : y < z
      · simp [T3, h1, h2, htr _ _ _ h1 h2]
      · by_cases h3 : z < y
        · simp [T3, h1, h2, h3]
        · have := heq _ _ h2 h3
          subst this
          simp [T3, h1, hirr]
    · by_cases h2 : y < x
      · simp [T3, h1, h2]
      · have := heq _ _ h1 h2
        subst this
        by_cases h3 : x < z
        · simp [T3, hirr, h3]
        · by_cases h4 : z < x
          · simp [T3, hirr, h3, h4]
          · have := heq _ _ h3 h4
            subst this
            simpa [hirr] using hr
theorem bcmp_trans (a b c : ByteArray) : T3 (bcmp a b) (bcmp b c) (bcmp a c) := cb_trans _ _ _
theorem ncmp_trans (a b c : Nat) : T3 (ncmp a b) (ncmp b c) (ncmp a c) := by
  unfold T3 ncmp
  by_cases h1 : a < b <;> by_cases h2 : b < a <;> by_cases h3 : b < c <;> by_cases h4 : c < b <;> by_cases h5 : a < c <;> by_cases h6 : c < a <;> simp [h1, h2, h3, h4, h5, h6] <;> omega
theorem ncmp_swap (a b : Nat) : ncmp b a = - ncmp a b := by
  unfold ncmp
  by_cases h1 : a < b <;> by_cases h2 : b < a <;> simp [h1, h2] <;> omega
theorem or2_zero_left (y : Int) : or2 0 y = y := by unfold or2; rw [if_neg (fun h => h rfl)]
theorem or2_zero_right (x : Int) : or2 x 0 = x := by
  unfold or2
  by_cases h : x = 0
  · rw [if_neg (fun h' => h' h), h]
  · rw [if_pos h]
theorem or2_assoc (x y z : Int) : or2 (or2 x y) z = or2 x (or2 y z) := by
  by_cases h : x = 0
  · subst h; rw [or2_zero_left, or2_zero_left]
  · have h1 : ∀ u, or2 x u = x := fun u => by unfold or2; rw [if_pos h]
    rw [h1, h1, h1]
theorem rcmp_or2 {a b : Tm} (h : isV a = isV b) : rcmp a b = or2 (bcmp a.nm b.nm) (or2 (bcmp a.st b.st) (or2 (ncmp a.ks.length b.ks.length) (rcmps a.ks b.ks))) := rcmp_eq h
theorem or2_neg (x y : Int) : or2 (-x) (-y) = - or2 x y := by
  unfold or2
  by_cases h : x = 0
  · rw [if_neg (fun h' => h' (by omega)), if_neg (fun h' => h' h)]
  · rw [if_pos (fun h' => h (by omega)), if_pos h]

theorem tcmp_or2 {a b : Tm} (ha : isV a = false) (hb : isV b = false) : tcmp a b = or2 (or2 (bcmp a.nm b.nm) (ncmp a.ks.length b.ks.length)) (tcmps a.ks b.ks) := tcmp_nn ha hb
theorem tcmps_cons (k l : Tm) (ks ls : List Tm) : tcmps (k :: ks) (l :: ls) = or2 (tcmp k l) (tcmps ks ls) := by rw [tcmps]; rfl
/-- The order turned around. -/
theorem tcmp_swap (a : Tm) : ∀ b, tcmp b a = - tcmp a b := by
  induction a using Tm.ind with
  | h nm st ks ih =>
    intro b
    have hl : ∀ (L M : List Tm), (∀ k, k ∈ L → ∀ b, tcmp b k = - tcmp k b) → tcmps M L = - tcmps L M := by
      intro L
      induction L with
      | nil => intro M _; cases M <;> simp [tcmps]
      | cons x L ihL =>
        intro M h
        cases M with
        | nil => simp [tcmps]
        | cons y M => rw [tcmps_cons, tcmps_cons, h x (by simp) y, ihL M (fun k hk => h k (by simp [hk])), or2_neg]
    cases hva : isV (.mk nm st ks) with
    | true =>
      cases hvb : isV b with
      | true => rw [tcmp_vv hva hvb, tcmp_vv hvb hva, bcmp_swap, bcmp_swap (Tm.mk nm st ks).st, or2_neg]
      | false => rw [tcmp_vn hva hvb, tcmp_nv hvb hva]; rfl
    | false =>
      cases hvb : isV b with
      | true => rw [tcmp_nv hva hvb, tcmp_vn hvb hva]
      | false => rw [tcmp_or2 hva hvb, tcmp_or2 hvb hva, bcmp_swap, ncmp_swap, or2_neg, hl (Tm.mk nm st ks).ks b.ks ih, or2_neg]
/-- It is transitive. -/
theorem tcmp_trans (a : Tm) : ∀ b c, T3 (tcmp a b) (tcmp b c) (tcmp a c) := by
  induction a using Tm.ind with
  | h nm st ks ih =>
    intro b c
    have hl : ∀ (L M N : List Tm), (∀ k, k ∈ L → ∀ b c, T3 (tcmp k b) (tcmp b c) (tcmp k c)) → L.length = M.length → M.length = N.length → T3 (tcmps L M) (tcmps M N) (tcmps L N) := by
      intro L
      induction L with
      | nil => intro M N _ h1 h2; cases M with
        | nil => cases N with
          | nil => simp [T3, tcmps]
          | cons z N => simp at h2
        | cons y M => simp at h1
      | cons x L ihL =>
        intro M N h h1 h2
        cases M with
        | nil => simp at h1
        | cons y M => cases N with
          | nil => simp at h2
          | cons z N =>
            rw [tcmps_cons, tcmps_cons, tcmps_cons]
            exact T3.or2 (h x (by simp) y z) (fun _ _ => ihL M N (fun k hk => h k (by simp [hk])) (by simpa using h1) (by simpa using h2))
    cases hva : isV (.mk nm st ks) with
    | true =>
      cases hvb : isV b with
      | true =>
        cases hvc : isV c with
        | true => rw [tcmp_vv hva hvb, tcmp_vv hvb hvc, tcmp_vv hva hvc]; exact T3.or2 (bcmp_trans _ _ _) (fun _ _ => bcmp_trans _ _ _)
        | false => rw [tcmp_vn hvb hvc, tcmp_vn hva hvc]; exact ⟨fun _ _ => ⟨by omega, fun h => by omega⟩, fun _ h => by omega⟩
      | false =>
        cases hvc : isV c with
        | true => rw [tcmp_nv hvb hvc]; exact ⟨fun _ h => by omega, fun _ h => by omega⟩
        | false => rw [tcmp_vn hva hvb, tcmp_vn hva hvc]; exact ⟨fun _ _ => ⟨by omega, fun h => by omega⟩, fun h => by omega⟩
    | false =>
      cases hvb : isV b with
      | true => rw [tcmp_nv hva hvb]; exact ⟨fun h => by omega, fun h => by omega⟩
      | false =>
        cases hvc : isV c with
        | true => rw [tcmp_nv hvb hvc]; exact ⟨fun _ h => by omega, fun _ h => by omega⟩
        | false =>
          rw [tcmp_or2 hva hvb, tcmp_or2 hvb hvc, tcmp_or2 hva hvc]
          refine T3.or2 (T3.or2 (bcmp_trans _ _ _) (fun _ _ => ncmp_trans _ _ _)) (fun h1 h2 => ?_)
          exact hl _ _ _ ih (hcmp_len h1) (hcmp_len h2)

/-- A variable has no parts. -/
inductive okV : Tm → Prop
  | mk (nm st : ByteArray) (ks : List Tm) (h : isV (.mk nm st ks) = true → ks = []) (h2 : ∀ k, k ∈ ks → okV k) : okV (.mk nm st ks)
theorem okV.var {t : Tm} (h : okV t) (hv : isV t = true) : t.ks = [] := by cases h with | mk nm st ks h h2 => exact h hv
theorem okV.kid {t k : Tm} (h : okV t) (hk : k ∈ t.ks) : okV k := by cases h with | mk nm st ks h h2 => exact h2 k hk
theorem st_of {t : Tm} (h : isV t = false) : t.st = ⟨#[]⟩ := by
  unfold isV at h
  have : t.st.toList = [] := by cases hs : t.st.toList with
    | nil => rfl
    | cons x l => rw [hs] at h; cases h
  exact toList_ext (by rw [this, Lib.toList_data])
mutual
theorem okV_pre : ∀ (t : Tm) (d : Nat), (∀ x, x ∈ t.pre d → namedT x.2 = true) → okV t
  | .mk nm st ks, d, h => by
    refine .mk nm st ks (fun hv => ?_) (fun k hk => okV_pres ks (d + 1) (fun x hx => h x (by rw [Tm.pre]; exact List.mem_cons_of_mem _ hx)) k hk)
    have h0 := h (d, .mk nm st ks) (by rw [Tm.pre]; exact List.mem_cons_self)
    unfold namedT at h0
    rw [hv] at h0
    by_cases hk : 0 < ks.length
    · simp [hk] at h0
    · exact List.eq_nil_of_length_eq_zero (by omega)
theorem okV_pres : ∀ (ks : List Tm) (d : Nat), (∀ x, x ∈ pres d ks → namedT x.2 = true) → ∀ k, k ∈ ks → okV k
  | [], _, _, k, hk => by cases hk
  | y :: ks, d, h, k, hk => by
    rcases List.mem_cons.1 hk with he | hk
    · rw [he]; exact okV_pre y d (fun x hx => h x (by rw [pres]; exact List.mem_append.2 (.inl hx)))
    · exact okV_pres ks d (fun x hx => h x (by rw [pres]; exact List.mem_append.2 (.inr hx))) k hk
end
theorem formed_okV {t : Tm} (h : formed t = true) : okV t := by
  unfold formed at h
  simp only [Bool.and_eq_true, List.all_eq_true] at h
  exact okV_pre t 1 h.1.2
/-- The program's order is the reference's, where variables have no parts. -/
theorem rcmp_tcmp (a : Tm) : ∀ b, okV a → okV b → rcmp a b = tcmp a b := by
  induction a using Tm.ind with
  | h nm st ks ih =>
    intro b ha hb
    have hl : ∀ (L M : List Tm), (∀ k, k ∈ L → ∀ b, okV k → okV b → rcmp k b = tcmp k b) → (∀ k, k ∈ L → okV k) → (∀ k, k ∈ M → okV k) → rcmps L M = tcmps L M := by
      intro L
      induction L with
      | nil => intro M _ _ _; simp [rcmps, tcmps]
      | cons x L ihL =>
        intro M h h1 h2
        cases M with
        | nil => simp [rcmps, tcmps]
        | cons y M =>
          rw [rcmps, tcmps, h x (by simp) y (h1 x (by simp)) (h2 y (by simp)), ihL M (fun k hk => h k (by simp [hk])) (fun k hk => h1 k (by simp [hk])) (fun k hk => h2 k (by simp [hk]))]
    have hz : ∀ s : ByteArray, bcmp s s = 0 := fun s => bcmp_zero.2 rfl
    cases hva : isV (.mk nm st ks) with
    | true =>
      cases hvb : isV b with
      | true =>
        have e1 := ha.var hva
        have e2 := hb.var hvb
        rw [rcmp_or2 (hva.trans hvb.symm), tcmp_vv hva hvb, e1, e2]
        have e3 : or2 (ncmp ([] : List Tm).length ([] : List Tm).length) (rcmps [] []) = 0 := by simp [ncmp, rcmps, or2]
        rw [e3, or2_zero_right]
      | false => rw [rcmp_vn hva hvb, tcmp_vn hva hvb]
    | false =>
      cases hvb : isV b with
      | true => rw [rcmp_nv hva hvb, tcmp_nv hva hvb]
      | false =>
        rw [rcmp_or2 (hva.trans hvb.symm), tcmp_or2 hva hvb, st_of hva, st_of hvb, hz, or2_zero_left]
        rw [hl (Tm.mk nm st ks).ks b.ks ih (fun k hk => ha.kid hk) (fun k hk => hb.kid hk), or2_assoc]
end Go.Proofs.YthbcfcbonmphfaaGreatDoor

/- The reference's vars: plain facts. -/
namespace Go.Proofs.YthbcfcbonmphfaaGreatDoor
open Go.RowKit Go.Shelf
set_option maxRecDepth 100000

abbrev FF := ByteArray × ByteArray
/-- A variable is put among others. -/
def insF : List FF → FF → List FF × Bool
  | [], f => ([f], true)
  | g :: l, f => if bcmp g.1 f.1 = -1 then (g :: (insF l f).1, (insF l f).2) else if g.1 = f.1 then (g :: l, decide (g.2 = f.2)) else (f :: g :: l, true)
mutual
def varsT : Tm → List FF → List FF × Bool
  | .mk n s ks, l => if s.toList.isEmpty then varsL ks l else insF l (n, s)
def varsL : List Tm → List FF → List FF × Bool
  | [], l => (l, true)
  | k :: ks, l => if (varsT k l).2 then varsL ks (varsT k l).1 else (l, false)
end
/-- Names tell sorts. -/
def Cn (S : FF → Prop) : Prop := ∀ x y, S x → S y → x.1 = y.1 → x.2 = y.2
def Srt (l : List FF) : Prop := l.Pairwise (fun a b => bcmp a.1 b.1 = -1)
theorem bcmp_lt_trans {a b c : ByteArray} (h1 : bcmp a b = -1) (h2 : bcmp b c = -1) : bcmp a c = -1 := by
  have h := (bcmp_trans a b c).1 (by omega) (by omega)
  have hv := bcmp_vals a c
  rcases hv with hv | hv | hv
  · exact hv
  · have := (h.2 hv).1; omega
  · omega
theorem srt_cn {l : List FF} (h : Srt l) : Cn (fun x => x ∈ l) := by
  intro x y hx hy e
  induction l with
  | nil => cases hx
  | cons g l ih =>
    obtain ⟨h1, h2⟩ := List.pairwise_cons.1 h
    rcases List.mem_cons.1 hx with hx | hx
    · rcases List.mem_cons.1 hy with hy | hy
      · rw [hx, hy]
      · have := h1 y hy
        rw [← hx, e, bcmp_zero.2 rfl] at this
        cases this
    · rcases List.mem_cons.1 hy with hy | hy
      · have := h1 x hx
        rw [← hy, ← e, bcmp_zero.2 rfl] at this
        cases this
      · exact ih h2 hx hy
theorem insF_ok : ∀ (l : List FF) (f : FF), Srt l → ((insF l f).2 = true ↔ Cn (fun x => x ∈ l ∨ x = f)) ∧ ((insF l f).2 = true → Srt (insF l f).1 ∧ ∀ x, x ∈ (insF l f).1 ↔ x ∈ l ∨ x = f)
  | [], f, _ => by
    refine ⟨⟨fun _ x y hx hy _ => ?_, fun _ => rfl⟩, fun _ => ⟨by simp [insF, Srt], fun x => by simp [insF]⟩⟩
    simp at hx hy
    rw [hx, hy]
  | g :: l, f, hs => by
    obtain ⟨h1, h2⟩ := List.pairwise_cons.1 hs
    have ih := insF_ok l f h2
    unfold insF
    by_cases hc : bcmp g.1 f.1 = -1
    · rw [if_pos hc]
      have hgf : g.1 ≠ f.1 := fun e => by rw [e, bcmp_zero.2 rfl] at hc; cases hc
      refine ⟨⟨fun h x y hx hy e => ?_, fun h => ih.1.2 (fun x y hx hy e => h x y (hx.imp (fun h => List.mem_cons_of_mem _ h) id) (hy.imp (fun h => List.mem_cons_of_mem _ h) id) e)⟩, fun h => ?_⟩
      · have hcn := ih.1.1 h
        have hg : ∀ z, z ∈ l ∨ z = f → z.1 ≠ g.1 := fun z hz e => by
          rcases hz with hz | hz
          · have := h1 z hz; rw [e, bcmp_zero.2 rfl] at this; cases this
          · exact hgf (by rw [← hz]; exact e.symm)
        have split : ∀ z : FF, (z ∈ g :: l ∨ z = f) → z = g ∨ (z ∈ l ∨ z = f) := fun z hz => by
          rcases hz with hz | hz
          · rcases List.mem_cons.1 hz with hz | hz
            · exact .inl hz
            · exact .inr (.inl hz)
          · exact .inr (.inr hz)
        rcases split x hx with hx | hx <;> rcases split y hy with hy | hy
        · rw [hx, hy]
        · exact absurd (by rw [← hx]; exact e.symm) (hg y hy)
        · exact absurd (by rw [← hy]; exact e) (hg x hx)
        · exact hcn x y hx hy e
      · obtain ⟨h3, h4⟩ := ih.2 h
        refine ⟨List.pairwise_cons.2 ⟨fun z hz => ?_, h3⟩, fun x => ?_⟩
        · rcases (h4 z).1 hz with hz | hz
          · exact h1 z hz
          · rw [hz]; exact hc
        · rw [List.mem_cons, List.mem_cons, h4]; exact or_assoc.symm
    · rw [if_neg hc]
      by_cases he : g.1 = f.1
      · rw [if_pos he]
        refine ⟨⟨fun h x y hx hy e => ?_, fun h => decide_eq_true (h g f (.inl (by simp)) (.inr rfl) he)⟩, fun h => ⟨hs, fun x => ⟨.inl, fun hx => ?_⟩⟩⟩
        · have hgf : g = f := Prod.ext he (of_decide_eq_true h)
          have mem : ∀ z, (z ∈ g :: l ∨ z = f) → z ∈ g :: l := fun z hz => hz.elim id (fun e => by rw [e, ← hgf]; simp)
          exact srt_cn hs x y (mem x hx) (mem y hy) e
        · have hgf : g = f := Prod.ext he (of_decide_eq_true h)
          exact hx.elim id (fun e => by rw [e, ← hgf]; simp)
      · rw [if_neg he]
        have hlt : bcmp f.1 g.1 = -1 := by
          have hv := bcmp_vals g.1 f.1
          rw [bcmp_swap]
          rcases hv with hv | hv | hv
          · exact absurd hv hc
          · exact absurd (bcmp_zero.1 hv) he
          · rw [hv]
        have hs' : Srt (f :: g :: l) := List.pairwise_cons.2 ⟨fun z hz => by
          rcases List.mem_cons.1 hz with hz | hz
          · rw [hz]; exact hlt
          · exact bcmp_lt_trans hlt (h1 z hz), hs⟩
        refine ⟨⟨fun _ x y hx hy e => srt_cn hs' x y ?_ ?_ e, fun _ => rfl⟩, fun _ => ⟨hs', fun x => by rw [List.mem_cons]; exact or_comm⟩⟩
        · exact hx.elim (fun h => List.mem_cons_of_mem _ h) (fun h => by rw [h]; simp)
        · exact hy.elim (fun h => List.mem_cons_of_mem _ h) (fun h => by rw [h]; simp)
mutual
/-- The variables of a term. -/
def vof : Tm → List FF
  | .mk n s ks => if s.toList.isEmpty then vofs ks else [(n, s)]
def vofs : List Tm → List FF
  | [] => []
  | k :: ks => vof k ++ vofs ks
end
theorem cn_sub {S S' : FF → Prop} (h : Cn S) (hs : ∀ x, S' x → S x) : Cn S' := fun x y hx hy e => h x y (hs x hx) (hs y hy) e
mutual
theorem varsT_ok : ∀ (t : Tm) (l : List FF), Srt l → ((varsT t l).2 = true ↔ Cn (fun x => x ∈ l ∨ x ∈ vof t)) ∧ ((varsT t l).2 = true → Srt (varsT t l).1 ∧ ∀ x, x ∈ (varsT t l).1 ↔ x ∈ l ∨ x ∈ vof t)
  | .mk n s ks, l, hs => by
    unfold varsT vof
    by_cases h : s.toList.isEmpty = true
    · rw [if_pos h, if_pos h]; exact varsL_ok ks l hs
    · rw [if_neg h, if_neg h]
      have h0 := insF_ok l (n, s) hs
      simp only [List.mem_singleton]
      exact h0
theorem varsL_ok : ∀ (ks : List Tm) (l : List FF), Srt l → ((varsL ks l).2 = true ↔ Cn (fun x => x ∈ l ∨ x ∈ vofs ks)) ∧ ((varsL ks l).2 = true → Srt (varsL ks l).1 ∧ ∀ x, x ∈ (varsL ks l).1 ↔ x ∈ l ∨ x ∈ vofs ks)
  | [], l, hs => by
    unfold varsL vofs
    exact ⟨⟨fun _ => by simpa using srt_cn hs, fun _ => rfl⟩, fun _ => ⟨hs, fun x => by simp⟩⟩
  | k :: ks, l, hs => by
    have hk := varsT_ok k l hs
    unfold varsL vofs
    by_cases h : (varsT k l).2 = true
    · rw [if_pos h]
      obtain ⟨h1, h2⟩ := hk.2 h
      have hl := varsL_ok ks (varsT k l).1 h1
      have e : ∀ x, (x ∈ (varsT k l).1 ∨ x ∈ vofs ks) ↔ (x ∈ l ∨ x ∈ vof k ++ vofs ks) := fun x => by rw [h2, List.mem_append]; exact or_assoc
      refine ⟨⟨fun h3 => cn_sub (hl.1.1 h3) (fun x hx => (e x).2 hx), fun h3 => hl.1.2 (cn_sub h3 (fun x hx => (e x).1 hx))⟩, fun h3 => ⟨(hl.2 h3).1, fun x => ((hl.2 h3).2 x).trans (e x)⟩⟩
    · rw [if_neg h]
      refine ⟨⟨(fun h3 => by cases h3), fun h3 => absurd (hk.1.2 (cn_sub h3 (fun x hx => hx.imp id (fun h => List.mem_append.2 (.inl h))))) h⟩, fun h3 => by cases h3⟩
end
mutual
theorem vof_pre : ∀ (t : Tm) (d : Nat), okV t → ∀ f : FF, f ∈ vof t ↔ ∃ x, x ∈ t.pre d ∧ isV x.2 = true ∧ f = (x.2.nm, x.2.st)
  | .mk n s ks, d, ho, f => by
    unfold vof
    rw [Tm.pre]
    by_cases h : s.toList.isEmpty = true
    · rw [if_pos h, vofs_pre ks (d + 1) (fun k hk => ho.kid hk) f]
      have hv : isV (.mk n s ks) = false := by show (!s.toList.isEmpty) = false; rw [h]; rfl
      refine ⟨fun ⟨x, hx, h1, h2⟩ => ⟨x, List.mem_cons_of_mem _ hx, h1, h2⟩, fun ⟨x, hx, h1, h2⟩ => ?_⟩
      rcases List.mem_cons.1 hx with hx | hx
      · rw [hx] at h1; rw [show isV (d, Tm.mk n s ks).2 = false from hv] at h1; cases h1
      · exact ⟨x, hx, h1, h2⟩
    · rw [if_neg h]
      have hv : isV (.mk n s ks) = true := by show (!s.toList.isEmpty) = true; simpa using h
      have hk : ks = [] := ho.var hv
      subst hk
      simp only [List.mem_singleton, pres]
      exact ⟨fun e => ⟨_, rfl, hv, e⟩, fun ⟨x, hx, _, h2⟩ => by rw [h2, hx]; rfl⟩
theorem vofs_pre : ∀ (ks : List Tm) (d : Nat), (∀ k, k ∈ ks → okV k) → ∀ f : FF, f ∈ vofs ks ↔ ∃ x, x ∈ pres d ks ∧ isV x.2 = true ∧ f = (x.2.nm, x.2.st)
  | [], d, _, f => by simp [vofs, pres]
  | k :: ks, d, ho, f => by
    unfold vofs
    rw [pres, List.mem_append, vof_pre k d (ho k (by simp)) f, vofs_pre ks d (fun y hy => ho y (by simp [hy])) f]
    refine ⟨fun h => ?_, fun ⟨x, hx, h1, h2⟩ => ?_⟩
    · rcases h with ⟨x, hx, h1, h2⟩ | ⟨x, hx, h1, h2⟩
      · exact ⟨x, List.mem_append.2 (.inl hx), h1, h2⟩
      · exact ⟨x, List.mem_append.2 (.inr hx), h1, h2⟩
    · rcases List.mem_append.1 hx with hx | hx
      · exact .inl ⟨x, hx, h1, h2⟩
      · exact .inr ⟨x, hx, h1, h2⟩
end
/-- vars of the reference says of a term whose variables have no parts what variableSorts says. -/
theorem vars_agree {t : Tm} (ho : okV t) : (varsT t []).2 = agreeL (t.pre 1) := by
  have h := (varsT_ok t [] (by simp [Srt])).1
  rw [Bool.eq_iff_iff, h, agreeL_iff]
  refine ⟨fun hc x hx y hy h1 h2 h3 => ?_, fun hc f g hf hg e => ?_⟩
  · exact hc (x.2.nm, x.2.st) (y.2.nm, y.2.st) (.inr ((vof_pre t 1 ho _).2 ⟨x, hx, h1, rfl⟩)) (.inr ((vof_pre t 1 ho _).2 ⟨y, hy, h2, rfl⟩)) h3
  · rcases hf with hf | hf
    · cases hf
    · rcases hg with hg | hg
      · cases hg
      · obtain ⟨x, hx, h1, rfl⟩ := (vof_pre t 1 ho f).1 hf
        obtain ⟨y, hy, h2, rfl⟩ := (vof_pre t 1 ho g).1 hg
        exact hc x hx y hy h1 h2 e
end Go.Proofs.YthbcfcbonmphfaaGreatDoor
namespace Go.Proofs.YthbcfcbonmphfaaGreatDoor
set_option maxRecDepth 100000

/-- The decimal digits of a number below ten to the k. -/
def decF : Nat → Nat → List UInt8
  | 0, _ => []
  | k + 1, n => if n < 10 then [UInt8.ofNat (48 + n)] else decF k (n / 10) ++ [UInt8.ofNat (48 + n % 10)]
def dec (n : Nat) : List UInt8 := decF 13 n
theorem decF_len : ∀ (k n : Nat), (decF k n).length ≤ k
  | 0, _ => by simp [decF]
  | k + 1, n => by
    unfold decF
    split
    · simp
    · have := decF_len k (n / 10); simp; omega

def tkText (t : Tk) : List UInt8 := if t.k = 2 then dec t.n.toNat else t.t
def tkOk (L : List Tk) (i : Nat) (t : Tk) : Bool := validT t.k t.t t.n && !(decide (t.k = 5) && decide (i + 1 ≠ L.length))
/-- Are the tokens from the i-th on valid, and is an end the last one? -/
def jval (L : List Tk) : Bool := (List.range L.length).all fun i => L[i]?.all fun t => tkOk L i t
/-- The text behind the i-th token. -/
def jgo : List Tk → Bool → List UInt8 → Option (List UInt8)
  | [], _, acc => some acc
  | t :: L, first, acc => if t.k = 5 then some acc else if 65536 < ((acc ++ (if first then [] else [32])) ++ tkText t).length then none else jgo L false ((acc ++ (if first then [] else [32])) ++ tkText t)
def jres (L : List Tk) : List UInt8 × Int := if jval L then (match jgo L true [] with | some x => (x, 0) | none => ([], 4)) else ([], 1)
theorem jres_bad (L : List Tk) (i : Nat) (t : Tk) (h : L[i]? = some t) (hb : tkOk L i t = false) : jres L = ([], 1) := by
  unfold jres
  rw [if_neg]
  intro hv
  unfold jval at hv
  rw [List.all_eq_true] at hv
  have hi : i < L.length := (List.getElem?_eq_some_iff.1 h).1
  have := hv i (List.mem_range.2 hi)
  rw [h] at this
  simp [hb] at this
def jvalTo (L : List Tk) (k : Nat) : Prop := ∀ i t, i < k → L[i]? = some t → tkOk L i t = true
theorem jval_of (L : List Tk) (h : jvalTo L L.length) : jval L = true := by
  unfold jval
  rw [List.all_eq_true]
  intro i hi
  have hi := List.mem_range.1 hi
  rw [List.getElem?_eq_getElem hi]
  exact h i _ hi (List.getElem?_eq_getElem hi)
theorem jvalTo_snoc (L : List Tk) (k : Nat) (t : Tk) (h : jvalTo L k) (ht : L[k]? = some t) (h2 : tkOk L k t = true) : jvalTo L (k + 1) := by
  intro i u hi hu
  rcases Nat.lt_or_ge i k with hl | hl
  · exact h i u hl hu
  · have : i = k := by omega
    subst this
    rw [ht] at hu
    rw [← Option.some.inj hu]
    exact h2
theorem drop_of (L : List Tk) (k : Nat) (t : Tk) (h : L[k]? = some t) : L.drop k = t :: L.drop (k + 1) := by
  obtain ⟨hk, rfl⟩ := List.getElem?_eq_some_iff.1 h
  exact List.drop_eq_getElem_cons hk
end Go.Proofs.YthbcfcbonmphfaaGreatDoor
