/- Walks: Cmp, Floor, Ceil of the program and of the reference. -/
import Derived.Test.YtmebdieflllgcaaDoorRatE
namespace Go.Proofs.YtmebdieflllgcaaDoor
open Go.RowKit
set_option maxRecDepth 100000

def cmpI (x y : Int) : Int := if x < y then -1 else if y < x then 1 else 0
theorem cmpI_lt {x y : Int} (h : x < y) : cmpI x y = -1 := by unfold cmpI; rw [if_pos h]
theorem cmpI_gt {x y : Int} (h : y < x) : cmpI x y = 1 := by unfold cmpI; rw [if_neg (by omega), if_pos h]
theorem cmpI_eq {x y : Int} (h : x = y) : cmpI x y = 0 := by unfold cmpI; rw [if_neg (by omega), if_neg (by omega)]
set_option maxHeartbeats 1000000 in
theorem cisNaN_any (x : Int) (w : World) : Calls Tryd.prog 53 #[.int .i64 x] w fun e w' => e = .returned (.bool false) ∧ w = w' := by
  have h : (x != x) = false := by simp
  go_enter Tryd.func53, Tryd.ntmps53
  go_wp2_with fail
  go_ret
  exact ⟨rfl, rfl⟩
set_option maxHeartbeats 1000000 in
theorem ccomp_any (a b : Int) (w : World) : Calls Tryd.prog 44 #[.int .i64 a, .int .i64 b] w fun e w' => e = .returned (.int .i64 (cmpI a b)) ∧ w = w' := by
  by_cases h1 : a < b
  · rw [cmpI_lt h1]
    go_enter Tryd.func44, Tryd.ntmps44
    go_wp2_with (refine (cisNaN_any _ _).mono ?_; rintro e w' ⟨rfl, rfl⟩)
    go_ret
    exact ⟨rfl, rfl⟩
  · by_cases h2 : b < a
    · rw [cmpI_gt h2]
      go_enter Tryd.func44, Tryd.ntmps44
      go_wp2_with (refine (cisNaN_any _ _).mono ?_; rintro e w' ⟨rfl, rfl⟩)
      go_ret
      exact ⟨rfl, rfl⟩
    · rw [cmpI_eq (by omega)]
      go_enter Tryd.func44, Tryd.ntmps44
      go_wp2_with (refine (cisNaN_any _ _).mono ?_; rintro e w' ⟨rfl, rfl⟩)
      go_ret
      exact ⟨rfl, rfl⟩

/-- The boxes of two fractions. -/
structure Fr1 (w w' : World) (n d m e : Int) : Prop where
  below : Below w.heap.size w w'
  b0 : w'.heap[w.heap.size]? = some (.cells #[.int .i64 n, .int .i64 d] 24 (0, 0))
  b1 : w'.heap[w.heap.size + 1]? = some (.cells #[.int .i64 m, .int .i64 e] 24 (0, 0))
theorem Fr1.next {w w1 w2 : World} {n d m e : Int} (h : Fr1 w w1 n d m e) (hb : Below w1.heap.size w1 w2) : Fr1 w w2 n d m e :=
  ⟨h.below.trans (hb.mono h.below.size), bdAt h.b0 hb, bdAt h.b1 hb⟩
theorem Fr1.start (w : World) (n d m e : Int) : Fr1 w ((w.alloc (.cells #[.int .i64 n, .int .i64 d] 24)).alloc (.cells #[.int .i64 m, .int .i64 e] 24)) n d m e := by
  have h1 := bdNew w (.cells #[.int .i64 n, .int .i64 d] 24)
  have h2 := bdNew (w.alloc (.cells #[.int .i64 n, .int .i64 d] 24)) (.cells #[.int .i64 m, .int .i64 e] 24)
  simp only [World.size_alloc] at h2
  exact ⟨((Below.refl _ _).alloc (Nat.le_refl _) _).alloc (by simp) _, bdOld h1, h2⟩
/-- What Cmp gives. -/
def cmpF (n d m e : Int) : Int × Int := if vldB n d && vldB m e then (cmpI (n * e) (m * d), 0) else (0, 1)
set_option maxHeartbeats 4000000 in
theorem Cmp_any (n d m e : Int) (w : World) : Calls Tryd.prog 25 #[.agg #[.int .i64 n, .int .i64 d], .agg #[.int .i64 m, .int .i64 e]] w fun r w' => r = .returned (.tuple #[.int .i64 (cmpF n d m e).1, .int .i64 (cmpF n d m e).2]) ∧ Below w.heap.size w w' := by
  have H0 := Lib.hid (Fr1.start w n d m e)
  cases hv1 : vldB n d with
  | false =>
    have hs : cmpF n d m e = (0, 1) := by unfold cmpF; rw [hv1]; rfl
    rw [hs]
    have hc := fun W => Valid_no n d W hv1
    have HV := Lib.hid hc
    clear hs hv1 hc
    go_enter Tryd.func25, Tryd.ntmps25
    go_wp2_with fail
    refine (HV.out _).mono ?_
    rintro r w1 ⟨rfl, hb1⟩
    have H1 := Lib.hid (H0.out.next hb1)
    clear hb1
    go_wp2_with fail
    go_ret2
    exact ⟨rfl, H1.out.below⟩
  | true =>
    cases hv2 : vldB m e with
    | false =>
      have hs : cmpF n d m e = (0, 1) := by unfold cmpF; rw [hv1, hv2]; rfl
      rw [hs]
      have hc := fun W => Valid_ok n d W hv1
      have HV := Lib.hid hc
      have hc2 := fun W => Valid_no m e W hv2
      have HV2 := Lib.hid hc2
      clear hs hv1 hc hv2 hc2
      go_enter Tryd.func25, Tryd.ntmps25
      go_wp2_with fail
      refine (HV.out _).mono ?_
      rintro r w1 ⟨rfl, hb1⟩
      have H1 := Lib.hid (H0.out.next hb1)
      clear hb1
      obtain ⟨⟨x0, x1⟩, _⟩ := bk2 H1.out.b1
      go_wp2_with fail
      clear x0 x1
      refine (HV2.out _).mono ?_
      rintro r w2 ⟨rfl, hb2⟩
      have H2 := Lib.hid (H1.out.next hb2)
      clear hb2
      go_wp2_with fail
      go_ret2
      exact ⟨rfl, H2.out.below⟩
    | true =>
      have hs : cmpF n d m e = (cmpI (n * e) (m * d), 0) := by unfold cmpF; rw [hv1, hv2]; rfl
      obtain ⟨a1, a2, a3, a4, _⟩ := vldB_true.1 hv1
      obtain ⟨c1, c2, c3, c4, _⟩ := vldB_true.1 hv2
      obtain ⟨p1, p2⟩ := mul_bd n e a3 a4 (by omega) c2
      obtain ⟨q1, q2⟩ := mul_bd m d c3 c4 (by omega) a2
      rw [hs]
      have hc := fun W => Valid_ok n d W hv1
      have HV := Lib.hid hc
      have hc2 := fun W => Valid_ok m e W hv2
      have HV2 := Lib.hid hc2
      clear hs hv1 hc hv2 hc2
      go_enter Tryd.func25, Tryd.ntmps25
      go_wp2_with fail
      refine (HV.out _).mono ?_
      rintro r w1 ⟨rfl, hb1⟩
      have H1 := Lib.hid (H0.out.next hb1)
      clear hb1
      obtain ⟨⟨x0, x1⟩, _⟩ := bk2 H1.out.b1
      go_wp2_with fail
      clear x0 x1
      refine (HV2.out _).mono ?_
      rintro r w2 ⟨rfl, hb2⟩
      have H2 := Lib.hid (H1.out.next hb2)
      clear hb2
      obtain ⟨⟨x0, x1⟩, _⟩ := bk2 H2.out.b0
      obtain ⟨⟨z0, z1⟩, _⟩ := bk2 H2.out.b1
      go_wp2_with fail
      refine (ccomp_any _ _ _).mono ?_
      rintro r w3 ⟨rfl, rfl⟩
      go_wp2_with fail
      go_ret2
      exact ⟨rfl, H2.out.below⟩
set_option maxHeartbeats 4000000 in
theorem refCmp_any (n d m e : Int) (w : World) (a : vF n d) (c : vF m e) : Calls Tryd.prog 30 #[.agg #[.int .i64 n, .int .i64 d], .agg #[.int .i64 m, .int .i64 e]] w fun r w' => r = .returned (.int .i64 (cmpI (n * e) (m * d))) ∧ Below w.heap.size w w' := by
  obtain ⟨a1, a2, a3, a4, _⟩ := a
  obtain ⟨c1, c2, c3, c4, _⟩ := c
  obtain ⟨p1, p2⟩ := mul_bd n e a3 a4 (by omega) c2
  obtain ⟨q1, q2⟩ := mul_bd m d c3 c4 (by omega) a2
  by_cases h1 : n * e < m * d
  · rw [cmpI_lt h1]
    go_enter Tryd.func30, Tryd.ntmps30
    go_wp2_with fail
    go_ret
    exact ⟨rfl, ((Below.refl _ _).alloc (Nat.le_refl _) _).alloc (by simp) _⟩
  · by_cases h2 : m * d < n * e
    · rw [cmpI_gt h2]
      go_enter Tryd.func30, Tryd.ntmps30
      go_wp2_with fail
      go_ret
      exact ⟨rfl, ((Below.refl _ _).alloc (Nat.le_refl _) _).alloc (by simp) _⟩
    · rw [cmpI_eq (by omega)]
      go_enter Tryd.func30, Tryd.ntmps30
      go_wp2_with fail
      go_ret
      exact ⟨rfl, ((Below.refl _ _).alloc (Nat.le_refl _) _).alloc (by simp) _⟩

/-! ### floors -/
theorem fl_neg (n d : Int) (hd : 1 ≤ d) (hn : n < 0) : (n - d + 1).tdiv d = n / d := by
  have e := Int.mul_ediv_add_emod n d
  have r0 := Int.emod_nonneg n (show d ≠ 0 by omega)
  have r1 := Int.emod_lt_of_pos n (show 0 < d by omega)
  obtain ⟨k, hk⟩ : ∃ k, n / d = k := ⟨_, rfl⟩
  obtain ⟨r, hr⟩ : ∃ r, n % d = r := ⟨_, rfl⟩
  rw [hk, hr] at e
  rw [hr] at r0 r1
  rw [hk]
  have h1 : n - d + 1 = -(d * (-k) + (d - 1 - r)) := by rw [← e, Int.mul_neg]; omega
  rw [h1, Int.neg_tdiv, Int.tdiv_eq_ediv_of_nonneg]
  · rw [Int.mul_add_ediv_left _ _ (by omega), Int.ediv_eq_zero_of_lt (by omega) (by omega)]
    omega
  · have : 0 ≤ -(n - d + 1) := by omega
    rw [h1] at this
    omega
theorem fl_ref (n d : Int) (hd : 1 ≤ d) : (if n.tmod d < 0 then n.tdiv d - 1 else n.tdiv d) = n / d := by
  have e2 := Int.mul_tdiv_add_tmod n d
  have hb := tmod_abs_lt (a := n) (b := d) (by omega)
  obtain ⟨q, hq⟩ : ∃ q, n.tdiv d = q := ⟨_, rfl⟩
  obtain ⟨t, ht⟩ : ∃ t, n.tmod d = t := ⟨_, rfl⟩
  rw [hq, ht] at e2
  rw [ht] at hb
  rw [hq, ht]
  by_cases h : t < 0
  · rw [if_pos h]
    have e3 : n = d * (q - 1) + (d + t) := by rw [Int.mul_sub]; omega
    rw [e3, Int.mul_add_ediv_left _ _ (by omega), Int.ediv_eq_zero_of_lt (by omega) (by omega)]
    omega
  · rw [if_neg h, ← e2, Int.mul_add_ediv_left _ _ (by omega), Int.ediv_eq_zero_of_lt (by omega) (by omega)]
    omega

set_option maxHeartbeats 2000000 in
theorem floor_any (n d : Int) (w : World) (h1 : 1 ≤ d) (h2 : d ≤ 1073741824) (h3 : -1073741824 ≤ n) (h4 : n ≤ 1073741824) : Calls Tryd.prog 45 #[.agg #[.int .i64 n, .int .i64 d]] w fun r w' => r = .returned (.int .i64 (n / d)) ∧ Below w.heap.size w w' := by
  by_cases hn : n < 0
  · have HE := Lib.hid (fl_neg n d h1 hn)
    go_enter Tryd.func45, Tryd.ntmps45
    go_wp2_with fail
    go_ret
    exact ⟨retI HE.out, (Below.refl _ _).alloc (Nat.le_refl _) _⟩
  · go_enter Tryd.func45, Tryd.ntmps45
    go_wp2_with fail
    go_ret
    exact ⟨rfl, (Below.refl _ _).alloc (Nat.le_refl _) _⟩
set_option maxHeartbeats 2000000 in
theorem refFloor_any (n d : Int) (w : World) (h1 : 1 ≤ d) (h2 : d ≤ 1073741824) (h3 : -1073741824 ≤ n) (h4 : n ≤ 1073741824) : Calls Tryd.prog 28 #[.agg #[.int .i64 n, .int .i64 d]] w fun r w' => r = .returned (.int .i64 (n / d)) ∧ Below w.heap.size w w' := by
  have HE := Lib.hid (fl_ref n d h1)
  have hq : -1073741824 ≤ n.tdiv d ∧ n.tdiv d ≤ 1073741824 := by
    have := Int.natAbs_tdiv_le_natAbs n d
    omega
  obtain ⟨hq1, hq2⟩ := hq
  by_cases hn : n.tmod d < 0
  · rw [if_pos hn] at HE
    go_enter Tryd.func28, Tryd.ntmps28
    go_wp2_with fail
    go_ret
    exact ⟨retI HE.out, (Below.refl _ _).alloc (Nat.le_refl _) _⟩
  · rw [if_neg hn] at HE
    go_enter Tryd.func28, Tryd.ntmps28
    go_wp2_with fail
    go_ret
    exact ⟨retI HE.out, (Below.refl _ _).alloc (Nat.le_refl _) _⟩
theorem div_bd (n d : Int) (h1 : 1 ≤ d) (h3 : -1073741824 ≤ n) (h4 : n ≤ 1073741824) : -1073741824 ≤ n / d ∧ n / d ≤ 1073741824 := by
  constructor
  · rw [Int.le_ediv_iff_mul_le (by omega)]
    omega
  · have : n / d < 1073741825 := by
      rw [Int.ediv_lt_iff_lt_mul (by omega)]
      omega
    omega
set_option maxHeartbeats 2000000 in
theorem refCeil_any (n d : Int) (w : World) (h1 : 1 ≤ d) (h2 : d ≤ 1073741824) (h3 : -1073741824 ≤ n) (h4 : n ≤ 1073741824) : Calls Tryd.prog 29 #[.agg #[.int .i64 n, .int .i64 d]] w fun r w' => r = .returned (.int .i64 (-((-n) / d))) ∧ Below w.heap.size w w' := by
  obtain ⟨b1, b2⟩ := div_bd (-n) d h1 (by omega) (by omega)
  go_enter Tryd.func29, Tryd.ntmps29
  go_wp2_with fail
  refine (refNeg_any n d _ (by omega) (by omega)).mono ?_
  rintro r w1 ⟨rfl, hb1⟩
  obtain ⟨k1, k2⟩ := bdBox hb1
  have K2 := Lib.hid k2
  clear hb1 k1 k2
  go_wp2_with fail
  refine (refFloor_any (-n) d _ h1 h2 (by omega) (by omega)).mono ?_
  rintro r w2 ⟨rfl, hb2⟩
  have K3 := Lib.hid (K2.out.trans (hb2.mono K2.out.size))
  clear hb2
  go_wp2_with fail
  go_ret
  exact ⟨retI (by omega), K3.out⟩
def flF (n d : Int) : Int × Int := if vldB n d then (n / d, 0) else (0, 1)
def ceF (n d : Int) : Int × Int := if vldB n d then (-((-n) / d), 0) else (0, 1)
set_option maxHeartbeats 2000000 in
theorem Floor_any (n d : Int) (w : World) : Calls Tryd.prog 26 #[.agg #[.int .i64 n, .int .i64 d]] w fun r w' => r = .returned (.tuple #[.int .i64 (flF n d).1, .int .i64 (flF n d).2]) ∧ Below w.heap.size w w' := by
  cases hv : vldB n d with
  | false =>
    have hs : flF n d = (0, 1) := by unfold flF; rw [hv]; rfl
    rw [hs]
    have hc := fun W => Valid_no n d W hv
    have HV := Lib.hid hc
    clear hs hv hc
    go_enter Tryd.func26, Tryd.ntmps26
    go_wp2_with fail
    refine (HV.out _).mono ?_
    rintro r w1 ⟨rfl, hb1⟩
    obtain ⟨k1, k2⟩ := bdBox hb1
    have K2 := Lib.hid k2
    clear hb1 k1 k2
    go_wp2_with fail
    go_ret2
    exact ⟨rfl, K2.out⟩
  | true =>
    have hs : flF n d = (n / d, 0) := by unfold flF; rw [hv]; rfl
    rw [hs]
    obtain ⟨a1, a2, a3, a4, _⟩ := vldB_true.1 hv
    have hc := fun W => Valid_ok n d W hv
    have HV := Lib.hid hc
    clear hs hv hc
    go_enter Tryd.func26, Tryd.ntmps26
    go_wp2_with fail
    refine (HV.out _).mono ?_
    rintro r w1 ⟨rfl, hb1⟩
    obtain ⟨k1, k2⟩ := bdBox hb1
    have K2 := Lib.hid k2
    obtain ⟨⟨x0, x1⟩, _⟩ := bk2 k1
    clear hb1 k1 k2
    go_wp2_with fail
    refine (floor_any n d _ a1 a2 a3 a4).mono ?_
    rintro r w2 ⟨rfl, hb2⟩
    have K3 := Lib.hid (K2.out.trans (hb2.mono K2.out.size))
    clear hb2 x0 x1
    go_wp2_with fail
    go_ret2
    exact ⟨rfl, K3.out⟩
set_option maxHeartbeats 2000000 in
theorem Ceil_any (n d : Int) (w : World) : Calls Tryd.prog 27 #[.agg #[.int .i64 n, .int .i64 d]] w fun r w' => r = .returned (.tuple #[.int .i64 (ceF n d).1, .int .i64 (ceF n d).2]) ∧ Below w.heap.size w w' := by
  cases hv : vldB n d with
  | false =>
    have hs : ceF n d = (0, 1) := by unfold ceF; rw [hv]; rfl
    rw [hs]
    have hc := fun W => Valid_no n d W hv
    have HV := Lib.hid hc
    clear hs hv hc
    go_enter Tryd.func27, Tryd.ntmps27
    go_wp2_with fail
    refine (HV.out _).mono ?_
    rintro r w1 ⟨rfl, hb1⟩
    obtain ⟨k1, k2⟩ := bdBox hb1
    have K2 := Lib.hid k2
    clear hb1 k1 k2
    go_wp2_with fail
    go_ret2
    exact ⟨rfl, K2.out⟩
  | true =>
    have hs : ceF n d = (-((-n) / d), 0) := by unfold ceF; rw [hv]; rfl
    rw [hs]
    obtain ⟨a1, a2, a3, a4, _⟩ := vldB_true.1 hv
    obtain ⟨b1, b2⟩ := div_bd (-n) d a1 (by omega) (by omega)
    have hc := fun W => Valid_ok n d W hv
    have HV := Lib.hid hc
    clear hs hv hc
    go_enter Tryd.func27, Tryd.ntmps27
    go_wp2_with fail
    refine (HV.out _).mono ?_
    rintro r w1 ⟨rfl, hb1⟩
    obtain ⟨k1, k2⟩ := bdBox hb1
    have K2 := Lib.hid k2
    obtain ⟨⟨x0, x1⟩, _⟩ := bk2 k1
    clear hb1 k1 k2
    go_wp2_with fail
    refine (floor_any (-n) d _ a1 a2 (by omega) (by omega)).mono ?_
    rintro r w2 ⟨rfl, hb2⟩
    have K3 := Lib.hid (K2.out.trans (hb2.mono K2.out.size))
    clear hb2 x0 x1
    go_wp2_with fail
    go_ret2
    exact ⟨rfl, K3.out⟩
end Go.Proofs.YtmebdieflllgcaaDoor
