/- RatioRounds: the law's walk. -/
import Derived.Test.YtmebdieflllgcaaDoorRatW
import Derived.Test.YtmebdieflllgcaaDoorHeld
namespace Go.Proofs.YtmebdieflllgcaaDoor
open Go.RowKit
set_option maxRecDepth 100000

theorem rounds_plain {n d : Int} (h : vF n d) : (n / d) * d ≤ n ∧ n < (n / d + 1) * d ∧ ((-((-n) / d) = n / d ∧ d = 1) ∨ (-((-n) / d) = n / d + 1 ∧ d ≠ 1)) := by
  have hd := h.1
  have e := Int.mul_ediv_add_emod n d
  have r0 := Int.emod_nonneg n (show d ≠ 0 by omega)
  have r1 := Int.emod_lt_of_pos n (show 0 < d by omega)
  have e' := Int.mul_ediv_add_emod (-n) d
  have r0' := Int.emod_nonneg (-n) (show d ≠ 0 by omega)
  have r1' := Int.emod_lt_of_pos (-n) (show 0 < d by omega)
  have c1 : n / d * d = d * (n / d) := Int.mul_comm _ _
  have c2 : (n / d + 1) * d = d * (n / d) + d := by rw [Int.add_mul, Int.one_mul, Int.mul_comm]
  refine ⟨by omega, by omega, ?_⟩
  by_cases h1 : d = 1
  · subst h1
    exact .inl ⟨by simp, rfl⟩
  · right
    refine ⟨?_, h1⟩
    have hz : n % d ≠ 0 := by
      intro hz
      have hdv : d ∣ n := Int.dvd_of_emod_eq_zero hz
      have hg := h.2.2.2.2
      have hd2 : d.natAbs ∣ Nat.gcd n.natAbs d.natAbs := Nat.dvd_gcd (Int.natAbs_dvd_natAbs.2 hdv) (Nat.dvd_refl _)
      have hg2 : Nat.gcd n.natAbs d.natAbs = 1 := hg
      rw [hg2] at hd2
      have := Nat.le_of_dvd (by omega) hd2
      omega
    clear e' r0' r1' c1 c2
    obtain ⟨k, hk⟩ : ∃ k, n / d = k := ⟨_, rfl⟩
    obtain ⟨r, hr⟩ : ∃ r, n % d = r := ⟨_, rfl⟩
    rw [hk, hr] at e
    rw [hr] at r0 r1 hz
    rw [hk]
    have hkk : -n = d * (-k - 1) + (d - r) := by rw [Int.mul_sub, Int.mul_neg, Int.mul_one]; omega
    have : (-n) / d = -k - 1 := by
      rw [hkk, Int.mul_add_ediv_left _ _ (by omega), Int.ediv_eq_zero_of_lt (by omega) (by omega)]
      omega
    omega

set_option maxHeartbeats 8000000 in
theorem ratioRounds_one (n d : Int) (w : World) (hp : Pw w) (hv : vldB n d = true) (hd1 : d = 1) : Calls Tryd.prog 9 #[.agg #[.int .i64 n, .int .i64 d]] w fun r w' => r = .returned (.bool true) ∧ Below w.heap.size w w' := by
  obtain ⟨p1, p2, p3⟩ := rounds_plain (vldB_true.1 hv)
  obtain ⟨a1, a2, a3, a4, a5⟩ := vldB_true.1 hv
  obtain ⟨q1, q2⟩ := div_bd n d a1 a3 a4
  obtain ⟨f, hf⟩ : ∃ f, n / d = f := ⟨_, rfl⟩
  have hv' : vldB (-n) d = true := vldB_true.2 (neg_vF (vldB_true.1 hv))
  have hce : -((-n) / d) = f := by rw [hf] at p3; omega
  have hfl : (-n) / d = -f := by omega
  have ef : flF n d = (f, 0) := by unfold flF; rw [hv, ← hf]; rfl
  have eg : ceF n d = (f, 0) := by unfold ceF; rw [hv, ← hce]; rfl
  have eh : flF (-n) d = (-f, 0) := by unfold flF; rw [hv', ← hfl]; rfl
  rw [hf] at p1 p2 q1 q2
  have fd : (d == 1) = true := by simp [hd1]
  
  have b1 : -1152921504606846976 ≤ f * d ∧ f * d ≤ 1152921504606846976 := mul_bd f d q1 q2 (by omega) a2
  have b2 : (f + 1) * d = f * d + d := by rw [Int.add_mul, Int.one_mul]
  have b3 : -1152921504606846976 ≤ (f + 1) * d ∧ (f + 1) * d ≤ 1152921505680588800 := by omega
  obtain ⟨b4, b5⟩ := b1
  obtain ⟨b6, b7⟩ := b3
  have h2 := fun W => Floor_any n d W
  have h3 := fun W => Ceil_any n d W
  have h5 := fun W => Floor_any (-n) d W
  rw [ef] at h2
  rw [eg] at h3
  rw [eh] at h5
  have C1 := Lib.hid (fun W => refValid_ok n d W hv)
  have C2 := Lib.hid h2
  have C3 := Lib.hid h3
  have C4 := Lib.hid (fun W => refNeg_any n d W (by omega) (by omega))
  have C5 := Lib.hid h5
  clear h2 h3 h5 ef eg eh hce hfl hv hv' b2 hf p3 a5 hd1
  have HP := Lib.hid (hp.on ((Hd.nil w).add (.cells #[.int .i64 n, .int .i64 d] 24)).below)
  have H0 := Lib.hid ((Hd.nil w).add (.cells #[.int .i64 n, .int .i64 d] 24))
  clear hp
  go_enter Tryd.func9, Tryd.ntmps9
  go_wp2_with fail
  refine (awake04_any _ HP.out).mono ?_
  rintro r w0 ⟨rfl, hb⟩
  have G0 := Lib.hid (H0.out.on hb)
  clear hb
  obtain ⟨⟨x0, x1⟩, _⟩ := bk2 G0.out.h0
  have lx := bdLt G0.out.h0
  go_wp2_with fail
  clear x0 x1 lx
  refine (C1.out _).mono ?_
  rintro r w1 ⟨rfl, hb⟩
  have G1 := Lib.hid (G0.out.on hb)
  clear hb
  obtain ⟨⟨x0, x1⟩, _⟩ := bk2 G1.out.h0
  have lx := bdLt G1.out.h0
  go_wp2_with fail
  clear x0 x1 lx
  refine (C2.out _).mono ?_
  rintro r w2 ⟨rfl, hb⟩
  have G2 := Lib.hid (G1.out.on hb)
  clear hb
  obtain ⟨⟨x0, x1⟩, _⟩ := bk2 G2.out.h0
  have lx := bdLt G2.out.h0
  go_wp2_with fail
  clear x0 x1 lx
  refine (C3.out _).mono ?_
  rintro r w3 ⟨rfl, hb⟩
  have G3 := Lib.hid (G2.out.on hb)
  clear hb
  obtain ⟨⟨x0, x1⟩, _⟩ := bk2 G3.out.h0
  have lx := bdLt G3.out.h0
  go_wp2_with fail
  clear x0 x1 lx
  refine (C4.out _).mono ?_
  rintro r w4 ⟨rfl, hb⟩
  have G4 := Lib.hid (G3.out.on hb)
  clear hb
  obtain ⟨⟨x0, x1⟩, _⟩ := bk2 G4.out.h0
  have lx := bdLt G4.out.h0
  go_wp2_with fail
  clear x0 x1 lx
  refine (C5.out _).mono ?_
  rintro r w5 ⟨rfl, hb⟩
  have G5 := Lib.hid (G4.out.on hb)
  clear hb
  obtain ⟨⟨x0, x1⟩, _⟩ := bk2 G5.out.h0
  have lx := bdLt G5.out.h0
  go_wp2_with fail
  go_ret
  exact ⟨rfl, G5.out.below⟩

set_option maxHeartbeats 8000000 in
theorem ratioRounds_more (n d : Int) (w : World) (hp : Pw w) (hv : vldB n d = true) (hd1 : d ≠ 1) : Calls Tryd.prog 9 #[.agg #[.int .i64 n, .int .i64 d]] w fun r w' => r = .returned (.bool true) ∧ Below w.heap.size w w' := by
  obtain ⟨p1, p2, p3⟩ := rounds_plain (vldB_true.1 hv)
  obtain ⟨a1, a2, a3, a4, a5⟩ := vldB_true.1 hv
  obtain ⟨q1, q2⟩ := div_bd n d a1 a3 a4
  obtain ⟨f, hf⟩ : ∃ f, n / d = f := ⟨_, rfl⟩
  have hv' : vldB (-n) d = true := vldB_true.2 (neg_vF (vldB_true.1 hv))
  have hce : -((-n) / d) = f + 1 := by rw [hf] at p3; omega
  have hfl : (-n) / d = -(f + 1) := by omega
  have ef : flF n d = (f, 0) := by unfold flF; rw [hv, ← hf]; rfl
  have eg : ceF n d = (f + 1, 0) := by unfold ceF; rw [hv, ← hce]; rfl
  have eh : flF (-n) d = (-(f + 1), 0) := by unfold flF; rw [hv', ← hfl]; rfl
  rw [hf] at p1 p2 q1 q2
  have fd : (d == 1) = false := by simp [hd1]
  have ff : (f + 1 == f) = false := by simp; omega
  have b1 : -1152921504606846976 ≤ f * d ∧ f * d ≤ 1152921504606846976 := mul_bd f d q1 q2 (by omega) a2
  have b2 : (f + 1) * d = f * d + d := by rw [Int.add_mul, Int.one_mul]
  have b3 : -1152921504606846976 ≤ (f + 1) * d ∧ (f + 1) * d ≤ 1152921505680588800 := by omega
  obtain ⟨b4, b5⟩ := b1
  obtain ⟨b6, b7⟩ := b3
  have h2 := fun W => Floor_any n d W
  have h3 := fun W => Ceil_any n d W
  have h5 := fun W => Floor_any (-n) d W
  rw [ef] at h2
  rw [eg] at h3
  rw [eh] at h5
  have C1 := Lib.hid (fun W => refValid_ok n d W hv)
  have C2 := Lib.hid h2
  have C3 := Lib.hid h3
  have C4 := Lib.hid (fun W => refNeg_any n d W (by omega) (by omega))
  have C5 := Lib.hid h5
  clear h2 h3 h5 ef eg eh hce hfl hv hv' b2 hf p3 a5 hd1
  have HP := Lib.hid (hp.on ((Hd.nil w).add (.cells #[.int .i64 n, .int .i64 d] 24)).below)
  have H0 := Lib.hid ((Hd.nil w).add (.cells #[.int .i64 n, .int .i64 d] 24))
  clear hp
  go_enter Tryd.func9, Tryd.ntmps9
  go_wp2_with fail
  refine (awake04_any _ HP.out).mono ?_
  rintro r w0 ⟨rfl, hb⟩
  have G0 := Lib.hid (H0.out.on hb)
  clear hb
  obtain ⟨⟨x0, x1⟩, _⟩ := bk2 G0.out.h0
  have lx := bdLt G0.out.h0
  go_wp2_with fail
  clear x0 x1 lx
  refine (C1.out _).mono ?_
  rintro r w1 ⟨rfl, hb⟩
  have G1 := Lib.hid (G0.out.on hb)
  clear hb
  obtain ⟨⟨x0, x1⟩, _⟩ := bk2 G1.out.h0
  have lx := bdLt G1.out.h0
  go_wp2_with fail
  clear x0 x1 lx
  refine (C2.out _).mono ?_
  rintro r w2 ⟨rfl, hb⟩
  have G2 := Lib.hid (G1.out.on hb)
  clear hb
  obtain ⟨⟨x0, x1⟩, _⟩ := bk2 G2.out.h0
  have lx := bdLt G2.out.h0
  go_wp2_with fail
  clear x0 x1 lx
  refine (C3.out _).mono ?_
  rintro r w3 ⟨rfl, hb⟩
  have G3 := Lib.hid (G2.out.on hb)
  clear hb
  obtain ⟨⟨x0, x1⟩, _⟩ := bk2 G3.out.h0
  have lx := bdLt G3.out.h0
  go_wp2_with fail
  clear x0 x1 lx
  refine (C4.out _).mono ?_
  rintro r w4 ⟨rfl, hb⟩
  have G4 := Lib.hid (G3.out.on hb)
  clear hb
  obtain ⟨⟨x0, x1⟩, _⟩ := bk2 G4.out.h0
  have lx := bdLt G4.out.h0
  go_wp2_with fail
  clear x0 x1 lx
  refine (C5.out _).mono ?_
  rintro r w5 ⟨rfl, hb⟩
  have G5 := Lib.hid (G4.out.on hb)
  clear hb
  obtain ⟨⟨x0, x1⟩, _⟩ := bk2 G5.out.h0
  have lx := bdLt G5.out.h0
  go_wp2_with fail
  go_ret
  exact ⟨rfl, G5.out.below⟩

set_option maxHeartbeats 8000000 in
theorem ratioRounds_no (n d : Int) (w : World) (hp : Pw w) (hv : vldB n d = false) : Calls Tryd.prog 9 #[.agg #[.int .i64 n, .int .i64 d]] w fun r w' => r = .returned (.bool true) ∧ Below w.heap.size w w' := by
  have C1 := Lib.hid (fun W => refValid_no n d W hv)
  have HP := Lib.hid (hp.on ((Hd.nil w).add (.cells #[.int .i64 n, .int .i64 d] 24)).below)
  have H0 := Lib.hid ((Hd.nil w).add (.cells #[.int .i64 n, .int .i64 d] 24))
  clear hp hv
  go_enter Tryd.func9, Tryd.ntmps9
  go_wp2_with fail
  refine (awake04_any _ HP.out).mono ?_
  rintro r w0 ⟨rfl, hb⟩
  have G0 := Lib.hid (H0.out.on hb)
  clear hb
  obtain ⟨⟨x0, x1⟩, _⟩ := bk2 G0.out.h0
  have lx := bdLt G0.out.h0
  go_wp2_with fail
  clear x0 x1 lx
  refine (C1.out _).mono ?_
  rintro r w1 ⟨rfl, hb⟩
  have G1 := Lib.hid (G0.out.on hb)
  clear hb
  go_wp2_with fail
  go_ret
  exact ⟨rfl, G1.out.below⟩
theorem ratioRounds_any (n d : Int) (w : World) (hp : Pw w) : Calls Tryd.prog 9 #[.agg #[.int .i64 n, .int .i64 d]] w fun r w' => r = .returned (.bool true) ∧ Below w.heap.size w w' := by
  cases hv : vldB n d with
  | false => exact ratioRounds_no n d w hp hv
  | true =>
    by_cases h : d = 1
    · exact ratioRounds_one n d w hp hv h
    · exact ratioRounds_more n d w hp hv h
end Go.Proofs.YtmebdieflllgcaaDoor
