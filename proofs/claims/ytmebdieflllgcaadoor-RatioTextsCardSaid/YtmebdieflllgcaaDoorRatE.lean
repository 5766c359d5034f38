/- Walks: the reference's Valid, Add, Sub, Mul, Div, Neg; Cmp, Floor, Ceil of both. -/
import Derived.Test.YtmebdieflllgcaaDoorRatC
import Derived.Test.YtmebdieflllgcaaDoorRatD
namespace Go.Proofs.YtmebdieflllgcaaDoor
open Go.RowKit
set_option maxRecDepth 100000

theorem refMake_is (n d x y z : Int) (h1 : -9223372036854775808 ≤ n) (h2 : n ≤ 9223372036854775807) (h3 : -9223372036854775808 ≤ d) (h4 : d ≤ 9223372036854775807) (w : World) (h : mkR n d = (x, y, z)) :
    Calls Tryd.prog 14 #[.int .i64 n, .int .i64 d] w fun e w' => e = .returned (.tuple #[.agg #[.int .i64 x, .int .i64 y], .int .i64 z]) ∧ Below w.heap.size w w' := by
  have := refMake_any n d h1 h2 h3 h4 w
  rw [h] at this
  exact this
set_option maxHeartbeats 2000000 in
theorem refValid_out (n d : Int) (w : World) (h : n < -1073741824 ∨ 1073741824 < n ∨ d < 1 ∨ 1073741824 < d) :
    Calls Tryd.prog 16 #[.agg #[.int .i64 n, .int .i64 d]] w fun e w' => e = .returned (.bool false) ∧ Below w.heap.size w w' := by
  have HH := Lib.hid h
  clear h
  go_enter Tryd.func16, Tryd.ntmps16
  go_wp2_with fail
  all_goals
    first
      | (exfalso; have := HH.out; omega)
      | (go_ret; exact ⟨rfl, (Below.refl _ _).alloc (Nat.le_refl _) _⟩)

set_option maxHeartbeats 2000000 in
theorem refValid_in (n d x y z : Int) (w : World) (h1 : 1 ≤ d) (h2 : d ≤ 1073741824) (h3 : -1073741824 ≤ n) (h4 : n ≤ 1073741824) (hm : mkR n d = (x, y, z)) :
    Calls Tryd.prog 16 #[.agg #[.int .i64 n, .int .i64 d]] w fun e w' => e = .returned (.bool (x == n && y == d)) ∧ Below w.heap.size w w' := by
  have hmk := fun W => refMake_is n d x y z (by omega) (by omega) (by omega) (by omega) W hm
  have HM := Lib.hid hmk
  clear hmk hm
  have hbx := bdNew w (.cells #[.int .i64 n, .int .i64 d] 24)
  have HBX := Lib.hid hbx
  clear hbx
  go_enter Tryd.func16, Tryd.ntmps16
  go_wp2_with fail
  refine (HM.out _).mono ?_
  rintro r w1 ⟨rfl, hb1⟩
  obtain ⟨k1, k2⟩ := bdBox hb1
  have K2 := Lib.hid k2
  have hsz := bdLt k1
  obtain ⟨⟨x0, x1⟩, _⟩ := bk2 k1
  clear hb1 k1 k2
  go_wp2_with fail
  all_goals
    go_ret
    refine ⟨retB ?_, K2.out.alloc (by omega) _⟩
    simp_all
theorem refValid_any (n d : Int) (w : World) : Calls Tryd.prog 16 #[.agg #[.int .i64 n, .int .i64 d]] w fun e w' => e = .returned (.bool (vldB n d)) ∧ Below w.heap.size w w' := by
  by_cases h : n < -1073741824 ∨ 1073741824 < n ∨ d < 1 ∨ 1073741824 < d
  · rw [vldB_false.2 (fun ⟨a, b, c, e, _⟩ => by omega)]
    exact refValid_out n d w h
  · obtain ⟨x, y, z, hr⟩ : ∃ x y z, mkR n d = (x, y, z) := ⟨_, _, _, rfl⟩
    refine (refValid_in n d x y z w (by omega) (by omega) (by omega) (by omega) hr).mono ?_
    rintro e w' ⟨rfl, hb⟩
    refine ⟨retB ?_, hb⟩
    rw [Bool.eq_iff_iff]
    simp only [Bool.and_eq_true, beq_iff_eq]
    rw [vldB_true]
    constructor
    · rintro ⟨rfl, rfl⟩
      rcases mkR_or x y with ⟨x', y', e1, v⟩ | ⟨z', e1, e2⟩
      · rw [e1] at hr
        have h1 := congrArg Prod.fst hr
        have h2 := congrArg (fun p => p.2.1) hr
        dsimp only at h1 h2
        rwa [h1, h2] at v
      · rw [e1] at hr
        have h2 := congrArg (fun p => p.2.1) hr
        dsimp only at h2
        omega
    · intro v
      rw [mkR_valid v] at hr
      have h1 := congrArg Prod.fst hr
      have h2 := congrArg (fun p => p.2.1) hr
      dsimp only at h1 h2
      exact ⟨h1.symm, h2.symm⟩
theorem refValid_no (n d : Int) (w : World) (h : vldB n d = false) : Calls Tryd.prog 16 #[.agg #[.int .i64 n, .int .i64 d]] w fun e w' => e = .returned (.bool false) ∧ Below w.heap.size w w' := by
  have := refValid_any n d w
  rwa [h] at this
theorem refValid_ok (n d : Int) (w : World) (h : vldB n d = true) : Calls Tryd.prog 16 #[.agg #[.int .i64 n, .int .i64 d]] w fun e w' => e = .returned (.bool true) ∧ Below w.heap.size w w' := by
  have := refValid_any n d w
  rwa [h] at this

set_option maxHeartbeats 4000000 in
theorem refAdd_any (n d m e : Int) (w : World) : Calls Tryd.prog 21 #[.agg #[.int .i64 n, .int .i64 d], .agg #[.int .i64 m, .int .i64 e]] w fun r w' => r = .returned (frR (addR n d m e)) ∧ Below w.heap.size w w' := by
  have H0 := Lib.hid (Fr2.start w n d m e)
  cases hv1 : vldB n d with
  | false =>
    have hs : addR n d m e = (0, 0, 1) := by unfold addR; rw [hv1]; rfl
    rw [hs]
    unfold frR
    have hc := fun W => refValid_no n d W hv1
    have HV := Lib.hid hc
    clear hs hv1 hc
    go_enter Tryd.func21, Tryd.ntmps21
    go_wp2_with fail
    refine (HV.out _).mono ?_
    rintro r w1 ⟨rfl, hb1⟩
    have H1 := Lib.hid (H0.out.next hb1)
    clear hb1
    obtain ⟨⟨x0, x1⟩, y0, y1⟩ := bk2 H1.out.b2
    go_wp2_with fail
    exact bodyPost_ret (v := .tuple #[.agg #[.int .i64 0, .int .i64 0], .int .i64 1]) (by simp [results, Tryd.results21, go_sem, x0, x1]) rfl ⟨rfl, (H1.out.below.setCell (by simp; omega) _).setCell (by simp; omega) _⟩
  | true =>
    cases hv2 : vldB m e with
    | false =>
      have hs : addR n d m e = (0, 0, 1) := by unfold addR; rw [hv1, hv2]; rfl
      rw [hs]
      unfold frR
      have hc := fun W => refValid_ok n d W hv1
      have HV := Lib.hid hc
      have hc2 := fun W => refValid_no m e W hv2
      have HV2 := Lib.hid hc2
      clear hs hv1 hc hv2 hc2
      go_enter Tryd.func21, Tryd.ntmps21
      go_wp2_with fail
      refine (HV.out _).mono ?_
      rintro r w1 ⟨rfl, hb1⟩
      have H1 := Lib.hid (H0.out.next hb1)
      clear hb1
      obtain ⟨⟨x0, x1⟩, _⟩ := bk2 H1.out.b1
      go_wp2_with fail
      clear x0 x1
      refine (HV2.out _).mono ?_
      rintro r w2 ⟨rfl, hb2⟩
      have H2 := Lib.hid (H1.out.next hb2)
      clear hb2
      obtain ⟨⟨x0, x1⟩, y0, y1⟩ := bk2 H2.out.b2
      go_wp2_with fail
      exact bodyPost_ret (v := .tuple #[.agg #[.int .i64 0, .int .i64 0], .int .i64 1]) (by simp [results, Tryd.results21, go_sem, x0, x1]) rfl ⟨rfl, (H2.out.below.setCell (by simp; omega) _).setCell (by simp; omega) _⟩
    | true =>
      have hs : addR n d m e = mkR (n * e + m * d) (d * e) := by unfold addR; rw [hv1, hv2]; rfl
      obtain ⟨a1, a2, a3, a4, _⟩ := vldB_true.1 hv1
      obtain ⟨c1, c2, c3, c4, _⟩ := vldB_true.1 hv2
      obtain ⟨p1, p2⟩ := mul_bd n e a3 a4 (by omega) c2
      obtain ⟨q1, q2⟩ := mul_bd m d c3 c4 (by omega) a2
      obtain ⟨r1, r2⟩ := mul_bd d e (by omega) a2 (by omega) c2
      obtain ⟨s1, s2⟩ := mul_bd n m a3 a4 c3 c4
      obtain ⟨t1, t2⟩ := mul_bd d m (by omega) a2 c3 c4
      rw [hs]
      obtain ⟨x, y, z, hr⟩ : ∃ x y z, mkR (n * e + m * d) (d * e) = (x, y, z) := ⟨_, _, _, rfl⟩
      rw [hr]
      have hmk := fun W => refMake_is (n * e + m * d) (d * e) x y z (by omega) (by omega) (by omega) (by omega) W hr
      have HM := Lib.hid hmk
      unfold frR
      have hc := fun W => refValid_ok n d W hv1
      have HV := Lib.hid hc
      have hc2 := fun W => refValid_ok m e W hv2
      have HV2 := Lib.hid hc2
      clear hs hv1 hc hv2 hc2 hr hmk
      go_enter Tryd.func21, Tryd.ntmps21
      go_wp2_with fail
      refine (HV.out _).mono ?_
      rintro r w1 ⟨rfl, hb1⟩
      have H1 := Lib.hid (H0.out.next hb1)
      clear hb1
      obtain ⟨⟨x0, x1⟩, _⟩ := bk2 H1.out.b1
      go_wp2_with fail
      clear x0 x1
      refine (HV2.out _).mono ?_
      rintro r w2 ⟨rfl, hb2⟩
      have H2 := Lib.hid (H1.out.next hb2)
      clear hb2
      obtain ⟨⟨x0, x1⟩, _⟩ := bk2 H2.out.b0
      obtain ⟨⟨z0, z1⟩, _⟩ := bk2 H2.out.b1
      go_wp2_with fail
      clear x0 x1 z0 z1
      refine (HM.out _).mono ?_
      rintro r w3 ⟨rfl, hb3⟩
      have H3 := Lib.hid (H2.out.next hb3)
      clear hb3
      obtain ⟨⟨x0, x1⟩, y0, y1⟩ := bk2 H3.out.b2
      go_wp2_with fail
      exact bodyPost_ret (v := .tuple #[.agg #[.int .i64 x, .int .i64 y], .int .i64 z]) (by simp [results, Tryd.results21, go_sem, x0, x1]) rfl ⟨rfl, (H3.out.below.setCell (by simp; omega) _).setCell (by simp; omega) _⟩

set_option maxHeartbeats 4000000 in
theorem refMul_any (n d m e : Int) (w : World) : Calls Tryd.prog 23 #[.agg #[.int .i64 n, .int .i64 d], .agg #[.int .i64 m, .int .i64 e]] w fun r w' => r = .returned (frR (mulR n d m e)) ∧ Below w.heap.size w w' := by
  have H0 := Lib.hid (Fr2.start w n d m e)
  cases hv1 : vldB n d with
  | false =>
    have hs : mulR n d m e = (0, 0, 1) := by unfold mulR; rw [hv1]; rfl
    rw [hs]
    unfold frR
    have hc := fun W => refValid_no n d W hv1
    have HV := Lib.hid hc
    clear hs hv1 hc
    go_enter Tryd.func23, Tryd.ntmps23
    go_wp2_with fail
    refine (HV.out _).mono ?_
    rintro r w1 ⟨rfl, hb1⟩
    have H1 := Lib.hid (H0.out.next hb1)
    clear hb1
    obtain ⟨⟨x0, x1⟩, y0, y1⟩ := bk2 H1.out.b2
    go_wp2_with fail
    exact bodyPost_ret (v := .tuple #[.agg #[.int .i64 0, .int .i64 0], .int .i64 1]) (by simp [results, Tryd.results23, go_sem, x0, x1]) rfl ⟨rfl, (H1.out.below.setCell (by simp; omega) _).setCell (by simp; omega) _⟩
  | true =>
    cases hv2 : vldB m e with
    | false =>
      have hs : mulR n d m e = (0, 0, 1) := by unfold mulR; rw [hv1, hv2]; rfl
      rw [hs]
      unfold frR
      have hc := fun W => refValid_ok n d W hv1
      have HV := Lib.hid hc
      have hc2 := fun W => refValid_no m e W hv2
      have HV2 := Lib.hid hc2
      clear hs hv1 hc hv2 hc2
      go_enter Tryd.func23, Tryd.ntmps23
      go_wp2_with fail
      refine (HV.out _).mono ?_
      rintro r w1 ⟨rfl, hb1⟩
      have H1 := Lib.hid (H0.out.next hb1)
      clear hb1
      obtain ⟨⟨x0, x1⟩, _⟩ := bk2 H1.out.b1
      go_wp2_with fail
      clear x0 x1
      refine (HV2.out _).mono ?_
      rintro r w2 ⟨rfl, hb2⟩
      have H2 := Lib.hid (H1.out.next hb2)
      clear hb2
      obtain ⟨⟨x0, x1⟩, y0, y1⟩ := bk2 H2.out.b2
      go_wp2_with fail
      exact bodyPost_ret (v := .tuple #[.agg #[.int .i64 0, .int .i64 0], .int .i64 1]) (by simp [results, Tryd.results23, go_sem, x0, x1]) rfl ⟨rfl, (H2.out.below.setCell (by simp; omega) _).setCell (by simp; omega) _⟩
    | true =>
      have hs : mulR n d m e = mkR (n * m) (d * e) := by unfold mulR; rw [hv1, hv2]; rfl
      obtain ⟨a1, a2, a3, a4, _⟩ := vldB_true.1 hv1
      obtain ⟨c1, c2, c3, c4, _⟩ := vldB_true.1 hv2
      obtain ⟨p1, p2⟩ := mul_bd n e a3 a4 (by omega) c2
      obtain ⟨q1, q2⟩ := mul_bd m d c3 c4 (by omega) a2
      obtain ⟨r1, r2⟩ := mul_bd d e (by omega) a2 (by omega) c2
      obtain ⟨s1, s2⟩ := mul_bd n m a3 a4 c3 c4
      obtain ⟨t1, t2⟩ := mul_bd d m (by omega) a2 c3 c4
      rw [hs]
      obtain ⟨x, y, z, hr⟩ : ∃ x y z, mkR (n * m) (d * e) = (x, y, z) := ⟨_, _, _, rfl⟩
      rw [hr]
      have hmk := fun W => refMake_is (n * m) (d * e) x y z (by omega) (by omega) (by omega) (by omega) W hr
      have HM := Lib.hid hmk
      unfold frR
      have hc := fun W => refValid_ok n d W hv1
      have HV := Lib.hid hc
      have hc2 := fun W => refValid_ok m e W hv2
      have HV2 := Lib.hid hc2
      clear hs hv1 hc hv2 hc2 hr hmk
      go_enter Tryd.func23, Tryd.ntmps23
      go_wp2_with fail
      refine (HV.out _).mono ?_
      rintro r w1 ⟨rfl, hb1⟩
      have H1 := Lib.hid (H0.out.next hb1)
      clear hb1
      obtain ⟨⟨x0, x1⟩, _⟩ := bk2 H1.out.b1
      go_wp2_with fail
      clear x0 x1
      refine (HV2.out _).mono ?_
      rintro r w2 ⟨rfl, hb2⟩
      have H2 := Lib.hid (H1.out.next hb2)
      clear hb2
      obtain ⟨⟨x0, x1⟩, _⟩ := bk2 H2.out.b0
      obtain ⟨⟨z0, z1⟩, _⟩ := bk2 H2.out.b1
      go_wp2_with fail
      clear x0 x1 z0 z1
      refine (HM.out _).mono ?_
      rintro r w3 ⟨rfl, hb3⟩
      have H3 := Lib.hid (H2.out.next hb3)
      clear hb3
      obtain ⟨⟨x0, x1⟩, y0, y1⟩ := bk2 H3.out.b2
      go_wp2_with fail
      exact bodyPost_ret (v := .tuple #[.agg #[.int .i64 x, .int .i64 y], .int .i64 z]) (by simp [results, Tryd.results23, go_sem, x0, x1]) rfl ⟨rfl, (H3.out.below.setCell (by simp; omega) _).setCell (by simp; omega) _⟩

set_option maxHeartbeats 4000000 in
theorem refDiv_any (n d m e : Int) (w : World) : Calls Tryd.prog 24 #[.agg #[.int .i64 n, .int .i64 d], .agg #[.int .i64 m, .int .i64 e]] w fun r w' => r = .returned (frR (divR n d m e)) ∧ Below w.heap.size w w' := by
  have H0 := Lib.hid (Fr2.start w n d m e)
  cases hv1 : vldB n d with
  | false =>
    have hs : divR n d m e = (0, 0, 1) := by unfold divR; rw [hv1]; rfl
    rw [hs]
    unfold frR
    have hc := fun W => refValid_no n d W hv1
    have HV := Lib.hid hc
    clear hs hv1 hc
    go_enter Tryd.func24, Tryd.ntmps24
    go_wp2_with fail
    refine (HV.out _).mono ?_
    rintro r w1 ⟨rfl, hb1⟩
    have H1 := Lib.hid (H0.out.next hb1)
    clear hb1
    obtain ⟨⟨x0, x1⟩, y0, y1⟩ := bk2 H1.out.b2
    go_wp2_with fail
    exact bodyPost_ret (v := .tuple #[.agg #[.int .i64 0, .int .i64 0], .int .i64 1]) (by simp [results, Tryd.results24, go_sem, x0, x1]) rfl ⟨rfl, (H1.out.below.setCell (by simp; omega) _).setCell (by simp; omega) _⟩
  | true =>
    cases hv2 : vldB m e with
    | false =>
      have hs : divR n d m e = (0, 0, 1) := by unfold divR; rw [hv1, hv2]; rfl
      rw [hs]
      unfold frR
      have hc := fun W => refValid_ok n d W hv1
      have HV := Lib.hid hc
      have hc2 := fun W => refValid_no m e W hv2
      have HV2 := Lib.hid hc2
      clear hs hv1 hc hv2 hc2
      go_enter Tryd.func24, Tryd.ntmps24
      go_wp2_with fail
      refine (HV.out _).mono ?_
      rintro r w1 ⟨rfl, hb1⟩
      have H1 := Lib.hid (H0.out.next hb1)
      clear hb1
      obtain ⟨⟨x0, x1⟩, _⟩ := bk2 H1.out.b1
      go_wp2_with fail
      clear x0 x1
      refine (HV2.out _).mono ?_
      rintro r w2 ⟨rfl, hb2⟩
      have H2 := Lib.hid (H1.out.next hb2)
      clear hb2
      obtain ⟨⟨x0, x1⟩, y0, y1⟩ := bk2 H2.out.b2
      go_wp2_with fail
      exact bodyPost_ret (v := .tuple #[.agg #[.int .i64 0, .int .i64 0], .int .i64 1]) (by simp [results, Tryd.results24, go_sem, x0, x1]) rfl ⟨rfl, (H2.out.below.setCell (by simp; omega) _).setCell (by simp; omega) _⟩
    | true =>
      have hs : divR n d m e = mkR (n * e) (d * m) := by unfold divR; rw [hv1, hv2]; rfl
      obtain ⟨a1, a2, a3, a4, _⟩ := vldB_true.1 hv1
      obtain ⟨c1, c2, c3, c4, _⟩ := vldB_true.1 hv2
      obtain ⟨p1, p2⟩ := mul_bd n e a3 a4 (by omega) c2
      obtain ⟨q1, q2⟩ := mul_bd m d c3 c4 (by omega) a2
      obtain ⟨r1, r2⟩ := mul_bd d e (by omega) a2 (by omega) c2
      obtain ⟨s1, s2⟩ := mul_bd n m a3 a4 c3 c4
      obtain ⟨t1, t2⟩ := mul_bd d m (by omega) a2 c3 c4
      rw [hs]
      obtain ⟨x, y, z, hr⟩ : ∃ x y z, mkR (n * e) (d * m) = (x, y, z) := ⟨_, _, _, rfl⟩
      rw [hr]
      have hmk := fun W => refMake_is (n * e) (d * m) x y z (by omega) (by omega) (by omega) (by omega) W hr
      have HM := Lib.hid hmk
      unfold frR
      have hc := fun W => refValid_ok n d W hv1
      have HV := Lib.hid hc
      have hc2 := fun W => refValid_ok m e W hv2
      have HV2 := Lib.hid hc2
      clear hs hv1 hc hv2 hc2 hr hmk
      go_enter Tryd.func24, Tryd.ntmps24
      go_wp2_with fail
      refine (HV.out _).mono ?_
      rintro r w1 ⟨rfl, hb1⟩
      have H1 := Lib.hid (H0.out.next hb1)
      clear hb1
      obtain ⟨⟨x0, x1⟩, _⟩ := bk2 H1.out.b1
      go_wp2_with fail
      clear x0 x1
      refine (HV2.out _).mono ?_
      rintro r w2 ⟨rfl, hb2⟩
      have H2 := Lib.hid (H1.out.next hb2)
      clear hb2
      obtain ⟨⟨x0, x1⟩, _⟩ := bk2 H2.out.b0
      obtain ⟨⟨z0, z1⟩, _⟩ := bk2 H2.out.b1
      go_wp2_with fail
      clear x0 x1 z0 z1
      refine (HM.out _).mono ?_
      rintro r w3 ⟨rfl, hb3⟩
      have H3 := Lib.hid (H2.out.next hb3)
      clear hb3
      obtain ⟨⟨x0, x1⟩, y0, y1⟩ := bk2 H3.out.b2
      go_wp2_with fail
      exact bodyPost_ret (v := .tuple #[.agg #[.int .i64 x, .int .i64 y], .int .i64 z]) (by simp [results, Tryd.results24, go_sem, x0, x1]) rfl ⟨rfl, (H3.out.below.setCell (by simp; omega) _).setCell (by simp; omega) _⟩

set_option maxHeartbeats 2000000 in
theorem refNeg_any (n d : Int) (w : World) (h1 : -9223372036854775807 ≤ n) (h2 : n ≤ 9223372036854775807) : Calls Tryd.prog 35 #[.agg #[.int .i64 n, .int .i64 d]] w fun e w' => e = .returned (.agg #[.int .i64 (-n), .int .i64 d]) ∧ Below w.heap.size w w' := by
  go_enter Tryd.func35, Tryd.ntmps35
  go_wp2_with fail
  exact bodyPost_ret (v := .agg #[.int .i64 (-n), .int .i64 d]) (by simp [results, Tryd.results35, go_sem]) rfl ⟨rfl, ((Below.refl _ _).alloc (Nat.le_refl _) _).alloc (by simp) _⟩

set_option maxHeartbeats 4000000 in
theorem refSub_any (n d m e : Int) (w : World) : Calls Tryd.prog 22 #[.agg #[.int .i64 n, .int .i64 d], .agg #[.int .i64 m, .int .i64 e]] w fun r w' => r = .returned (frR (subR n d m e)) ∧ Below w.heap.size w w' := by
  have H0 := Lib.hid (Fr2.start w n d m e)
  cases hv1 : vldB n d with
  | false =>
    have hs : subR n d m e = (0, 0, 1) := by unfold subR; rw [hv1]; rfl
    rw [hs]
    unfold frR
    have hc := fun W => refValid_no n d W hv1
    have HV := Lib.hid hc
    clear hs hv1 hc
    go_enter Tryd.func22, Tryd.ntmps22
    go_wp2_with fail
    refine (HV.out _).mono ?_
    rintro r w1 ⟨rfl, hb1⟩
    have H1 := Lib.hid (H0.out.next hb1)
    clear hb1
    obtain ⟨⟨x0, x1⟩, y0, y1⟩ := bk2 H1.out.b2
    go_wp2_with fail
    exact bodyPost_ret (v := .tuple #[.agg #[.int .i64 0, .int .i64 0], .int .i64 1]) (by simp [results, Tryd.results22, go_sem, x0, x1]) rfl ⟨rfl, (H1.out.below.setCell (by simp; omega) _).setCell (by simp; omega) _⟩
  | true =>
    cases hv2 : vldB m e with
    | false =>
      have hs : subR n d m e = (0, 0, 1) := by unfold subR; rw [hv1, hv2]; rfl
      rw [hs]
      unfold frR
      have hc := fun W => refValid_ok n d W hv1
      have HV := Lib.hid hc
      have hc2 := fun W => refValid_no m e W hv2
      have HV2 := Lib.hid hc2
      clear hs hv1 hc hv2 hc2
      go_enter Tryd.func22, Tryd.ntmps22
      go_wp2_with fail
      refine (HV.out _).mono ?_
      rintro r w1 ⟨rfl, hb1⟩
      have H1 := Lib.hid (H0.out.next hb1)
      clear hb1
      obtain ⟨⟨x0, x1⟩, _⟩ := bk2 H1.out.b1
      go_wp2_with fail
      clear x0 x1
      refine (HV2.out _).mono ?_
      rintro r w2 ⟨rfl, hb2⟩
      have H2 := Lib.hid (H1.out.next hb2)
      clear hb2
      obtain ⟨⟨x0, x1⟩, y0, y1⟩ := bk2 H2.out.b2
      go_wp2_with fail
      exact bodyPost_ret (v := .tuple #[.agg #[.int .i64 0, .int .i64 0], .int .i64 1]) (by simp [results, Tryd.results22, go_sem, x0, x1]) rfl ⟨rfl, (H2.out.below.setCell (by simp; omega) _).setCell (by simp; omega) _⟩
    | true =>
      have hs : subR n d m e = addR n d (-m) e := by rw [sub_add, hv1, hv2]; rfl
      obtain ⟨a1, a2, a3, a4, _⟩ := vldB_true.1 hv1
      obtain ⟨c1, c2, c3, c4, _⟩ := vldB_true.1 hv2
      rw [hs]
      obtain ⟨x, y, z, hr⟩ : ∃ x y z, addR n d (-m) e = (x, y, z) := ⟨_, _, _, rfl⟩
      rw [hr]
      have hmk := fun W => refAdd_any n d (-m) e W
      rw [hr] at hmk
      unfold frR at hmk
      have HM := Lib.hid hmk
      unfold frR
      have hc := fun W => refValid_ok n d W hv1
      have HV := Lib.hid hc
      have hc2 := fun W => refValid_ok m e W hv2
      have HV2 := Lib.hid hc2
      have hng := fun W => refNeg_any m e W (by omega) (by omega)
      have HN := Lib.hid hng
      clear hs hv1 hc hv2 hc2 hr hmk hng
      go_enter Tryd.func22, Tryd.ntmps22
      go_wp2_with fail
      refine (HV.out _).mono ?_
      rintro r w1 ⟨rfl, hb1⟩
      have H1 := Lib.hid (H0.out.next hb1)
      clear hb1
      obtain ⟨⟨x0, x1⟩, _⟩ := bk2 H1.out.b1
      go_wp2_with fail
      clear x0 x1
      refine (HV2.out _).mono ?_
      rintro r w2 ⟨rfl, hb2⟩
      have H2 := Lib.hid (H1.out.next hb2)
      clear hb2
      obtain ⟨⟨x0, x1⟩, _⟩ := bk2 H2.out.b0
      obtain ⟨⟨z0, z1⟩, _⟩ := bk2 H2.out.b1
      go_wp2_with fail
      go_region_with (first
        | (go_at_call 35; refine (HN.out _).mono ?_; rintro r w3 ⟨rfl, hb3⟩; have H3 := Lib.hid (H2.out.drew.next hb3); clear hb3; obtain ⟨⟨u0, u1⟩, _⟩ := bk2 H3.out.b0)
        | (go_at_call 21; refine (HM.out _).mono ?_; rintro r w4 ⟨rfl, hb4⟩; have H4 := Lib.hid (H3.out.next hb4); clear hb4; obtain ⟨⟨p0, p1⟩, q0, q1⟩ := bk2 H4.out.b2)
        | fail)
      all_goals
        go_wp2_with fail
        exact bodyPost_ret (v := .tuple #[.agg #[.int .i64 x, .int .i64 y], .int .i64 z]) (by simp [results, Tryd.results22, go_sem, p0, p1]) rfl ⟨rfl, (H4.out.below.setCell (by simp; omega) _).setCell (by simp; omega) _⟩
end Go.Proofs.YtmebdieflllgcaaDoor
