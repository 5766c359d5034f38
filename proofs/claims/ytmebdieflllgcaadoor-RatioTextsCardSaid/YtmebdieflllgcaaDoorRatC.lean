/- Walks: Add, Sub, Mul, Div of the program. -/
import Derived.Test.YtmebdieflllgcaaDoorRatB
namespace Go.Proofs.YtmebdieflllgcaaDoor
open Go.RowKit
set_option maxRecDepth 100000

/-- The boxes of an operation on two fractions: the two, and the result. -/
structure Fr2 (w w' : World) (n d m e : Int) : Prop where
  below : Below w.heap.size w w'
  b0 : w'.heap[w.heap.size]? = some (.cells #[.int .i64 n, .int .i64 d] 24 (0, 0))
  b1 : w'.heap[w.heap.size + 1]? = some (.cells #[.int .i64 m, .int .i64 e] 24 (0, 0))
  b2 : w'.heap[w.heap.size + 1 + 1]? = some (.cells #[.int .i64 0, .int .i64 0] 24 (0, 0))
theorem Fr2.next {w w1 w2 : World} {n d m e : Int} (h : Fr2 w w1 n d m e) (hb : Below w1.heap.size w1 w2) : Fr2 w w2 n d m e :=
  ⟨h.below.trans (hb.mono h.below.size), bdAt h.b0 hb, bdAt h.b1 hb, bdAt h.b2 hb⟩
theorem Fr2.drew {w w1 : World} {n d m e : Int} (h : Fr2 w w1 n d m e) : Fr2 w w1.drew n d m e := ⟨h.below.drew, h.b0, h.b1, h.b2⟩
theorem Fr2.start (w : World) (n d m e : Int) : Fr2 w (((w.alloc (.cells #[.int .i64 n, .int .i64 d] 24)).alloc (.cells #[.int .i64 m, .int .i64 e] 24)).alloc (.cells #[.int .i64 0, .int .i64 0] 24)) n d m e := by
  have h1 := bdNew w (.cells #[.int .i64 n, .int .i64 d] 24)
  have h2 := bdNew (w.alloc (.cells #[.int .i64 n, .int .i64 d] 24)) (.cells #[.int .i64 m, .int .i64 e] 24)
  have h3 := bdNew ((w.alloc (.cells #[.int .i64 n, .int .i64 d] 24)).alloc (.cells #[.int .i64 m, .int .i64 e] 24)) (.cells #[.int .i64 0, .int .i64 0] 24)
  simp only [World.size_alloc] at h2 h3
  exact ⟨(((Below.refl _ _).alloc (Nat.le_refl _) _).alloc (by simp) _).alloc (by simp; omega) _, bdOld (bdOld h1), bdOld h2, h3⟩
theorem mul_bd (x y : Int) (h1 : -1073741824 ≤ x) (h2 : x ≤ 1073741824) (h3 : -1073741824 ≤ y) (h4 : y ≤ 1073741824) : -1152921504606846976 ≤ x * y ∧ x * y ≤ 1152921504606846976 := by
  have h : (x * y).natAbs ≤ 1073741824 * 1073741824 := by
    rw [Int.natAbs_mul]
    exact Nat.mul_le_mul (by omega) (by omega)
  omega
theorem Valid_no (n d : Int) (w : World) (h : vldB n d = false) : Calls Tryd.prog 15 #[.agg #[.int .i64 n, .int .i64 d]] w fun e w' => e = .returned (.bool false) ∧ Below w.heap.size w w' := by
  have := Valid_any n d w
  rwa [h] at this
theorem Valid_ok (n d : Int) (w : World) (h : vldB n d = true) : Calls Tryd.prog 15 #[.agg #[.int .i64 n, .int .i64 d]] w fun e w' => e = .returned (.bool true) ∧ Below w.heap.size w w' := by
  have := Valid_any n d w
  rwa [h] at this
theorem Make_is (n d x y z : Int) (h1 : -9223372036854775808 ≤ n) (h2 : n ≤ 9223372036854775807) (h3 : -9223372036854775808 ≤ d) (h4 : d ≤ 9223372036854775807) (w : World) (h : mkR n d = (x, y, z)) :
    Calls Tryd.prog 13 #[.int .i64 n, .int .i64 d] w fun e w' => e = .returned (.tuple #[.agg #[.int .i64 x, .int .i64 y], .int .i64 z]) ∧ Below w.heap.size w w' := by
  have := Make_any n d h1 h2 h3 h4 w
  rw [h] at this
  exact this

set_option maxHeartbeats 4000000 in
theorem Add_any (n d m e : Int) (w : World) : Calls Tryd.prog 17 #[.agg #[.int .i64 n, .int .i64 d], .agg #[.int .i64 m, .int .i64 e]] w fun r w' => r = .returned (frR (addR n d m e)) ∧ Below w.heap.size w w' := by
  have H0 := Lib.hid (Fr2.start w n d m e)
  cases hv1 : vldB n d with
  | false =>
    have hs : addR n d m e = (0, 0, 1) := by unfold addR; rw [hv1]; rfl
    rw [hs]
    unfold frR
    have hc := fun W => Valid_no n d W hv1
    have HV := Lib.hid hc
    clear hs hv1 hc
    go_enter Tryd.func17, Tryd.ntmps17
    go_wp2_with fail
    refine (HV.out _).mono ?_
    rintro r w1 ⟨rfl, hb1⟩
    have H1 := Lib.hid (H0.out.next hb1)
    clear hb1
    obtain ⟨⟨x0, x1⟩, y0, y1⟩ := bk2 H1.out.b2
    go_wp2_with fail
    exact bodyPost_ret (v := .tuple #[.agg #[.int .i64 0, .int .i64 0], .int .i64 1]) (by simp [results, Tryd.results17, go_sem, x0, x1]) rfl ⟨rfl, (H1.out.below.setCell (by simp; omega) _).setCell (by simp; omega) _⟩
  | true =>
    cases hv2 : vldB m e with
    | false =>
      have hs : addR n d m e = (0, 0, 1) := by unfold addR; rw [hv1, hv2]; rfl
      rw [hs]
      unfold frR
      have hc := fun W => Valid_ok n d W hv1
      have HV := Lib.hid hc
      have hc2 := fun W => Valid_no m e W hv2
      have HV2 := Lib.hid hc2
      clear hs hv1 hc hv2 hc2
      go_enter Tryd.func17, Tryd.ntmps17
      go_wp2_with fail
      refine (HV.out _).mono ?_
      rintro r w1 ⟨rfl, hb1⟩
      have H1 := Lib.hid (H0.out.next hb1)
      clear hb1
      obtain ⟨⟨x0, x1⟩, _⟩ := bk2 H1.out.b1
      go_wp2_with fail
      clear x0 x1
      refine (HV2.out _).mono ?_
      rintro r w2 ⟨rfl, hb2⟩
      have H2 := Lib.hid (H1.out.next hb2)
      clear hb2
      obtain ⟨⟨x0, x1⟩, y0, y1⟩ := bk2 H2.out.b2
      go_wp2_with fail
      exact bodyPost_ret (v := .tuple #[.agg #[.int .i64 0, .int .i64 0], .int .i64 1]) (by simp [results, Tryd.results17, go_sem, x0, x1]) rfl ⟨rfl, (H2.out.below.setCell (by simp; omega) _).setCell (by simp; omega) _⟩
    | true =>
      have hs : addR n d m e = mkR (n * e + m * d) (d * e) := by unfold addR; rw [hv1, hv2]; rfl
      obtain ⟨a1, a2, a3, a4, _⟩ := vldB_true.1 hv1
      obtain ⟨c1, c2, c3, c4, _⟩ := vldB_true.1 hv2
      obtain ⟨p1, p2⟩ := mul_bd n e a3 a4 (by omega) c2
      obtain ⟨q1, q2⟩ := mul_bd m d c3 c4 (by omega) a2
      obtain ⟨r1, r2⟩ := mul_bd d e (by omega) a2 (by omega) c2
      obtain ⟨s1, s2⟩ := mul_bd n m a3 a4 c3 c4
      obtain ⟨t1, t2⟩ := mul_bd d m (by omega) a2 c3 c4
      rw [hs]
      obtain ⟨x, y, z, hr⟩ : ∃ x y z, mkR (n * e + m * d) (d * e) = (x, y, z) := ⟨_, _, _, rfl⟩
      rw [hr]
      have hmk := fun W => Make_is (n * e + m * d) (d * e) x y z (by omega) (by omega) (by omega) (by omega) W hr
      have HM := Lib.hid hmk
      unfold frR
      have hc := fun W => Valid_ok n d W hv1
      have HV := Lib.hid hc
      have hc2 := fun W => Valid_ok m e W hv2
      have HV2 := Lib.hid hc2
      clear hs hv1 hc hv2 hc2 hr hmk
      go_enter Tryd.func17, Tryd.ntmps17
      go_wp2_with fail
      refine (HV.out _).mono ?_
      rintro r w1 ⟨rfl, hb1⟩
      have H1 := Lib.hid (H0.out.next hb1)
      clear hb1
      obtain ⟨⟨x0, x1⟩, _⟩ := bk2 H1.out.b1
      go_wp2_with fail
      clear x0 x1
      refine (HV2.out _).mono ?_
      rintro r w2 ⟨rfl, hb2⟩
      have H2 := Lib.hid (H1.out.next hb2)
      clear hb2
      obtain ⟨⟨x0, x1⟩, _⟩ := bk2 H2.out.b0
      obtain ⟨⟨z0, z1⟩, _⟩ := bk2 H2.out.b1
      go_wp2_with fail
      clear x0 x1 z0 z1
      refine (HM.out _).mono ?_
      rintro r w3 ⟨rfl, hb3⟩
      have H3 := Lib.hid (H2.out.next hb3)
      clear hb3
      obtain ⟨⟨x0, x1⟩, y0, y1⟩ := bk2 H3.out.b2
      go_wp2_with fail
      exact bodyPost_ret (v := .tuple #[.agg #[.int .i64 x, .int .i64 y], .int .i64 z]) (by simp [results, Tryd.results17, go_sem, x0, x1]) rfl ⟨rfl, (H3.out.below.setCell (by simp; omega) _).setCell (by simp; omega) _⟩

set_option maxHeartbeats 4000000 in
theorem Sub_any (n d m e : Int) (w : World) : Calls Tryd.prog 18 #[.agg #[.int .i64 n, .int .i64 d], .agg #[.int .i64 m, .int .i64 e]] w fun r w' => r = .returned (frR (subR n d m e)) ∧ Below w.heap.size w w' := by
  have H0 := Lib.hid (Fr2.start w n d m e)
  cases hv1 : vldB n d with
  | false =>
    have hs : subR n d m e = (0, 0, 1) := by unfold subR; rw [hv1]; rfl
    rw [hs]
    unfold frR
    have hc := fun W => Valid_no n d W hv1
    have HV := Lib.hid hc
    clear hs hv1 hc
    go_enter Tryd.func18, Tryd.ntmps18
    go_wp2_with fail
    refine (HV.out _).mono ?_
    rintro r w1 ⟨rfl, hb1⟩
    have H1 := Lib.hid (H0.out.next hb1)
    clear hb1
    obtain ⟨⟨x0, x1⟩, y0, y1⟩ := bk2 H1.out.b2
    go_wp2_with fail
    exact bodyPost_ret (v := .tuple #[.agg #[.int .i64 0, .int .i64 0], .int .i64 1]) (by simp [results, Tryd.results18, go_sem, x0, x1]) rfl ⟨rfl, (H1.out.below.setCell (by simp; omega) _).setCell (by simp; omega) _⟩
  | true =>
    cases hv2 : vldB m e with
    | false =>
      have hs : subR n d m e = (0, 0, 1) := by unfold subR; rw [hv1, hv2]; rfl
      rw [hs]
      unfold frR
      have hc := fun W => Valid_ok n d W hv1
      have HV := Lib.hid hc
      have hc2 := fun W => Valid_no m e W hv2
      have HV2 := Lib.hid hc2
      clear hs hv1 hc hv2 hc2
      go_enter Tryd.func18, Tryd.ntmps18
      go_wp2_with fail
      refine (HV.out _).mono ?_
      rintro r w1 ⟨rfl, hb1⟩
      have H1 := Lib.hid (H0.out.next hb1)
      clear hb1
      obtain ⟨⟨x0, x1⟩, _⟩ := bk2 H1.out.b1
      go_wp2_with fail
      clear x0 x1
      refine (HV2.out _).mono ?_
      rintro r w2 ⟨rfl, hb2⟩
      have H2 := Lib.hid (H1.out.next hb2)
      clear hb2
      obtain ⟨⟨x0, x1⟩, y0, y1⟩ := bk2 H2.out.b2
      go_wp2_with fail
      exact bodyPost_ret (v := .tuple #[.agg #[.int .i64 0, .int .i64 0], .int .i64 1]) (by simp [results, Tryd.results18, go_sem, x0, x1]) rfl ⟨rfl, (H2.out.below.setCell (by simp; omega) _).setCell (by simp; omega) _⟩
    | true =>
      have hs : subR n d m e = mkR (n * e - m * d) (d * e) := by unfold subR; rw [hv1, hv2]; rfl
      obtain ⟨a1, a2, a3, a4, _⟩ := vldB_true.1 hv1
      obtain ⟨c1, c2, c3, c4, _⟩ := vldB_true.1 hv2
      obtain ⟨p1, p2⟩ := mul_bd n e a3 a4 (by omega) c2
      obtain ⟨q1, q2⟩ := mul_bd m d c3 c4 (by omega) a2
      obtain ⟨r1, r2⟩ := mul_bd d e (by omega) a2 (by omega) c2
      obtain ⟨s1, s2⟩ := mul_bd n m a3 a4 c3 c4
      obtain ⟨t1, t2⟩ := mul_bd d m (by omega) a2 c3 c4
      rw [hs]
      obtain ⟨x, y, z, hr⟩ : ∃ x y z, mkR (n * e - m * d) (d * e) = (x, y, z) := ⟨_, _, _, rfl⟩
      rw [hr]
      have hmk := fun W => Make_is (n * e - m * d) (d * e) x y z (by omega) (by omega) (by omega) (by omega) W hr
      have HM := Lib.hid hmk
      unfold frR
      have hc := fun W => Valid_ok n d W hv1
      have HV := Lib.hid hc
      have hc2 := fun W => Valid_ok m e W hv2
      have HV2 := Lib.hid hc2
      clear hs hv1 hc hv2 hc2 hr hmk
      go_enter Tryd.func18, Tryd.ntmps18
      go_wp2_with fail
      refine (HV.out _).mono ?_
      rintro r w1 ⟨rfl, hb1⟩
      have H1 := Lib.hid (H0.out.next hb1)
      clear hb1
      obtain ⟨⟨x0, x1⟩, _⟩ := bk2 H1.out.b1
      go_wp2_with fail
      clear x0 x1
      refine (HV2.out _).mono ?_
      rintro r w2 ⟨rfl, hb2⟩
      have H2 := Lib.hid (H1.out.next hb2)
      clear hb2
      obtain ⟨⟨x0, x1⟩, _⟩ := bk2 H2.out.b0
      obtain ⟨⟨z0, z1⟩, _⟩ := bk2 H2.out.b1
      go_wp2_with fail
      clear x0 x1 z0 z1
      refine (HM.out _).mono ?_
      rintro r w3 ⟨rfl, hb3⟩
      have H3 := Lib.hid (H2.out.next hb3)
      clear hb3
      obtain ⟨⟨x0, x1⟩, y0, y1⟩ := bk2 H3.out.b2
      go_wp2_with fail
      exact bodyPost_ret (v := .tuple #[.agg #[.int .i64 x, .int .i64 y], .int .i64 z]) (by simp [results, Tryd.results18, go_sem, x0, x1]) rfl ⟨rfl, (H3.out.below.setCell (by simp; omega) _).setCell (by simp; omega) _⟩

set_option maxHeartbeats 4000000 in
theorem Mul_any (n d m e : Int) (w : World) : Calls Tryd.prog 19 #[.agg #[.int .i64 n, .int .i64 d], .agg #[.int .i64 m, .int .i64 e]] w fun r w' => r = .returned (frR (mulR n d m e)) ∧ Below w.heap.size w w' := by
  have H0 := Lib.hid (Fr2.start w n d m e)
  cases hv1 : vldB n d with
  | false =>
    have hs : mulR n d m e = (0, 0, 1) := by unfold mulR; rw [hv1]; rfl
    rw [hs]
    unfold frR
    have hc := fun W => Valid_no n d W hv1
    have HV := Lib.hid hc
    clear hs hv1 hc
    go_enter Tryd.func19, Tryd.ntmps19
    go_wp2_with fail
    refine (HV.out _).mono ?_
    rintro r w1 ⟨rfl, hb1⟩
    have H1 := Lib.hid (H0.out.next hb1)
    clear hb1
    obtain ⟨⟨x0, x1⟩, y0, y1⟩ := bk2 H1.out.b2
    go_wp2_with fail
    exact bodyPost_ret (v := .tuple #[.agg #[.int .i64 0, .int .i64 0], .int .i64 1]) (by simp [results, Tryd.results19, go_sem, x0, x1]) rfl ⟨rfl, (H1.out.below.setCell (by simp; omega) _).setCell (by simp; omega) _⟩
  | true =>
    cases hv2 : vldB m e with
    | false =>
      have hs : mulR n d m e = (0, 0, 1) := by unfold mulR; rw [hv1, hv2]; rfl
      rw [hs]
      unfold frR
      have hc := fun W => Valid_ok n d W hv1
      have HV := Lib.hid hc
      have hc2 := fun W => Valid_no m e W hv2
      have HV2 := Lib.hid hc2
      clear hs hv1 hc hv2 hc2
      go_enter Tryd.func19, Tryd.ntmps19
      go_wp2_with fail
      refine (HV.out _).mono ?_
      rintro r w1 ⟨rfl, hb1⟩
      have H1 := Lib.hid (H0.out.next hb1)
      clear hb1
      obtain ⟨⟨x0, x1⟩, _⟩ := bk2 H1.out.b1
      go_wp2_with fail
      clear x0 x1
      refine (HV2.out _).mono ?_
      rintro r w2 ⟨rfl, hb2⟩
      have H2 := Lib.hid (H1.out.next hb2)
      clear hb2
      obtain ⟨⟨x0, x1⟩, y0, y1⟩ := bk2 H2.out.b2
      go_wp2_with fail
      exact bodyPost_ret (v := .tuple #[.agg #[.int .i64 0, .int .i64 0], .int .i64 1]) (by simp [results, Tryd.results19, go_sem, x0, x1]) rfl ⟨rfl, (H2.out.below.setCell (by simp; omega) _).setCell (by simp; omega) _⟩
    | true =>
      have hs : mulR n d m e = mkR (n * m) (d * e) := by unfold mulR; rw [hv1, hv2]; rfl
      obtain ⟨a1, a2, a3, a4, _⟩ := vldB_true.1 hv1
      obtain ⟨c1, c2, c3, c4, _⟩ := vldB_true.1 hv2
      obtain ⟨p1, p2⟩ := mul_bd n e a3 a4 (by omega) c2
      obtain ⟨q1, q2⟩ := mul_bd m d c3 c4 (by omega) a2
      obtain ⟨r1, r2⟩ := mul_bd d e (by omega) a2 (by omega) c2
      obtain ⟨s1, s2⟩ := mul_bd n m a3 a4 c3 c4
      obtain ⟨t1, t2⟩ := mul_bd d m (by omega) a2 c3 c4
      rw [hs]
      obtain ⟨x, y, z, hr⟩ : ∃ x y z, mkR (n * m) (d * e) = (x, y, z) := ⟨_, _, _, rfl⟩
      rw [hr]
      have hmk := fun W => Make_is (n * m) (d * e) x y z (by omega) (by omega) (by omega) (by omega) W hr
      have HM := Lib.hid hmk
      unfold frR
      have hc := fun W => Valid_ok n d W hv1
      have HV := Lib.hid hc
      have hc2 := fun W => Valid_ok m e W hv2
      have HV2 := Lib.hid hc2
      clear hs hv1 hc hv2 hc2 hr hmk
      go_enter Tryd.func19, Tryd.ntmps19
      go_wp2_with fail
      refine (HV.out _).mono ?_
      rintro r w1 ⟨rfl, hb1⟩
      have H1 := Lib.hid (H0.out.next hb1)
      clear hb1
      obtain ⟨⟨x0, x1⟩, _⟩ := bk2 H1.out.b1
      go_wp2_with fail
      clear x0 x1
      refine (HV2.out _).mono ?_
      rintro r w2 ⟨rfl, hb2⟩
      have H2 := Lib.hid (H1.out.next hb2)
      clear hb2
      obtain ⟨⟨x0, x1⟩, _⟩ := bk2 H2.out.b0
      obtain ⟨⟨z0, z1⟩, _⟩ := bk2 H2.out.b1
      go_wp2_with fail
      clear x0 x1 z0 z1
      refine (HM.out _).mono ?_
      rintro r w3 ⟨rfl, hb3⟩
      have H3 := Lib.hid (H2.out.next hb3)
      clear hb3
      obtain ⟨⟨x0, x1⟩, y0, y1⟩ := bk2 H3.out.b2
      go_wp2_with fail
      exact bodyPost_ret (v := .tuple #[.agg #[.int .i64 x, .int .i64 y], .int .i64 z]) (by simp [results, Tryd.results19, go_sem, x0, x1]) rfl ⟨rfl, (H3.out.below.setCell (by simp; omega) _).setCell (by simp; omega) _⟩

set_option maxHeartbeats 4000000 in
theorem Div_any (n d m e : Int) (w : World) : Calls Tryd.prog 20 #[.agg #[.int .i64 n, .int .i64 d], .agg #[.int .i64 m, .int .i64 e]] w fun r w' => r = .returned (frR (divR n d m e)) ∧ Below w.heap.size w w' := by
  have H0 := Lib.hid (Fr2.start w n d m e)
  cases hv1 : vldB n d with
  | false =>
    have hs : divR n d m e = (0, 0, 1) := by unfold divR; rw [hv1]; rfl
    rw [hs]
    unfold frR
    have hc := fun W => Valid_no n d W hv1
    have HV := Lib.hid hc
    clear hs hv1 hc
    go_enter Tryd.func20, Tryd.ntmps20
    go_wp2_with fail
    refine (HV.out _).mono ?_
    rintro r w1 ⟨rfl, hb1⟩
    have H1 := Lib.hid (H0.out.next hb1)
    clear hb1
    obtain ⟨⟨x0, x1⟩, y0, y1⟩ := bk2 H1.out.b2
    go_wp2_with fail
    exact bodyPost_ret (v := .tuple #[.agg #[.int .i64 0, .int .i64 0], .int .i64 1]) (by simp [results, Tryd.results20, go_sem, x0, x1]) rfl ⟨rfl, (H1.out.below.setCell (by simp; omega) _).setCell (by simp; omega) _⟩
  | true =>
    cases hv2 : vldB m e with
    | false =>
      have hs : divR n d m e = (0, 0, 1) := by unfold divR; rw [hv1, hv2]; rfl
      rw [hs]
      unfold frR
      have hc := fun W => Valid_ok n d W hv1
      have HV := Lib.hid hc
      have hc2 := fun W => Valid_no m e W hv2
      have HV2 := Lib.hid hc2
      clear hs hv1 hc hv2 hc2
      go_enter Tryd.func20, Tryd.ntmps20
      go_wp2_with fail
      refine (HV.out _).mono ?_
      rintro r w1 ⟨rfl, hb1⟩
      have H1 := Lib.hid (H0.out.next hb1)
      clear hb1
      obtain ⟨⟨x0, x1⟩, _⟩ := bk2 H1.out.b1
      go_wp2_with fail
      clear x0 x1
      refine (HV2.out _).mono ?_
      rintro r w2 ⟨rfl, hb2⟩
      have H2 := Lib.hid (H1.out.next hb2)
      clear hb2
      obtain ⟨⟨x0, x1⟩, y0, y1⟩ := bk2 H2.out.b2
      go_wp2_with fail
      exact bodyPost_ret (v := .tuple #[.agg #[.int .i64 0, .int .i64 0], .int .i64 1]) (by simp [results, Tryd.results20, go_sem, x0, x1]) rfl ⟨rfl, (H2.out.below.setCell (by simp; omega) _).setCell (by simp; omega) _⟩
    | true =>
      have hs : divR n d m e = mkR (n * e) (d * m) := by unfold divR; rw [hv1, hv2]; rfl
      obtain ⟨a1, a2, a3, a4, _⟩ := vldB_true.1 hv1
      obtain ⟨c1, c2, c3, c4, _⟩ := vldB_true.1 hv2
      obtain ⟨p1, p2⟩ := mul_bd n e a3 a4 (by omega) c2
      obtain ⟨q1, q2⟩ := mul_bd m d c3 c4 (by omega) a2
      obtain ⟨r1, r2⟩ := mul_bd d e (by omega) a2 (by omega) c2
      obtain ⟨s1, s2⟩ := mul_bd n m a3 a4 c3 c4
      obtain ⟨t1, t2⟩ := mul_bd d m (by omega) a2 c3 c4
      rw [hs]
      obtain ⟨x, y, z, hr⟩ : ∃ x y z, mkR (n * e) (d * m) = (x, y, z) := ⟨_, _, _, rfl⟩
      rw [hr]
      have hmk := fun W => Make_is (n * e) (d * m) x y z (by omega) (by omega) (by omega) (by omega) W hr
      have HM := Lib.hid hmk
      unfold frR
      have hc := fun W => Valid_ok n d W hv1
      have HV := Lib.hid hc
      have hc2 := fun W => Valid_ok m e W hv2
      have HV2 := Lib.hid hc2
      clear hs hv1 hc hv2 hc2 hr hmk
      go_enter Tryd.func20, Tryd.ntmps20
      go_wp2_with fail
      refine (HV.out _).mono ?_
      rintro r w1 ⟨rfl, hb1⟩
      have H1 := Lib.hid (H0.out.next hb1)
      clear hb1
      obtain ⟨⟨x0, x1⟩, _⟩ := bk2 H1.out.b1
      go_wp2_with fail
      clear x0 x1
      refine (HV2.out _).mono ?_
      rintro r w2 ⟨rfl, hb2⟩
      have H2 := Lib.hid (H1.out.next hb2)
      clear hb2
      obtain ⟨⟨x0, x1⟩, _⟩ := bk2 H2.out.b0
      obtain ⟨⟨z0, z1⟩, _⟩ := bk2 H2.out.b1
      go_wp2_with fail
      clear x0 x1 z0 z1
      refine (HM.out _).mono ?_
      rintro r w3 ⟨rfl, hb3⟩
      have H3 := Lib.hid (H2.out.next hb3)
      clear hb3
      obtain ⟨⟨x0, x1⟩, y0, y1⟩ := bk2 H3.out.b2
      go_wp2_with fail
      exact bodyPost_ret (v := .tuple #[.agg #[.int .i64 x, .int .i64 y], .int .i64 z]) (by simp [results, Tryd.results20, go_sem, x0, x1]) rfl ⟨rfl, (H3.out.below.setCell (by simp; omega) _).setCell (by simp; omega) _⟩
end Go.Proofs.YtmebdieflllgcaaDoor
