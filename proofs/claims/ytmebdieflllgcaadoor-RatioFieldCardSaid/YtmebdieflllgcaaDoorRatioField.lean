/- RatioField: the law's walk: the field's laws. -/
import Derived.Test.YtmebdieflllgcaaDoorRatFieldW
namespace Go.Proofs.YtmebdieflllgcaaDoor
open Go.RowKit
set_option maxRecDepth 100000

set_option maxHeartbeats 8000000 in
theorem ratioField_no1 (n d m e k f : Int) (w : World) (hp : Pw w) (v1 : vldB n d = false) :
    Calls Tryd.prog 7 #[.agg #[.int .i64 n, .int .i64 d], .agg #[.int .i64 m, .int .i64 e], .agg #[.int .i64 k, .int .i64 f]] w fun r w' => r = .returned (.bool true) ∧ Below w.heap.size w w' := by
  have V1 := Lib.hid (fun W => refValid_no n d W v1)
  clear v1
  have HP := Lib.hid (hp.on ((((Hd.nil w).add (.cells #[.int .i64 n, .int .i64 d] 24)).add (.cells #[.int .i64 m, .int .i64 e] 24)).add (.cells #[.int .i64 k, .int .i64 f] 24)).below)
  have H0 := Lib.hid ((((Hd.nil w).add (.cells #[.int .i64 n, .int .i64 d] 24)).add (.cells #[.int .i64 m, .int .i64 e] 24)).add (.cells #[.int .i64 k, .int .i64 f] 24))
  simp only [World.size_alloc] at H0
  clear hp
  go_enter Tryd.func7, Tryd.ntmps7
  go_wp2_with fail
  refine (awake04_any _ HP.out).mono ?_
  rintro r w0 ⟨rfl, hb⟩
  have G0 := Lib.hid (H0.out.on hb)
  clear hb
  obtain ⟨⟨o0, o1⟩, _⟩ := bk2 G0.out.tl.tl.h0
  have lo := bdLt G0.out.tl.tl.h0
  obtain ⟨⟨p0, p1⟩, _⟩ := bk2 G0.out.tl.h0
  have lp := bdLt G0.out.tl.h0
  obtain ⟨⟨q0, q1⟩, _⟩ := bk2 G0.out.h0
  have lq := bdLt G0.out.h0
  go_wp2_with fail
  clear o0 o1 p0 p1 q0 q1 lo lp lq
  refine (V1.out _).mono ?_
  rintro r w1 ⟨rfl, hb⟩
  have G1 := Lib.hid (G0.out.on hb)
  clear hb
  go_wp2_with fail
  go_ret
  exact ⟨rfl, G1.out.below⟩

set_option maxHeartbeats 8000000 in
theorem ratioField_no2 (n d m e k f : Int) (w : World) (hp : Pw w) (v1 : vldB n d = true) (v2 : vldB m e = false) :
    Calls Tryd.prog 7 #[.agg #[.int .i64 n, .int .i64 d], .agg #[.int .i64 m, .int .i64 e], .agg #[.int .i64 k, .int .i64 f]] w fun r w' => r = .returned (.bool true) ∧ Below w.heap.size w w' := by
  have V1 := Lib.hid (fun W => refValid_ok n d W v1)
  have V2 := Lib.hid (fun W => refValid_no m e W v2)
  clear v1 v2
  have HP := Lib.hid (hp.on ((((Hd.nil w).add (.cells #[.int .i64 n, .int .i64 d] 24)).add (.cells #[.int .i64 m, .int .i64 e] 24)).add (.cells #[.int .i64 k, .int .i64 f] 24)).below)
  have H0 := Lib.hid ((((Hd.nil w).add (.cells #[.int .i64 n, .int .i64 d] 24)).add (.cells #[.int .i64 m, .int .i64 e] 24)).add (.cells #[.int .i64 k, .int .i64 f] 24))
  simp only [World.size_alloc] at H0
  clear hp
  go_enter Tryd.func7, Tryd.ntmps7
  go_wp2_with fail
  refine (awake04_any _ HP.out).mono ?_
  rintro r w0 ⟨rfl, hb⟩
  have G0 := Lib.hid (H0.out.on hb)
  clear hb
  obtain ⟨⟨o0, o1⟩, _⟩ := bk2 G0.out.tl.tl.h0
  have lo := bdLt G0.out.tl.tl.h0
  obtain ⟨⟨p0, p1⟩, _⟩ := bk2 G0.out.tl.h0
  have lp := bdLt G0.out.tl.h0
  obtain ⟨⟨q0, q1⟩, _⟩ := bk2 G0.out.h0
  have lq := bdLt G0.out.h0
  go_wp2_with fail
  clear o0 o1 p0 p1 q0 q1 lo lp lq
  refine (V1.out _).mono ?_
  rintro r w1 ⟨rfl, hb⟩
  have G1 := Lib.hid (G0.out.on hb)
  clear hb
  obtain ⟨⟨o0, o1⟩, _⟩ := bk2 G1.out.tl.tl.h0
  have lo := bdLt G1.out.tl.tl.h0
  obtain ⟨⟨p0, p1⟩, _⟩ := bk2 G1.out.tl.h0
  have lp := bdLt G1.out.tl.h0
  obtain ⟨⟨q0, q1⟩, _⟩ := bk2 G1.out.h0
  have lq := bdLt G1.out.h0
  go_wp2_with fail
  clear o0 o1 p0 p1 q0 q1 lo lp lq
  refine (V2.out _).mono ?_
  rintro r w2 ⟨rfl, hb⟩
  have G2 := Lib.hid (G1.out.on hb)
  clear hb
  go_wp2_with fail
  go_ret
  exact ⟨rfl, G2.out.below⟩

set_option maxHeartbeats 8000000 in
theorem ratioField_no3 (n d m e k f : Int) (w : World) (hp : Pw w) (v1 : vldB n d = true) (v2 : vldB m e = true) (v3 : vldB k f = false) :
    Calls Tryd.prog 7 #[.agg #[.int .i64 n, .int .i64 d], .agg #[.int .i64 m, .int .i64 e], .agg #[.int .i64 k, .int .i64 f]] w fun r w' => r = .returned (.bool true) ∧ Below w.heap.size w w' := by
  have V1 := Lib.hid (fun W => refValid_ok n d W v1)
  have V2 := Lib.hid (fun W => refValid_ok m e W v2)
  have V3 := Lib.hid (fun W => refValid_no k f W v3)
  clear v1 v2 v3
  have HP := Lib.hid (hp.on ((((Hd.nil w).add (.cells #[.int .i64 n, .int .i64 d] 24)).add (.cells #[.int .i64 m, .int .i64 e] 24)).add (.cells #[.int .i64 k, .int .i64 f] 24)).below)
  have H0 := Lib.hid ((((Hd.nil w).add (.cells #[.int .i64 n, .int .i64 d] 24)).add (.cells #[.int .i64 m, .int .i64 e] 24)).add (.cells #[.int .i64 k, .int .i64 f] 24))
  simp only [World.size_alloc] at H0
  clear hp
  go_enter Tryd.func7, Tryd.ntmps7
  go_wp2_with fail
  refine (awake04_any _ HP.out).mono ?_
  rintro r w0 ⟨rfl, hb⟩
  have G0 := Lib.hid (H0.out.on hb)
  clear hb
  obtain ⟨⟨o0, o1⟩, _⟩ := bk2 G0.out.tl.tl.h0
  have lo := bdLt G0.out.tl.tl.h0
  obtain ⟨⟨p0, p1⟩, _⟩ := bk2 G0.out.tl.h0
  have lp := bdLt G0.out.tl.h0
  obtain ⟨⟨q0, q1⟩, _⟩ := bk2 G0.out.h0
  have lq := bdLt G0.out.h0
  go_wp2_with fail
  clear o0 o1 p0 p1 q0 q1 lo lp lq
  refine (V1.out _).mono ?_
  rintro r w1 ⟨rfl, hb⟩
  have G1 := Lib.hid (G0.out.on hb)
  clear hb
  obtain ⟨⟨o0, o1⟩, _⟩ := bk2 G1.out.tl.tl.h0
  have lo := bdLt G1.out.tl.tl.h0
  obtain ⟨⟨p0, p1⟩, _⟩ := bk2 G1.out.tl.h0
  have lp := bdLt G1.out.tl.h0
  obtain ⟨⟨q0, q1⟩, _⟩ := bk2 G1.out.h0
  have lq := bdLt G1.out.h0
  go_wp2_with fail
  clear o0 o1 p0 p1 q0 q1 lo lp lq
  refine (V2.out _).mono ?_
  rintro r w2 ⟨rfl, hb⟩
  have G2 := Lib.hid (G1.out.on hb)
  clear hb
  obtain ⟨⟨o0, o1⟩, _⟩ := bk2 G2.out.tl.tl.h0
  have lo := bdLt G2.out.tl.tl.h0
  obtain ⟨⟨p0, p1⟩, _⟩ := bk2 G2.out.tl.h0
  have lp := bdLt G2.out.tl.h0
  obtain ⟨⟨q0, q1⟩, _⟩ := bk2 G2.out.h0
  have lq := bdLt G2.out.h0
  go_wp2_with fail
  clear o0 o1 p0 p1 q0 q1 lo lp lq
  refine (V3.out _).mono ?_
  rintro r w3 ⟨rfl, hb⟩
  have G3 := Lib.hid (G2.out.on hb)
  clear hb
  go_wp2_with fail
  go_ret
  exact ⟨rfl, G3.out.below⟩

theorem mkQ_val {q : Rat} {x y z : Int} (h : mkQ q = (x, y, z)) (hz : z = 0) : vF x y ∧ Rat.divInt x y = q := by
  rcases mkQ_or q with ⟨x', y', e1, v, hq⟩ | e1
  · rw [e1] at h
    injection h with h1 h2
    injection h2 with h2 h3
    subst h1 h2
    exact ⟨v, hq⟩
  · rw [e1] at h
    injection h with h1 h2
    injection h2 with h2 h3
    omega
theorem mkQ_self {n d : Int} (h : vF n d) : mkQ (Rat.divInt n d) = (n, d, 0) := by
  rw [← mkR_ne (by have := h.1; omega), mkR_valid h]
theorem pair2 {x y z x' y' z' : Int} (h : (x, y, z) = (x', y', z')) : x = x' ∧ y = y' := by
  injection h with h1 h2
  injection h2 with h2 h3
  exact ⟨h1, h2⟩
theorem ratioField_any (n d m e k f : Int) (w : World) (hp : Pw w) :
    Calls Tryd.prog 7 #[.agg #[.int .i64 n, .int .i64 d], .agg #[.int .i64 m, .int .i64 e], .agg #[.int .i64 k, .int .i64 f]] w fun r w' => r = .returned (.bool true) ∧ Below w.heap.size w w' := by
  cases v1 : vldB n d with
  | false => exact ratioField_no1 n d m e k f w hp v1
  | true =>
    cases v2 : vldB m e with
    | false => exact ratioField_no2 n d m e k f w hp v1 v2
    | true =>
      cases v3 : vldB k f with
      | false => exact ratioField_no3 n d m e k f w hp v1 v2 v3
      | true =>
        have ua := vldB_true.1 v1
        have ub := vldB_true.1 v2
        have uc := vldB_true.1 v3
        obtain ⟨p1, p2, p3, hp1⟩ : ∃ x y z, addR n d m e = (x, y, z) := ⟨_, _, _, rfl⟩
        have hp2 : addR m e n d = (p1, p2, p3) := by rw [← hp1, addR_q ua ub, addR_q ub ua, Rat.add_comm]
        obtain ⟨q1, q2, q3, hq⟩ : ∃ x y z, addR p1 p2 k f = (x, y, z) := ⟨_, _, _, rfl⟩
        obtain ⟨s1, s2, s3, hs⟩ : ∃ x y z, addR m e k f = (x, y, z) := ⟨_, _, _, rfl⟩
        obtain ⟨t1, t2, t3, ht⟩ : ∃ x y z, addR n d s1 s2 = (x, y, z) := ⟨_, _, _, rfl⟩
        obtain ⟨x1, x2, x3, hx1⟩ : ∃ x y z, mulR n d m e = (x, y, z) := ⟨_, _, _, rfl⟩
        have hx2 : mulR m e n d = (x1, x2, x3) := by rw [← hx1, mulR_q ua ub, mulR_q ub ua, Rat.mul_comm]
        obtain ⟨y1, y2, y3, hy⟩ : ∃ x y z, mulR x1 x2 k f = (x, y, z) := ⟨_, _, _, rfl⟩
        obtain ⟨o1, o2, o3, ho⟩ : ∃ x y z, mulR m e k f = (x, y, z) := ⟨_, _, _, rfl⟩
        obtain ⟨j1, j2, j3, hj⟩ : ∃ x y z, mulR n d o1 o2 = (x, y, z) := ⟨_, _, _, rfl⟩
        obtain ⟨u1, u2, u3, hu⟩ : ∃ x y z, mulR n d s1 s2 = (x, y, z) := ⟨_, _, _, rfl⟩
        obtain ⟨c1, c2, c3, hv⟩ : ∃ x y z, mulR n d k f = (x, y, z) := ⟨_, _, _, rfl⟩
        obtain ⟨z1, z2, z3, hz⟩ : ∃ x y z, addR x1 x2 c1 c2 = (x, y, z) := ⟨_, _, _, rfl⟩
        obtain ⟨g1, g2, g3, hg⟩ : ∃ x y z, subR n d m e = (x, y, z) := ⟨_, _, _, rfl⟩
        obtain ⟨h1, h2, h3, hh⟩ : ∃ x y z, addR g1 g2 m e = (x, y, z) := ⟨_, _, _, rfl⟩
        obtain ⟨i1, i2, i3, hi⟩ : ∃ x y z, divR n d m e = (x, y, z) := ⟨_, _, _, rfl⟩
        obtain ⟨l1, l2, l3, hl⟩ : ∃ x y z, mulR i1 i2 m e = (x, y, z) := ⟨_, _, _, rfl⟩
        refine ratioField_ok n d m e k f p1 p2 p3 q1 q2 q3 s1 s2 s3 t1 t2 t3 x1 x2 x3 y1 y2 y3 o1 o2 o3 j1 j2 j3 u1 u2 u3 c1 c2 c3 z1 z2 z3 g1 g2 g3 h1 h2 h3 i1 i2 i3 l1 l2 l3 w hp v1 v2 v3
          ⟨fun W => Add_is _ _ _ _ _ _ _ W hp1, fun W => Add_is _ _ _ _ _ _ _ W hp2, fun W => Add_is _ _ _ _ _ _ _ W hq, fun W => Add_is _ _ _ _ _ _ _ W hs, fun W => Add_is _ _ _ _ _ _ _ W ht,
           fun W => Mul_is _ _ _ _ _ _ _ W hx1, fun W => Mul_is _ _ _ _ _ _ _ W hx2, fun W => Mul_is _ _ _ _ _ _ _ W hy, fun W => Mul_is _ _ _ _ _ _ _ W ho, fun W => Mul_is _ _ _ _ _ _ _ W hj,
           fun W => Mul_is _ _ _ _ _ _ _ W hu, fun W => Mul_is _ _ _ _ _ _ _ W hv, fun W => Add_is _ _ _ _ _ _ _ W hz,
           fun W => Sub_is _ _ _ _ _ _ _ W hg, fun W => Add_is _ _ _ _ _ _ _ W hh, fun W => Div_is _ _ _ _ _ _ _ W hi, fun W => Mul_is _ _ _ _ _ _ _ W hl, ?_, ?_, ?_, ?_, ?_, ?_⟩
        · intro a1 _ a3 _
          obtain ⟨b1, b2⟩ := addR_val ua ub hp1 a1
          obtain ⟨b3, b4⟩ := addR_val ub uc hs a3
          refine pair2 (hq.symm.trans (Eq.trans ?_ ht))
          rw [addR_q b1 uc, addR_q ua b3, b2, b4, Rat.add_assoc]
        · intro a1 _ a3 _
          rw [mulR_q ua ub] at hx1
          rw [mulR_q ub uc] at ho
          obtain ⟨b1, b2⟩ := mkQ_val hx1 a1
          obtain ⟨b3, b4⟩ := mkQ_val ho a3
          refine pair2 (hy.symm.trans (Eq.trans ?_ hj))
          rw [mulR_q b1 uc, mulR_q ua b3, b2, b4, Rat.mul_assoc]
        · intro a1 _ a3 a4 _
          obtain ⟨b3, b4⟩ := addR_val ub uc hs a1
          rw [mulR_q ua ub] at hx1
          rw [mulR_q ua uc] at hv
          obtain ⟨b1, b2⟩ := mkQ_val hx1 a3
          obtain ⟨b5, b6⟩ := mkQ_val hv a4
          refine pair2 (hu.symm.trans (Eq.trans ?_ hz))
          rw [mulR_q ua b3, addR_q b1 b5, b2, b4, b6, Rat.mul_add]
        · intro a1
          rw [subR_q ua ub] at hg
          obtain ⟨b1, b2⟩ := mkQ_val hg a1
          rw [addR_q b1 ub, b2, Rat.sub_add_cancel, mkQ_self ua] at hh
          injection hh with c1 c2
          injection c2 with c2 c3
          exact ⟨c3.symm, c1.symm, c2.symm⟩
        · intro a1
          rw [divR_zero ua ub a1] at hi
          injection hi with c1 c2
          injection c2 with c2 c3
          exact c3.symm
        · intro a1 a2
          rw [divR_q ua ub a1] at hi
          obtain ⟨b1, b2⟩ := mkQ_val hi a2
          have hb0 : Rat.divInt m e ≠ 0 := fun h0 => a1 (by
            have := vF_num ub
            rw [h0] at this
            exact this.symm)
          rw [mulR_q b1 ub, b2, Rat.div_mul_cancel hb0, mkQ_self ua] at hl
          injection hl with c1 c2
          injection c2 with c2 c3
          exact ⟨c3.symm, c1.symm, c2.symm⟩
end Go.Proofs.YtmebdieflllgcaaDoor
