/- RatioOps: the law's walk. -/
import Derived.Test.YtmebdieflllgcaaDoorRatW
import Derived.Test.YtmebdieflllgcaaDoorHeld
namespace Go.Proofs.YtmebdieflllgcaaDoor
open Go.RowKit
set_option maxRecDepth 100000
theorem Add_is (n d m e x y z : Int) (w : World) (h : addR n d m e = (x, y, z)) : Calls Tryd.prog 17 #[.agg #[.int .i64 n, .int .i64 d], .agg #[.int .i64 m, .int .i64 e]] w fun r w' => r = .returned (.tuple #[.agg #[.int .i64 x, .int .i64 y], .int .i64 z]) ∧ Below w.heap.size w w' := by
  have := Add_any n d m e w
  rw [h] at this
  exact this
theorem Sub_is (n d m e x y z : Int) (w : World) (h : subR n d m e = (x, y, z)) : Calls Tryd.prog 18 #[.agg #[.int .i64 n, .int .i64 d], .agg #[.int .i64 m, .int .i64 e]] w fun r w' => r = .returned (.tuple #[.agg #[.int .i64 x, .int .i64 y], .int .i64 z]) ∧ Below w.heap.size w w' := by
  have := Sub_any n d m e w
  rw [h] at this
  exact this
theorem Mul_is (n d m e x y z : Int) (w : World) (h : mulR n d m e = (x, y, z)) : Calls Tryd.prog 19 #[.agg #[.int .i64 n, .int .i64 d], .agg #[.int .i64 m, .int .i64 e]] w fun r w' => r = .returned (.tuple #[.agg #[.int .i64 x, .int .i64 y], .int .i64 z]) ∧ Below w.heap.size w w' := by
  have := Mul_any n d m e w
  rw [h] at this
  exact this
theorem Div_is (n d m e x y z : Int) (w : World) (h : divR n d m e = (x, y, z)) : Calls Tryd.prog 20 #[.agg #[.int .i64 n, .int .i64 d], .agg #[.int .i64 m, .int .i64 e]] w fun r w' => r = .returned (.tuple #[.agg #[.int .i64 x, .int .i64 y], .int .i64 z]) ∧ Below w.heap.size w w' := by
  have := Div_any n d m e w
  rw [h] at this
  exact this
theorem refAdd_is (n d m e x y z : Int) (w : World) (h : addR n d m e = (x, y, z)) : Calls Tryd.prog 21 #[.agg #[.int .i64 n, .int .i64 d], .agg #[.int .i64 m, .int .i64 e]] w fun r w' => r = .returned (.tuple #[.agg #[.int .i64 x, .int .i64 y], .int .i64 z]) ∧ Below w.heap.size w w' := by
  have := refAdd_any n d m e w
  rw [h] at this
  exact this
theorem refSub_is (n d m e x y z : Int) (w : World) (h : subR n d m e = (x, y, z)) : Calls Tryd.prog 22 #[.agg #[.int .i64 n, .int .i64 d], .agg #[.int .i64 m, .int .i64 e]] w fun r w' => r = .returned (.tuple #[.agg #[.int .i64 x, .int .i64 y], .int .i64 z]) ∧ Below w.heap.size w w' := by
  have := refSub_any n d m e w
  rw [h] at this
  exact this
theorem refMul_is (n d m e x y z : Int) (w : World) (h : mulR n d m e = (x, y, z)) : Calls Tryd.prog 23 #[.agg #[.int .i64 n, .int .i64 d], .agg #[.int .i64 m, .int .i64 e]] w fun r w' => r = .returned (.tuple #[.agg #[.int .i64 x, .int .i64 y], .int .i64 z]) ∧ Below w.heap.size w w' := by
  have := refMul_any n d m e w
  rw [h] at this
  exact this
theorem refDiv_is (n d m e x y z : Int) (w : World) (h : divR n d m e = (x, y, z)) : Calls Tryd.prog 24 #[.agg #[.int .i64 n, .int .i64 d], .agg #[.int .i64 m, .int .i64 e]] w fun r w' => r = .returned (.tuple #[.agg #[.int .i64 x, .int .i64 y], .int .i64 z]) ∧ Below w.heap.size w w' := by
  have := refDiv_any n d m e w
  rw [h] at this
  exact this

set_option maxHeartbeats 8000000 in
theorem ratioOps_any (n d m e : Int) (w : World) (hp : Pw w) : Calls Tryd.prog 4 #[.agg #[.int .i64 n, .int .i64 d], .agg #[.int .i64 m, .int .i64 e]] w fun r w' => r = .returned (.bool true) ∧ Below w.heap.size w w' := by
  obtain ⟨x1, y1, z1, hr1⟩ : ∃ x y z, addR n d m e = (x, y, z) := ⟨_, _, _, rfl⟩
  obtain ⟨x2, y2, z2, hr2⟩ : ∃ x y z, subR n d m e = (x, y, z) := ⟨_, _, _, rfl⟩
  obtain ⟨x3, y3, z3, hr3⟩ : ∃ x y z, mulR n d m e = (x, y, z) := ⟨_, _, _, rfl⟩
  obtain ⟨x4, y4, z4, hr4⟩ : ∃ x y z, divR n d m e = (x, y, z) := ⟨_, _, _, rfl⟩
  have hc0 := fun W => Add_is n d m e x1 y1 z1 W hr1
  have C0 := Lib.hid hc0
  have hc1 := fun W => Sub_is n d m e x2 y2 z2 W hr2
  have C1 := Lib.hid hc1
  have hc2 := fun W => Mul_is n d m e x3 y3 z3 W hr3
  have C2 := Lib.hid hc2
  have hc3 := fun W => Div_is n d m e x4 y4 z4 W hr4
  have C3 := Lib.hid hc3
  have hc4 := fun W => refAdd_is n d m e x1 y1 z1 W hr1
  have C4 := Lib.hid hc4
  have hc5 := fun W => refSub_is n d m e x2 y2 z2 W hr2
  have C5 := Lib.hid hc5
  have hc6 := fun W => refMul_is n d m e x3 y3 z3 W hr3
  have C6 := Lib.hid hc6
  have hc7 := fun W => refDiv_is n d m e x4 y4 z4 W hr4
  have C7 := Lib.hid hc7
  clear hc0 hc1 hc2 hc3 hc4 hc5 hc6 hc7 hr1 hr2 hr3 hr4
  have HP := Lib.hid (hp.on (((Hd.nil w).add (.cells #[.int .i64 n, .int .i64 d] 24)).add (.cells #[.int .i64 m, .int .i64 e] 24)).below)
  have H0 := Lib.hid (((Hd.nil w).add (.cells #[.int .i64 n, .int .i64 d] 24)).add (.cells #[.int .i64 m, .int .i64 e] 24))
  simp only [World.size_alloc] at H0
  clear hp
  go_enter Tryd.func4, Tryd.ntmps4
  go_wp2_with fail
  refine (awake04_any _ HP.out).mono ?_
  rintro r w0 ⟨rfl, hb⟩
  have G0 := Lib.hid (H0.out.on hb)
  clear hb
  obtain ⟨⟨a0, a1⟩, _⟩ := bk2 G0.out.tl.h0
  have la := bdLt G0.out.tl.h0
  obtain ⟨⟨b0, b1⟩, _⟩ := bk2 G0.out.h0
  have lb := bdLt G0.out.h0
  go_wp2_with fail
  clear a0 a1 b0 b1 la lb
  refine (C0.out _).mono ?_
  rintro r w1 ⟨rfl, hb⟩
  have K0 := Lib.hid (G0.out.on hb)
  have G1 := Lib.hid (K0.out.add (.cells #[.int .i64 x1, .int .i64 y1] 24))
  clear hb
  obtain ⟨⟨a0, a1⟩, _⟩ := bk2 K0.out.tl.h0
  have la := bdLt K0.out.tl.h0
  obtain ⟨⟨b0, b1⟩, _⟩ := bk2 K0.out.h0
  have lb := bdLt K0.out.h0
  go_wp2_with fail
  clear a0 a1 b0 b1 la lb
  refine (C1.out _).mono ?_
  rintro r w2 ⟨rfl, hb⟩
  have K1 := Lib.hid (G1.out.on hb)
  have G2 := Lib.hid (K1.out.add (.cells #[.int .i64 x2, .int .i64 y2] 24))
  clear hb
  obtain ⟨⟨a0, a1⟩, _⟩ := bk2 K1.out.tl.tl.h0
  have la := bdLt K1.out.tl.tl.h0
  obtain ⟨⟨b0, b1⟩, _⟩ := bk2 K1.out.tl.h0
  have lb := bdLt K1.out.tl.h0
  go_wp2_with fail
  clear a0 a1 b0 b1 la lb
  refine (C2.out _).mono ?_
  rintro r w3 ⟨rfl, hb⟩
  have K2 := Lib.hid (G2.out.on hb)
  have G3 := Lib.hid (K2.out.add (.cells #[.int .i64 x3, .int .i64 y3] 24))
  clear hb
  obtain ⟨⟨a0, a1⟩, _⟩ := bk2 K2.out.tl.tl.tl.h0
  have la := bdLt K2.out.tl.tl.tl.h0
  obtain ⟨⟨b0, b1⟩, _⟩ := bk2 K2.out.tl.tl.h0
  have lb := bdLt K2.out.tl.tl.h0
  go_wp2_with fail
  clear a0 a1 b0 b1 la lb
  refine (C3.out _).mono ?_
  rintro r w4 ⟨rfl, hb⟩
  have K3 := Lib.hid (G3.out.on hb)
  have G4 := Lib.hid (K3.out.add (.cells #[.int .i64 x4, .int .i64 y4] 24))
  clear hb
  obtain ⟨⟨a0, a1⟩, _⟩ := bk2 K3.out.tl.tl.tl.tl.h0
  have la := bdLt K3.out.tl.tl.tl.tl.h0
  obtain ⟨⟨b0, b1⟩, _⟩ := bk2 K3.out.tl.tl.tl.h0
  have lb := bdLt K3.out.tl.tl.tl.h0
  go_wp2_with fail
  clear a0 a1 b0 b1 la lb
  refine (C4.out _).mono ?_
  rintro r w5 ⟨rfl, hb⟩
  have K4 := Lib.hid (G4.out.on hb)
  have G5 := Lib.hid (K4.out.add (.cells #[.int .i64 x1, .int .i64 y1] 24))
  clear hb
  obtain ⟨⟨a0, a1⟩, _⟩ := bk2 K4.out.tl.tl.tl.tl.tl.h0
  have la := bdLt K4.out.tl.tl.tl.tl.tl.h0
  obtain ⟨⟨b0, b1⟩, _⟩ := bk2 K4.out.tl.tl.tl.tl.h0
  have lb := bdLt K4.out.tl.tl.tl.tl.h0
  go_wp2_with fail
  clear a0 a1 b0 b1 la lb
  refine (C5.out _).mono ?_
  rintro r w6 ⟨rfl, hb⟩
  have K5 := Lib.hid (G5.out.on hb)
  have G6 := Lib.hid (K5.out.add (.cells #[.int .i64 x2, .int .i64 y2] 24))
  clear hb
  obtain ⟨⟨a0, a1⟩, _⟩ := bk2 K5.out.tl.tl.tl.tl.tl.tl.h0
  have la := bdLt K5.out.tl.tl.tl.tl.tl.tl.h0
  obtain ⟨⟨b0, b1⟩, _⟩ := bk2 K5.out.tl.tl.tl.tl.tl.h0
  have lb := bdLt K5.out.tl.tl.tl.tl.tl.h0
  go_wp2_with fail
  clear a0 a1 b0 b1 la lb
  refine (C6.out _).mono ?_
  rintro r w7 ⟨rfl, hb⟩
  have K6 := Lib.hid (G6.out.on hb)
  have G7 := Lib.hid (K6.out.add (.cells #[.int .i64 x3, .int .i64 y3] 24))
  clear hb
  obtain ⟨⟨a0, a1⟩, _⟩ := bk2 K6.out.tl.tl.tl.tl.tl.tl.tl.h0
  have la := bdLt K6.out.tl.tl.tl.tl.tl.tl.tl.h0
  obtain ⟨⟨b0, b1⟩, _⟩ := bk2 K6.out.tl.tl.tl.tl.tl.tl.h0
  have lb := bdLt K6.out.tl.tl.tl.tl.tl.tl.h0
  go_wp2_with fail
  clear a0 a1 b0 b1 la lb
  refine (C7.out _).mono ?_
  rintro r w8 ⟨rfl, hb⟩
  have K7 := Lib.hid (G7.out.on hb)
  have G8 := Lib.hid (K7.out.add (.cells #[.int .i64 x4, .int .i64 y4] 24))
  clear hb
  obtain ⟨⟨c00, c01⟩, _⟩ := bk2 K7.out.h0
  have lc0 := bdLt K7.out.h0
  obtain ⟨⟨c10, c11⟩, _⟩ := bk2 K7.out.tl.h0
  have lc1 := bdLt K7.out.tl.h0
  obtain ⟨⟨c20, c21⟩, _⟩ := bk2 K7.out.tl.tl.h0
  have lc2 := bdLt K7.out.tl.tl.h0
  obtain ⟨⟨c30, c31⟩, _⟩ := bk2 K7.out.tl.tl.tl.h0
  have lc3 := bdLt K7.out.tl.tl.tl.h0
  obtain ⟨⟨c40, c41⟩, _⟩ := bk2 K7.out.tl.tl.tl.tl.h0
  have lc4 := bdLt K7.out.tl.tl.tl.tl.h0
  obtain ⟨⟨c50, c51⟩, _⟩ := bk2 K7.out.tl.tl.tl.tl.tl.h0
  have lc5 := bdLt K7.out.tl.tl.tl.tl.tl.h0
  obtain ⟨⟨c60, c61⟩, _⟩ := bk2 K7.out.tl.tl.tl.tl.tl.tl.h0
  have lc6 := bdLt K7.out.tl.tl.tl.tl.tl.tl.h0
  go_wp2_with fail
  go_ret
  exact ⟨rfl, G8.out.below⟩
end Go.Proofs.YtmebdieflllgcaaDoor
