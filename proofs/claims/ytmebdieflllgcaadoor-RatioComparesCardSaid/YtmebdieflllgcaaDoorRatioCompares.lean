/- RatioCompares: the law's walk. -/
import Derived.Test.YtmebdieflllgcaaDoorRatW
import Derived.Test.YtmebdieflllgcaaDoorHeld
namespace Go.Proofs.YtmebdieflllgcaaDoor
open Go.RowKit
set_option maxRecDepth 100000

set_option maxHeartbeats 8000000 in
theorem ratioCompares_a (n d m e : Int) (w : World) (hp : Pw w) (hv1 : vldB n d = false) : Calls Tryd.prog 5 #[.agg #[.int .i64 n, .int .i64 d], .agg #[.int .i64 m, .int .i64 e]] w fun r w' => r = .returned (.bool true) ∧ Below w.heap.size w w' := by
  have ec : cmpF n d m e = (0, 1) := by unfold cmpF; rw [hv1]; rfl
  have ef : flF n d = (0, 1) := by unfold flF; rw [hv1]; rfl
  have eg : ceF n d = (0, 1) := by unfold ceF; rw [hv1]; rfl
  have h1 := fun W => Cmp_any n d m e W
  have h2 := fun W => Floor_any n d W
  have h3 := fun W => Ceil_any n d W
  rw [ec] at h1
  rw [ef] at h2
  rw [eg] at h3
  have C1 := Lib.hid h1
  have C2 := Lib.hid h2
  have C3 := Lib.hid h3
  have C4 := Lib.hid (fun W => refValid_no n d W hv1)
  clear h1 h2 h3 ec ef eg hv1
  have HP := Lib.hid (hp.on (((Hd.nil w).add (.cells #[.int .i64 n, .int .i64 d] 24)).add (.cells #[.int .i64 m, .int .i64 e] 24)).below)
  have H0 := Lib.hid (((Hd.nil w).add (.cells #[.int .i64 n, .int .i64 d] 24)).add (.cells #[.int .i64 m, .int .i64 e] 24))
  simp only [World.size_alloc] at H0
  clear hp
  go_enter Tryd.func5, Tryd.ntmps5
  go_wp2_with fail
  refine (awake04_any _ HP.out).mono ?_
  rintro r w0 ⟨rfl, hb⟩
  have G0 := Lib.hid (H0.out.on hb)
  clear hb
  obtain ⟨⟨a0, a1⟩, _⟩ := bk2 G0.out.tl.h0
  have la := bdLt G0.out.tl.h0
  obtain ⟨⟨b0, b1⟩, _⟩ := bk2 G0.out.h0
  have lb := bdLt G0.out.h0
  go_wp2_with fail
  clear a0 a1 b0 b1 la lb
  refine (C1.out _).mono ?_
  rintro r w1 ⟨rfl, hb⟩
  have G1 := Lib.hid (G0.out.on hb)
  clear hb
  obtain ⟨⟨a0, a1⟩, _⟩ := bk2 G1.out.tl.h0
  have la := bdLt G1.out.tl.h0
  obtain ⟨⟨b0, b1⟩, _⟩ := bk2 G1.out.h0
  have lb := bdLt G1.out.h0
  go_wp2_with fail
  clear a0 a1 b0 b1 la lb
  refine (C2.out _).mono ?_
  rintro r w2 ⟨rfl, hb⟩
  have G2 := Lib.hid (G1.out.on hb)
  clear hb
  obtain ⟨⟨a0, a1⟩, _⟩ := bk2 G2.out.tl.h0
  have la := bdLt G2.out.tl.h0
  obtain ⟨⟨b0, b1⟩, _⟩ := bk2 G2.out.h0
  have lb := bdLt G2.out.h0
  go_wp2_with fail
  clear a0 a1 b0 b1 la lb
  refine (C3.out _).mono ?_
  rintro r w3 ⟨rfl, hb⟩
  have G3 := Lib.hid (G2.out.on hb)
  clear hb
  obtain ⟨⟨a0, a1⟩, _⟩ := bk2 G3.out.tl.h0
  have la := bdLt G3.out.tl.h0
  obtain ⟨⟨b0, b1⟩, _⟩ := bk2 G3.out.h0
  have lb := bdLt G3.out.h0
  go_wp2_with fail
  clear a0 a1 b0 b1 la lb
  refine (C4.out _).mono ?_
  rintro r w4 ⟨rfl, hb⟩
  have G4 := Lib.hid (G3.out.on hb)
  clear hb
  go_wp2_with fail
  go_ret
  exact ⟨rfl, G4.out.below⟩

set_option maxHeartbeats 8000000 in
theorem ratioCompares_b (n d m e : Int) (w : World) (hp : Pw w) (hv1 : vldB n d = true) (hv2 : vldB m e = false) : Calls Tryd.prog 5 #[.agg #[.int .i64 n, .int .i64 d], .agg #[.int .i64 m, .int .i64 e]] w fun r w' => r = .returned (.bool true) ∧ Below w.heap.size w w' := by
  have ec : cmpF n d m e = (0, 1) := by unfold cmpF; rw [hv1, hv2]; rfl
  obtain ⟨a1, a2, a3, a4, a5⟩ := vldB_true.1 hv1
  obtain ⟨f, hf⟩ : ∃ f, n / d = f := ⟨_, rfl⟩
  obtain ⟨g, hg⟩ : ∃ g, -((-n) / d) = g := ⟨_, rfl⟩
  have ef : flF n d = (f, 0) := by unfold flF; rw [hv1, ← hf]; rfl
  have eg : ceF n d = (g, 0) := by unfold ceF; rw [hv1, ← hg]; rfl
  have h6 := fun W => refFloor_any n d W a1 a2 a3 a4
  have h7 := fun W => refCeil_any n d W a1 a2 a3 a4
  rw [hf] at h6
  rw [hg] at h7
  have C6 := Lib.hid h6
  have C7 := Lib.hid h7
  have h1 := fun W => Cmp_any n d m e W
  have h2 := fun W => Floor_any n d W
  have h3 := fun W => Ceil_any n d W
  rw [ec] at h1
  rw [ef] at h2
  rw [eg] at h3
  have C1 := Lib.hid h1
  have C2 := Lib.hid h2
  have C3 := Lib.hid h3
  have C4 := Lib.hid (fun W => refValid_ok n d W hv1)
  have C5 := Lib.hid (fun W => refValid_no m e W hv2)
  clear h1 h2 h3 ec ef eg hv1 hv2 h6 h7 hf hg a1 a2 a3 a4 a5
  have HP := Lib.hid (hp.on (((Hd.nil w).add (.cells #[.int .i64 n, .int .i64 d] 24)).add (.cells #[.int .i64 m, .int .i64 e] 24)).below)
  have H0 := Lib.hid (((Hd.nil w).add (.cells #[.int .i64 n, .int .i64 d] 24)).add (.cells #[.int .i64 m, .int .i64 e] 24))
  simp only [World.size_alloc] at H0
  clear hp
  go_enter Tryd.func5, Tryd.ntmps5
  go_wp2_with fail
  refine (awake04_any _ HP.out).mono ?_
  rintro r w0 ⟨rfl, hb⟩
  have G0 := Lib.hid (H0.out.on hb)
  clear hb
  obtain ⟨⟨a0, a1⟩, _⟩ := bk2 G0.out.tl.h0
  have la := bdLt G0.out.tl.h0
  obtain ⟨⟨b0, b1⟩, _⟩ := bk2 G0.out.h0
  have lb := bdLt G0.out.h0
  go_wp2_with fail
  clear a0 a1 b0 b1 la lb
  refine (C1.out _).mono ?_
  rintro r w1 ⟨rfl, hb⟩
  have G1 := Lib.hid (G0.out.on hb)
  clear hb
  obtain ⟨⟨a0, a1⟩, _⟩ := bk2 G1.out.tl.h0
  have la := bdLt G1.out.tl.h0
  obtain ⟨⟨b0, b1⟩, _⟩ := bk2 G1.out.h0
  have lb := bdLt G1.out.h0
  go_wp2_with fail
  clear a0 a1 b0 b1 la lb
  refine (C2.out _).mono ?_
  rintro r w2 ⟨rfl, hb⟩
  have G2 := Lib.hid (G1.out.on hb)
  clear hb
  obtain ⟨⟨a0, a1⟩, _⟩ := bk2 G2.out.tl.h0
  have la := bdLt G2.out.tl.h0
  obtain ⟨⟨b0, b1⟩, _⟩ := bk2 G2.out.h0
  have lb := bdLt G2.out.h0
  go_wp2_with fail
  clear a0 a1 b0 b1 la lb
  refine (C3.out _).mono ?_
  rintro r w3 ⟨rfl, hb⟩
  have G3 := Lib.hid (G2.out.on hb)
  clear hb
  obtain ⟨⟨a0, a1⟩, _⟩ := bk2 G3.out.tl.h0
  have la := bdLt G3.out.tl.h0
  obtain ⟨⟨b0, b1⟩, _⟩ := bk2 G3.out.h0
  have lb := bdLt G3.out.h0
  go_wp2_with fail
  clear a0 a1 b0 b1 la lb
  refine (C4.out _).mono ?_
  rintro r w4 ⟨rfl, hb⟩
  have G4 := Lib.hid (G3.out.on hb)
  clear hb
  obtain ⟨⟨a0, a1⟩, _⟩ := bk2 G4.out.tl.h0
  have la := bdLt G4.out.tl.h0
  obtain ⟨⟨b0, b1⟩, _⟩ := bk2 G4.out.h0
  have lb := bdLt G4.out.h0
  go_wp2_with fail
  clear a0 a1 b0 b1 la lb
  refine (C6.out _).mono ?_
  rintro r w5 ⟨rfl, hb⟩
  have G5 := Lib.hid (G4.out.on hb)
  clear hb
  obtain ⟨⟨a0, a1⟩, _⟩ := bk2 G5.out.tl.h0
  have la := bdLt G5.out.tl.h0
  obtain ⟨⟨b0, b1⟩, _⟩ := bk2 G5.out.h0
  have lb := bdLt G5.out.h0
  go_wp2_with fail
  clear a0 a1 b0 b1 la lb
  refine (C7.out _).mono ?_
  rintro r w6 ⟨rfl, hb⟩
  have G6 := Lib.hid (G5.out.on hb)
  clear hb
  obtain ⟨⟨a0, a1⟩, _⟩ := bk2 G6.out.tl.h0
  have la := bdLt G6.out.tl.h0
  obtain ⟨⟨b0, b1⟩, _⟩ := bk2 G6.out.h0
  have lb := bdLt G6.out.h0
  go_wp2_with fail
  clear a0 a1 b0 b1 la lb
  refine (C5.out _).mono ?_
  rintro r w7 ⟨rfl, hb⟩
  have G7 := Lib.hid (G6.out.on hb)
  clear hb
  go_wp2_with fail
  go_ret
  exact ⟨rfl, G7.out.below⟩

set_option maxHeartbeats 8000000 in
theorem ratioCompares_ok (n d m e : Int) (w : World) (hp : Pw w) (hv1 : vldB n d = true) (hv2 : vldB m e = true) : Calls Tryd.prog 5 #[.agg #[.int .i64 n, .int .i64 d], .agg #[.int .i64 m, .int .i64 e]] w fun r w' => r = .returned (.bool true) ∧ Below w.heap.size w w' := by
  obtain ⟨c, hc⟩ : ∃ c, cmpI (n * e) (m * d) = c := ⟨_, rfl⟩
  have ec : cmpF n d m e = (c, 0) := by unfold cmpF; rw [hv1, hv2, ← hc]; rfl
  obtain ⟨a1, a2, a3, a4, a5⟩ := vldB_true.1 hv1
  obtain ⟨f, hf⟩ : ∃ f, n / d = f := ⟨_, rfl⟩
  obtain ⟨g, hg⟩ : ∃ g, -((-n) / d) = g := ⟨_, rfl⟩
  have ef : flF n d = (f, 0) := by unfold flF; rw [hv1, ← hf]; rfl
  have eg : ceF n d = (g, 0) := by unfold ceF; rw [hv1, ← hg]; rfl
  have h6 := fun W => refFloor_any n d W a1 a2 a3 a4
  have h7 := fun W => refCeil_any n d W a1 a2 a3 a4
  rw [hf] at h6
  rw [hg] at h7
  have C6 := Lib.hid h6
  have C7 := Lib.hid h7
  have h8 := fun W => refCmp_any n d m e W (vldB_true.1 hv1) (vldB_true.1 hv2)
  rw [hc] at h8
  have C8 := Lib.hid h8
  have h1 := fun W => Cmp_any n d m e W
  have h2 := fun W => Floor_any n d W
  have h3 := fun W => Ceil_any n d W
  rw [ec] at h1
  rw [ef] at h2
  rw [eg] at h3
  have C1 := Lib.hid h1
  have C2 := Lib.hid h2
  have C3 := Lib.hid h3
  have C4 := Lib.hid (fun W => refValid_ok n d W hv1)
  have C5 := Lib.hid (fun W => refValid_ok m e W hv2)
  clear h1 h2 h3 ec ef eg hv1 hv2 h6 h7 hf hg a1 a2 a3 a4 a5 h8 hc
  have HP := Lib.hid (hp.on (((Hd.nil w).add (.cells #[.int .i64 n, .int .i64 d] 24)).add (.cells #[.int .i64 m, .int .i64 e] 24)).below)
  have H0 := Lib.hid (((Hd.nil w).add (.cells #[.int .i64 n, .int .i64 d] 24)).add (.cells #[.int .i64 m, .int .i64 e] 24))
  simp only [World.size_alloc] at H0
  clear hp
  go_enter Tryd.func5, Tryd.ntmps5
  go_wp2_with fail
  refine (awake04_any _ HP.out).mono ?_
  rintro r w0 ⟨rfl, hb⟩
  have G0 := Lib.hid (H0.out.on hb)
  clear hb
  obtain ⟨⟨a0, a1⟩, _⟩ := bk2 G0.out.tl.h0
  have la := bdLt G0.out.tl.h0
  obtain ⟨⟨b0, b1⟩, _⟩ := bk2 G0.out.h0
  have lb := bdLt G0.out.h0
  go_wp2_with fail
  clear a0 a1 b0 b1 la lb
  refine (C1.out _).mono ?_
  rintro r w1 ⟨rfl, hb⟩
  have G1 := Lib.hid (G0.out.on hb)
  clear hb
  obtain ⟨⟨a0, a1⟩, _⟩ := bk2 G1.out.tl.h0
  have la := bdLt G1.out.tl.h0
  obtain ⟨⟨b0, b1⟩, _⟩ := bk2 G1.out.h0
  have lb := bdLt G1.out.h0
  go_wp2_with fail
  clear a0 a1 b0 b1 la lb
  refine (C2.out _).mono ?_
  rintro r w2 ⟨rfl, hb⟩
  have G2 := Lib.hid (G1.out.on hb)
  clear hb
  obtain ⟨⟨a0, a1⟩, _⟩ := bk2 G2.out.tl.h0
  have la := bdLt G2.out.tl.h0
  obtain ⟨⟨b0, b1⟩, _⟩ := bk2 G2.out.h0
  have lb := bdLt G2.out.h0
  go_wp2_with fail
  clear a0 a1 b0 b1 la lb
  refine (C3.out _).mono ?_
  rintro r w3 ⟨rfl, hb⟩
  have G3 := Lib.hid (G2.out.on hb)
  clear hb
  obtain ⟨⟨a0, a1⟩, _⟩ := bk2 G3.out.tl.h0
  have la := bdLt G3.out.tl.h0
  obtain ⟨⟨b0, b1⟩, _⟩ := bk2 G3.out.h0
  have lb := bdLt G3.out.h0
  go_wp2_with fail
  clear a0 a1 b0 b1 la lb
  refine (C4.out _).mono ?_
  rintro r w4 ⟨rfl, hb⟩
  have G4 := Lib.hid (G3.out.on hb)
  clear hb
  obtain ⟨⟨a0, a1⟩, _⟩ := bk2 G4.out.tl.h0
  have la := bdLt G4.out.tl.h0
  obtain ⟨⟨b0, b1⟩, _⟩ := bk2 G4.out.h0
  have lb := bdLt G4.out.h0
  go_wp2_with fail
  clear a0 a1 b0 b1 la lb
  refine (C6.out _).mono ?_
  rintro r w5 ⟨rfl, hb⟩
  have G5 := Lib.hid (G4.out.on hb)
  clear hb
  obtain ⟨⟨a0, a1⟩, _⟩ := bk2 G5.out.tl.h0
  have la := bdLt G5.out.tl.h0
  obtain ⟨⟨b0, b1⟩, _⟩ := bk2 G5.out.h0
  have lb := bdLt G5.out.h0
  go_wp2_with fail
  clear a0 a1 b0 b1 la lb
  refine (C7.out _).mono ?_
  rintro r w6 ⟨rfl, hb⟩
  have G6 := Lib.hid (G5.out.on hb)
  clear hb
  obtain ⟨⟨a0, a1⟩, _⟩ := bk2 G6.out.tl.h0
  have la := bdLt G6.out.tl.h0
  obtain ⟨⟨b0, b1⟩, _⟩ := bk2 G6.out.h0
  have lb := bdLt G6.out.h0
  go_wp2_with fail
  clear a0 a1 b0 b1 la lb
  refine (C5.out _).mono ?_
  rintro r w7 ⟨rfl, hb⟩
  have G7 := Lib.hid (G6.out.on hb)
  clear hb
  obtain ⟨⟨a0, a1⟩, _⟩ := bk2 G7.out.tl.h0
  have la := bdLt G7.out.tl.h0
  obtain ⟨⟨b0, b1⟩, _⟩ := bk2 G7.out.h0
  have lb := bdLt G7.out.h0
  go_wp2_with fail
  clear a0 a1 b0 b1 la lb
  refine (C8.out _).mono ?_
  rintro r w8 ⟨rfl, hb⟩
  have G8 := Lib.hid (G7.out.on hb)
  clear hb
  go_wp2_with fail
  go_ret
  exact ⟨rfl, G8.out.below⟩
theorem ratioCompares_any (n d m e : Int) (w : World) (hp : Pw w) : Calls Tryd.prog 5 #[.agg #[.int .i64 n, .int .i64 d], .agg #[.int .i64 m, .int .i64 e]] w fun r w' => r = .returned (.bool true) ∧ Below w.heap.size w w' := by
  cases hv1 : vldB n d with
  | false => exact ratioCompares_a n d m e w hp hv1
  | true =>
    cases hv2 : vldB m e with
    | false => exact ratioCompares_b n d m e w hp hv1 hv2
    | true => exact ratioCompares_ok n d m e w hp hv1 hv2
end Go.Proofs.YtmebdieflllgcaaDoor
