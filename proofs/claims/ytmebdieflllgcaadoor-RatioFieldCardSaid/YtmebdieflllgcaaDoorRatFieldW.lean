/- RatioField: the law's walk over what its calls give. -/
import Derived.Deep.DeepCutAuto
import Derived.Deep.RegionWith
import Derived.Laws.EntriesVeiled
import Derived.Test.YtmebdieflllgcaaDoorRatioOrder
namespace Go.Proofs.YtmebdieflllgcaaDoor
open Go.RowKit
set_option maxRecDepth 100000

/-- What the law's calls give. -/
structure Fld (n d m e k f p1 p2 p3 q1 q2 q3 s1 s2 s3 t1 t2 t3 x1 x2 x3 y1 y2 y3 o1 o2 o3 j1 j2 j3 u1 u2 u3 v1 v2 v3 z1 z2 z3 g1 g2 g3 h1 h2 h3 i1 i2 i3 l1 l2 l3 : Int) : Prop where
  K1 : ∀ W, Calls Tryd.prog 17 #[.agg #[.int .i64 n, .int .i64 d], .agg #[.int .i64 m, .int .i64 e]] W fun r w' => r = .returned (.tuple #[.agg #[.int .i64 p1, .int .i64 p2], .int .i64 p3]) ∧ Below W.heap.size W w'
  K2 : ∀ W, Calls Tryd.prog 17 #[.agg #[.int .i64 m, .int .i64 e], .agg #[.int .i64 n, .int .i64 d]] W fun r w' => r = .returned (.tuple #[.agg #[.int .i64 p1, .int .i64 p2], .int .i64 p3]) ∧ Below W.heap.size W w'
  K3 : ∀ W, Calls Tryd.prog 17 #[.agg #[.int .i64 p1, .int .i64 p2], .agg #[.int .i64 k, .int .i64 f]] W fun r w' => r = .returned (.tuple #[.agg #[.int .i64 q1, .int .i64 q2], .int .i64 q3]) ∧ Below W.heap.size W w'
  K4 : ∀ W, Calls Tryd.prog 17 #[.agg #[.int .i64 m, .int .i64 e], .agg #[.int .i64 k, .int .i64 f]] W fun r w' => r = .returned (.tuple #[.agg #[.int .i64 s1, .int .i64 s2], .int .i64 s3]) ∧ Below W.heap.size W w'
  K5 : ∀ W, Calls Tryd.prog 17 #[.agg #[.int .i64 n, .int .i64 d], .agg #[.int .i64 s1, .int .i64 s2]] W fun r w' => r = .returned (.tuple #[.agg #[.int .i64 t1, .int .i64 t2], .int .i64 t3]) ∧ Below W.heap.size W w'
  J1 : ∀ W, Calls Tryd.prog 19 #[.agg #[.int .i64 n, .int .i64 d], .agg #[.int .i64 m, .int .i64 e]] W fun r w' => r = .returned (.tuple #[.agg #[.int .i64 x1, .int .i64 x2], .int .i64 x3]) ∧ Below W.heap.size W w'
  J2 : ∀ W, Calls Tryd.prog 19 #[.agg #[.int .i64 m, .int .i64 e], .agg #[.int .i64 n, .int .i64 d]] W fun r w' => r = .returned (.tuple #[.agg #[.int .i64 x1, .int .i64 x2], .int .i64 x3]) ∧ Below W.heap.size W w'
  J3 : ∀ W, Calls Tryd.prog 19 #[.agg #[.int .i64 x1, .int .i64 x2], .agg #[.int .i64 k, .int .i64 f]] W fun r w' => r = .returned (.tuple #[.agg #[.int .i64 y1, .int .i64 y2], .int .i64 y3]) ∧ Below W.heap.size W w'
  J4 : ∀ W, Calls Tryd.prog 19 #[.agg #[.int .i64 m, .int .i64 e], .agg #[.int .i64 k, .int .i64 f]] W fun r w' => r = .returned (.tuple #[.agg #[.int .i64 o1, .int .i64 o2], .int .i64 o3]) ∧ Below W.heap.size W w'
  J5 : ∀ W, Calls Tryd.prog 19 #[.agg #[.int .i64 n, .int .i64 d], .agg #[.int .i64 o1, .int .i64 o2]] W fun r w' => r = .returned (.tuple #[.agg #[.int .i64 j1, .int .i64 j2], .int .i64 j3]) ∧ Below W.heap.size W w'
  L2 : ∀ W, Calls Tryd.prog 19 #[.agg #[.int .i64 n, .int .i64 d], .agg #[.int .i64 s1, .int .i64 s2]] W fun r w' => r = .returned (.tuple #[.agg #[.int .i64 u1, .int .i64 u2], .int .i64 u3]) ∧ Below W.heap.size W w'
  L4 : ∀ W, Calls Tryd.prog 19 #[.agg #[.int .i64 n, .int .i64 d], .agg #[.int .i64 k, .int .i64 f]] W fun r w' => r = .returned (.tuple #[.agg #[.int .i64 v1, .int .i64 v2], .int .i64 v3]) ∧ Below W.heap.size W w'
  L5 : ∀ W, Calls Tryd.prog 17 #[.agg #[.int .i64 x1, .int .i64 x2], .agg #[.int .i64 v1, .int .i64 v2]] W fun r w' => r = .returned (.tuple #[.agg #[.int .i64 z1, .int .i64 z2], .int .i64 z3]) ∧ Below W.heap.size W w'
  M1 : ∀ W, Calls Tryd.prog 18 #[.agg #[.int .i64 n, .int .i64 d], .agg #[.int .i64 m, .int .i64 e]] W fun r w' => r = .returned (.tuple #[.agg #[.int .i64 g1, .int .i64 g2], .int .i64 g3]) ∧ Below W.heap.size W w'
  M2 : ∀ W, Calls Tryd.prog 17 #[.agg #[.int .i64 g1, .int .i64 g2], .agg #[.int .i64 m, .int .i64 e]] W fun r w' => r = .returned (.tuple #[.agg #[.int .i64 h1, .int .i64 h2], .int .i64 h3]) ∧ Below W.heap.size W w'
  M3 : ∀ W, Calls Tryd.prog 20 #[.agg #[.int .i64 n, .int .i64 d], .agg #[.int .i64 m, .int .i64 e]] W fun r w' => r = .returned (.tuple #[.agg #[.int .i64 i1, .int .i64 i2], .int .i64 i3]) ∧ Below W.heap.size W w'
  M4 : ∀ W, Calls Tryd.prog 19 #[.agg #[.int .i64 i1, .int .i64 i2], .agg #[.int .i64 m, .int .i64 e]] W fun r w' => r = .returned (.tuple #[.agg #[.int .i64 l1, .int .i64 l2], .int .i64 l3]) ∧ Below W.heap.size W w'
  add : p3 = 0 → q3 = 0 → s3 = 0 → t3 = 0 → q1 = t1 ∧ q2 = t2
  mul : x3 = 0 → y3 = 0 → o3 = 0 → j3 = 0 → y1 = j1 ∧ y2 = j2
  dst : s3 = 0 → u3 = 0 → x3 = 0 → v3 = 0 → z3 = 0 → u1 = z1 ∧ u2 = z2
  sub : g3 = 0 → h3 = 0 ∧ h1 = n ∧ h2 = d
  dvz : m = 0 → i3 = 18
  dvn : m ≠ 0 → i3 = 0 → l3 = 0 ∧ l1 = n ∧ l2 = d

set_option maxHeartbeats 16000000 in
theorem ratioField_ok (n d m e k f p1 p2 p3 q1 q2 q3 s1 s2 s3 t1 t2 t3 x1 x2 x3 y1 y2 y3 o1 o2 o3 j1 j2 j3 u1 u2 u3 v1 v2 v3 z1 z2 z3 g1 g2 g3 h1 h2 h3 i1 i2 i3 l1 l2 l3 : Int) (w : World) (hp : Pw w) (hv1 : vldB n d = true) (hv2 : vldB m e = true) (hv3 : vldB k f = true) (hF : Fld n d m e k f p1 p2 p3 q1 q2 q3 s1 s2 s3 t1 t2 t3 x1 x2 x3 y1 y2 y3 o1 o2 o3 j1 j2 j3 u1 u2 u3 v1 v2 v3 z1 z2 z3 g1 g2 g3 h1 h2 h3 i1 i2 i3 l1 l2 l3) :
    Calls Tryd.prog 7 #[.agg #[.int .i64 n, .int .i64 d], .agg #[.int .i64 m, .int .i64 e], .agg #[.int .i64 k, .int .i64 f]] w fun r w' => r = .returned (.bool true) ∧ Below w.heap.size w w' := by
  have V1 := Lib.hid (fun W => refValid_ok n d W hv1)
  have V2 := Lib.hid (fun W => refValid_ok m e W hv2)
  have V3 := Lib.hid (fun W => refValid_ok k f W hv3)
  have F := Lib.hid hF
  clear hv1 hv2 hv3 hF
  have HP := Lib.hid (hp.on ((((Hd.nil w).add (.cells #[.int .i64 n, .int .i64 d] 24)).add (.cells #[.int .i64 m, .int .i64 e] 24)).add (.cells #[.int .i64 k, .int .i64 f] 24)).below)
  have H0 := Lib.hid ((((Hd.nil w).add (.cells #[.int .i64 n, .int .i64 d] 24)).add (.cells #[.int .i64 m, .int .i64 e] 24)).add (.cells #[.int .i64 k, .int .i64 f] 24))
  simp only [World.size_alloc] at H0
  clear hp
  go_enter Tryd.func7, Tryd.ntmps7
  go_wp2_with fail
  refine (awake04_any _ HP.out).mono ?_
  rintro r w0 ⟨rfl, hb⟩
  have G0 := Lib.hid (H0.out.on hb)
  clear hb
  obtain ⟨⟨ca0, ca1⟩, _⟩ := bk2 G0.out.tl.tl.h0
  have lca := bdLt G0.out.tl.tl.h0
  obtain ⟨⟨cb0, cb1⟩, _⟩ := bk2 G0.out.tl.h0
  have lcb := bdLt G0.out.tl.h0
  obtain ⟨⟨cc0, cc1⟩, _⟩ := bk2 G0.out.h0
  have lcc := bdLt G0.out.h0
  go_wp2_with fail
  clear ca0 ca1 cb0 cb1 cc0 cc1 lca lcb lcc
  refine (V1.out _).mono ?_
  rintro r w1 ⟨rfl, hb⟩
  have G1 := Lib.hid (G0.out.on hb)
  clear hb
  obtain ⟨⟨ca0, ca1⟩, _⟩ := bk2 G1.out.tl.tl.h0
  have lca := bdLt G1.out.tl.tl.h0
  obtain ⟨⟨cb0, cb1⟩, _⟩ := bk2 G1.out.tl.h0
  have lcb := bdLt G1.out.tl.h0
  obtain ⟨⟨cc0, cc1⟩, _⟩ := bk2 G1.out.h0
  have lcc := bdLt G1.out.h0
  go_wp2_with fail
  clear ca0 ca1 cb0 cb1 cc0 cc1 lca lcb lcc
  refine (V2.out _).mono ?_
  rintro r w2 ⟨rfl, hb⟩
  have G2 := Lib.hid (G1.out.on hb)
  clear hb
  obtain ⟨⟨ca0, ca1⟩, _⟩ := bk2 G2.out.tl.tl.h0
  have lca := bdLt G2.out.tl.tl.h0
  obtain ⟨⟨cb0, cb1⟩, _⟩ := bk2 G2.out.tl.h0
  have lcb := bdLt G2.out.tl.h0
  obtain ⟨⟨cc0, cc1⟩, _⟩ := bk2 G2.out.h0
  have lcc := bdLt G2.out.h0
  go_wp2_with fail
  clear ca0 ca1 cb0 cb1 cc0 cc1 lca lcb lcc
  refine (V3.out _).mono ?_
  rintro r w3 ⟨rfl, hb⟩
  have G3 := Lib.hid (G2.out.on hb)
  clear hb
  have H3 := Lib.hid (G3.out.add (.cells #[.func (.func 17) #[] #[], .func (.func 19) #[] #[]] 32))
  go_wp2_with fail
  go_loopw [53] (fun i wr => (i = .int .i64 0 ∨ i = .int .i64 1 ∨ i = .int .i64 2) ∧ Hd w wr ((w3.heap.size, (.cells #[.func (.func 17) #[] #[], .func (.func 19) #[] #[]] 32)) :: (w.heap.size + 1 + 1, (.cells #[.int .i64 k, .int .i64 f] 24)) :: (w.heap.size + 1, (.cells #[.int .i64 m, .int .i64 e] 24)) :: (w.heap.size, (.cells #[.int .i64 n, .int .i64 d] 24)) :: [])) (fun i _ => 2 - (intOf i).toNat)
  case atStart => exact ⟨.inl rfl, H3.out⟩
  case round =>
    obtain ⟨hi, hh⟩ := hrel
    have R0 := Lib.hid hh
    clear hh
    rcases hi with rfl | rfl | rfl
    · by_cases hall : p3 = 0 ∧ q3 = 0 ∧ s3 = 0 ∧ t3 = 0
      · obtain ⟨z1', z2', z3', z4'⟩ := hall
        obtain ⟨g1, g2⟩ := F.out.add z1' z2' z3' z4'
        obtain ⟨c1, c2, c3, c4, c5⟩ : _ ∧ _ ∧ _ ∧ _ ∧ _ := ⟨F.out.K1, F.out.K2, F.out.K3, F.out.K4, F.out.K5⟩
        rw [z1'] at c1 c2
        rw [z2'] at c3
        rw [z3'] at c4
        rw [z4', ← g1, ← g2] at c5
        have D1 := Lib.hid c1
        have D2 := Lib.hid c2
        have D3 := Lib.hid c3
        have D4 := Lib.hid c4
        have D5 := Lib.hid c5
        clear c1 c2 c3 c4 c5 z1' z2' z3' z4' g1 g2
        obtain ⟨⟨ca0, ca1⟩, _⟩ := bk2 R0.out.tl.tl.tl.h0
        have lca := bdLt R0.out.tl.tl.tl.h0
        obtain ⟨⟨cb0, cb1⟩, _⟩ := bk2 R0.out.tl.tl.h0
        have lcb := bdLt R0.out.tl.tl.h0
        obtain ⟨⟨cc0, cc1⟩, _⟩ := bk2 R0.out.tl.h0
        have lcc := bdLt R0.out.tl.h0
        obtain ⟨⟨cf0, cf1⟩, _⟩ := bk2 R0.out.h0
        go_wp2_with fail
        clear ca0 ca1 cb0 cb1 cc0 cc1 cf0 cf1 lca lcb lcc
        refine (D1.out _).mono ?_
        rintro r y1w ⟨rfl, hb⟩
        have S1 := Lib.hid (R0.out.on hb)
        have R1 := Lib.hid (S1.out.add (.cells #[.int .i64 p1, .int .i64 p2] 24))
        clear hb
        obtain ⟨⟨ca0, ca1⟩, _⟩ := bk2 S1.out.tl.tl.tl.h0
        have lca := bdLt S1.out.tl.tl.tl.h0
        obtain ⟨⟨cb0, cb1⟩, _⟩ := bk2 S1.out.tl.tl.h0
        have lcb := bdLt S1.out.tl.tl.h0
        obtain ⟨⟨cc0, cc1⟩, _⟩ := bk2 S1.out.tl.h0
        have lcc := bdLt S1.out.tl.h0
        go_wp2_with fail
        clear ca0 ca1 cb0 cb1 cc0 cc1 lca lcb lcc
        refine (D2.out _).mono ?_
        rintro r y2w ⟨rfl, hb⟩
        have S2 := Lib.hid (R1.out.on hb)
        have R2 := Lib.hid (S2.out.add (.cells #[.int .i64 p1, .int .i64 p2] 24))
        clear hb
        obtain ⟨⟨ca0, ca1⟩, _⟩ := bk2 S2.out.tl.tl.tl.tl.h0
        have lca := bdLt S2.out.tl.tl.tl.tl.h0
        obtain ⟨⟨cb0, cb1⟩, _⟩ := bk2 S2.out.tl.tl.tl.h0
        have lcb := bdLt S2.out.tl.tl.tl.h0
        obtain ⟨⟨cc0, cc1⟩, _⟩ := bk2 S2.out.tl.tl.h0
        have lcc := bdLt S2.out.tl.tl.h0
        obtain ⟨⟨cx00, cx01⟩, _⟩ := bk2 S2.out.h0
        have lcx0 := bdLt S2.out.h0
        go_wp2_with fail
        clear ca0 ca1 cb0 cb1 cc0 cc1 lca lcb lcc cx00 cx01 lcx0
        refine (D3.out _).mono ?_
        rintro r y3w ⟨rfl, hb⟩
        have S3 := Lib.hid (R2.out.on hb)
        have R3 := Lib.hid (S3.out.add (.cells #[.int .i64 q1, .int .i64 q2] 24))
        clear hb
        obtain ⟨⟨ca0, ca1⟩, _⟩ := bk2 S3.out.tl.tl.tl.tl.tl.h0
        have lca := bdLt S3.out.tl.tl.tl.tl.tl.h0
        obtain ⟨⟨cb0, cb1⟩, _⟩ := bk2 S3.out.tl.tl.tl.tl.h0
        have lcb := bdLt S3.out.tl.tl.tl.tl.h0
        obtain ⟨⟨cc0, cc1⟩, _⟩ := bk2 S3.out.tl.tl.tl.h0
        have lcc := bdLt S3.out.tl.tl.tl.h0
        obtain ⟨⟨cx00, cx01⟩, _⟩ := bk2 S3.out.h0
        have lcx0 := bdLt S3.out.h0
        obtain ⟨⟨cx10, cx11⟩, _⟩ := bk2 S3.out.tl.h0
        have lcx1 := bdLt S3.out.tl.h0
        go_wp2_with fail
        clear ca0 ca1 cb0 cb1 cc0 cc1 lca lcb lcc cx00 cx01 lcx0 cx10 cx11 lcx1
        refine (D4.out _).mono ?_
        rintro r y4w ⟨rfl, hb⟩
        have S4 := Lib.hid (R3.out.on hb)
        have R4 := Lib.hid (S4.out.add (.cells #[.int .i64 s1, .int .i64 s2] 24))
        clear hb
        obtain ⟨⟨ca0, ca1⟩, _⟩ := bk2 S4.out.tl.tl.tl.tl.tl.tl.h0
        have lca := bdLt S4.out.tl.tl.tl.tl.tl.tl.h0
        obtain ⟨⟨cb0, cb1⟩, _⟩ := bk2 S4.out.tl.tl.tl.tl.tl.h0
        have lcb := bdLt S4.out.tl.tl.tl.tl.tl.h0
        obtain ⟨⟨cc0, cc1⟩, _⟩ := bk2 S4.out.tl.tl.tl.tl.h0
        have lcc := bdLt S4.out.tl.tl.tl.tl.h0
        obtain ⟨⟨cx00, cx01⟩, _⟩ := bk2 S4.out.h0
        have lcx0 := bdLt S4.out.h0
        obtain ⟨⟨cx10, cx11⟩, _⟩ := bk2 S4.out.tl.h0
        have lcx1 := bdLt S4.out.tl.h0
        obtain ⟨⟨cx20, cx21⟩, _⟩ := bk2 S4.out.tl.tl.h0
        have lcx2 := bdLt S4.out.tl.tl.h0
        go_wp2_with fail
        clear ca0 ca1 cb0 cb1 cc0 cc1 lca lcb lcc cx00 cx01 lcx0 cx10 cx11 lcx1 cx20 cx21 lcx2
        refine (D5.out _).mono ?_
        rintro r y5w ⟨rfl, hb⟩
        have S5 := Lib.hid (R4.out.on hb)
        have R5 := Lib.hid (S5.out.add (.cells #[.int .i64 q1, .int .i64 q2] 24))
        clear hb
        obtain ⟨⟨ca0, ca1⟩, _⟩ := bk2 S5.out.tl.tl.tl.tl.tl.tl.tl.h0
        have lca := bdLt S5.out.tl.tl.tl.tl.tl.tl.tl.h0
        obtain ⟨⟨cb0, cb1⟩, _⟩ := bk2 S5.out.tl.tl.tl.tl.tl.tl.h0
        have lcb := bdLt S5.out.tl.tl.tl.tl.tl.tl.h0
        obtain ⟨⟨cc0, cc1⟩, _⟩ := bk2 S5.out.tl.tl.tl.tl.tl.h0
        have lcc := bdLt S5.out.tl.tl.tl.tl.tl.h0
        obtain ⟨⟨cx00, cx01⟩, _⟩ := bk2 S5.out.h0
        have lcx0 := bdLt S5.out.h0
        obtain ⟨⟨cx10, cx11⟩, _⟩ := bk2 S5.out.tl.h0
        have lcx1 := bdLt S5.out.tl.h0
        obtain ⟨⟨cx20, cx21⟩, _⟩ := bk2 S5.out.tl.tl.h0
        have lcx2 := bdLt S5.out.tl.tl.h0
        obtain ⟨⟨cx30, cx31⟩, _⟩ := bk2 S5.out.tl.tl.tl.h0
        have lcx3 := bdLt S5.out.tl.tl.tl.h0
        go_wp2_with fail
        go_roundw
        case rel => exact ⟨by first | exact .inr (.inl rfl) | exact .inr (.inr rfl), ⟨R5.out.below, R5.out.tl.tl.tl.tl.tl.all⟩⟩
        case measure => simp [intOf]
      · have hcs : p3 ≠ 0 ∨ (p3 = 0 ∧ q3 ≠ 0) ∨ (p3 = 0 ∧ q3 = 0 ∧ s3 ≠ 0) ∨ (p3 = 0 ∧ q3 = 0 ∧ s3 = 0 ∧ t3 ≠ 0) := by omega
        clear hall
        rcases hcs with e1 | ⟨e1, e2⟩ | ⟨e1, e2, e3⟩ | ⟨e1, e2, e3, e4⟩
        · obtain ⟨c1, c2, c3, c4, c5⟩ : _ ∧ _ ∧ _ ∧ _ ∧ _ := ⟨F.out.K1, F.out.K2, F.out.K3, F.out.K4, F.out.K5⟩
          have fz : (p3 == 0) = false := by simpa using e1
          have D1 := Lib.hid c1
          have D2 := Lib.hid c2
          have D3 := Lib.hid c3
          have D4 := Lib.hid c4
          have D5 := Lib.hid c5
          clear c1 c2 c3 c4 c5 e1
          obtain ⟨⟨ca0, ca1⟩, _⟩ := bk2 R0.out.tl.tl.tl.h0
          have lca := bdLt R0.out.tl.tl.tl.h0
          obtain ⟨⟨cb0, cb1⟩, _⟩ := bk2 R0.out.tl.tl.h0
          have lcb := bdLt R0.out.tl.tl.h0
          obtain ⟨⟨cc0, cc1⟩, _⟩ := bk2 R0.out.tl.h0
          have lcc := bdLt R0.out.tl.h0
          obtain ⟨⟨cf0, cf1⟩, _⟩ := bk2 R0.out.h0
          go_wp2_with fail
          clear ca0 ca1 cb0 cb1 cc0 cc1 cf0 cf1 lca lcb lcc
          refine (D1.out _).mono ?_
          rintro r y1w ⟨rfl, hb⟩
          have S1 := Lib.hid (R0.out.on hb)
          have R1 := Lib.hid (S1.out.add (.cells #[.int .i64 p1, .int .i64 p2] 24))
          clear hb
          obtain ⟨⟨ca0, ca1⟩, _⟩ := bk2 S1.out.tl.tl.tl.h0
          have lca := bdLt S1.out.tl.tl.tl.h0
          obtain ⟨⟨cb0, cb1⟩, _⟩ := bk2 S1.out.tl.tl.h0
          have lcb := bdLt S1.out.tl.tl.h0
          obtain ⟨⟨cc0, cc1⟩, _⟩ := bk2 S1.out.tl.h0
          have lcc := bdLt S1.out.tl.h0
          go_wp2_with fail
          clear ca0 ca1 cb0 cb1 cc0 cc1 lca lcb lcc
          refine (D2.out _).mono ?_
          rintro r y2w ⟨rfl, hb⟩
          have S2 := Lib.hid (R1.out.on hb)
          have R2 := Lib.hid (S2.out.add (.cells #[.int .i64 p1, .int .i64 p2] 24))
          clear hb
          obtain ⟨⟨ca0, ca1⟩, _⟩ := bk2 S2.out.tl.tl.tl.tl.h0
          have lca := bdLt S2.out.tl.tl.tl.tl.h0
          obtain ⟨⟨cb0, cb1⟩, _⟩ := bk2 S2.out.tl.tl.tl.h0
          have lcb := bdLt S2.out.tl.tl.tl.h0
          obtain ⟨⟨cc0, cc1⟩, _⟩ := bk2 S2.out.tl.tl.h0
          have lcc := bdLt S2.out.tl.tl.h0
          obtain ⟨⟨cx00, cx01⟩, _⟩ := bk2 S2.out.h0
          have lcx0 := bdLt S2.out.h0
          go_wp2_with fail
          clear ca0 ca1 cb0 cb1 cc0 cc1 lca lcb lcc cx00 cx01 lcx0
          refine (D3.out _).mono ?_
          rintro r y3w ⟨rfl, hb⟩
          have S3 := Lib.hid (R2.out.on hb)
          have R3 := Lib.hid (S3.out.add (.cells #[.int .i64 q1, .int .i64 q2] 24))
          clear hb
          obtain ⟨⟨ca0, ca1⟩, _⟩ := bk2 S3.out.tl.tl.tl.tl.tl.h0
          have lca := bdLt S3.out.tl.tl.tl.tl.tl.h0
          obtain ⟨⟨cb0, cb1⟩, _⟩ := bk2 S3.out.tl.tl.tl.tl.h0
          have lcb := bdLt S3.out.tl.tl.tl.tl.h0
          obtain ⟨⟨cc0, cc1⟩, _⟩ := bk2 S3.out.tl.tl.tl.h0
          have lcc := bdLt S3.out.tl.tl.tl.h0
          obtain ⟨⟨cx00, cx01⟩, _⟩ := bk2 S3.out.h0
          have lcx0 := bdLt S3.out.h0
          obtain ⟨⟨cx10, cx11⟩, _⟩ := bk2 S3.out.tl.h0
          have lcx1 := bdLt S3.out.tl.h0
          go_wp2_with fail
          clear ca0 ca1 cb0 cb1 cc0 cc1 lca lcb lcc cx00 cx01 lcx0 cx10 cx11 lcx1
          refine (D4.out _).mono ?_
          rintro r y4w ⟨rfl, hb⟩
          have S4 := Lib.hid (R3.out.on hb)
          have R4 := Lib.hid (S4.out.add (.cells #[.int .i64 s1, .int .i64 s2] 24))
          clear hb
          obtain ⟨⟨ca0, ca1⟩, _⟩ := bk2 S4.out.tl.tl.tl.tl.tl.tl.h0
          have lca := bdLt S4.out.tl.tl.tl.tl.tl.tl.h0
          obtain ⟨⟨cb0, cb1⟩, _⟩ := bk2 S4.out.tl.tl.tl.tl.tl.h0
          have lcb := bdLt S4.out.tl.tl.tl.tl.tl.h0
          obtain ⟨⟨cc0, cc1⟩, _⟩ := bk2 S4.out.tl.tl.tl.tl.h0
          have lcc := bdLt S4.out.tl.tl.tl.tl.h0
          obtain ⟨⟨cx00, cx01⟩, _⟩ := bk2 S4.out.h0
          have lcx0 := bdLt S4.out.h0
          obtain ⟨⟨cx10, cx11⟩, _⟩ := bk2 S4.out.tl.h0
          have lcx1 := bdLt S4.out.tl.h0
          obtain ⟨⟨cx20, cx21⟩, _⟩ := bk2 S4.out.tl.tl.h0
          have lcx2 := bdLt S4.out.tl.tl.h0
          go_wp2_with fail
          clear ca0 ca1 cb0 cb1 cc0 cc1 lca lcb lcc cx00 cx01 lcx0 cx10 cx11 lcx1 cx20 cx21 lcx2
          refine (D5.out _).mono ?_
          rintro r y5w ⟨rfl, hb⟩
          have S5 := Lib.hid (R4.out.on hb)
          have R5 := Lib.hid (S5.out.add (.cells #[.int .i64 t1, .int .i64 t2] 24))
          clear hb
          obtain ⟨⟨ca0, ca1⟩, _⟩ := bk2 S5.out.tl.tl.tl.tl.tl.tl.tl.h0
          have lca := bdLt S5.out.tl.tl.tl.tl.tl.tl.tl.h0
          obtain ⟨⟨cb0, cb1⟩, _⟩ := bk2 S5.out.tl.tl.tl.tl.tl.tl.h0
          have lcb := bdLt S5.out.tl.tl.tl.tl.tl.tl.h0
          obtain ⟨⟨cc0, cc1⟩, _⟩ := bk2 S5.out.tl.tl.tl.tl.tl.h0
          have lcc := bdLt S5.out.tl.tl.tl.tl.tl.h0
          obtain ⟨⟨cx00, cx01⟩, _⟩ := bk2 S5.out.h0
          have lcx0 := bdLt S5.out.h0
          obtain ⟨⟨cx10, cx11⟩, _⟩ := bk2 S5.out.tl.h0
          have lcx1 := bdLt S5.out.tl.h0
          obtain ⟨⟨cx20, cx21⟩, _⟩ := bk2 S5.out.tl.tl.h0
          have lcx2 := bdLt S5.out.tl.tl.h0
          obtain ⟨⟨cx30, cx31⟩, _⟩ := bk2 S5.out.tl.tl.tl.h0
          have lcx3 := bdLt S5.out.tl.tl.tl.h0
          go_wp2_with fail
          go_roundw
          case rel => exact ⟨by first | exact .inr (.inl rfl) | exact .inr (.inr rfl), ⟨R5.out.below, R5.out.tl.tl.tl.tl.tl.all⟩⟩
          case measure => simp [intOf]
        · obtain ⟨c1, c2, c3, c4, c5⟩ : _ ∧ _ ∧ _ ∧ _ ∧ _ := ⟨F.out.K1, F.out.K2, F.out.K3, F.out.K4, F.out.K5⟩
          rw [e1] at c1 c2
          have fz : (q3 == 0) = false := by simpa using e2
          have D1 := Lib.hid c1
          have D2 := Lib.hid c2
          have D3 := Lib.hid c3
          have D4 := Lib.hid c4
          have D5 := Lib.hid c5
          clear c1 c2 c3 c4 c5 e1 e2
          obtain ⟨⟨ca0, ca1⟩, _⟩ := bk2 R0.out.tl.tl.tl.h0
          have lca := bdLt R0.out.tl.tl.tl.h0
          obtain ⟨⟨cb0, cb1⟩, _⟩ := bk2 R0.out.tl.tl.h0
          have lcb := bdLt R0.out.tl.tl.h0
          obtain ⟨⟨cc0, cc1⟩, _⟩ := bk2 R0.out.tl.h0
          have lcc := bdLt R0.out.tl.h0
          obtain ⟨⟨cf0, cf1⟩, _⟩ := bk2 R0.out.h0
          go_wp2_with fail
          clear ca0 ca1 cb0 cb1 cc0 cc1 cf0 cf1 lca lcb lcc
          refine (D1.out _).mono ?_
          rintro r y1w ⟨rfl, hb⟩
          have S1 := Lib.hid (R0.out.on hb)
          have R1 := Lib.hid (S1.out.add (.cells #[.int .i64 p1, .int .i64 p2] 24))
          clear hb
          obtain ⟨⟨ca0, ca1⟩, _⟩ := bk2 S1.out.tl.tl.tl.h0
          have lca := bdLt S1.out.tl.tl.tl.h0
          obtain ⟨⟨cb0, cb1⟩, _⟩ := bk2 S1.out.tl.tl.h0
          have lcb := bdLt S1.out.tl.tl.h0
          obtain ⟨⟨cc0, cc1⟩, _⟩ := bk2 S1.out.tl.h0
          have lcc := bdLt S1.out.tl.h0
          go_wp2_with fail
          clear ca0 ca1 cb0 cb1 cc0 cc1 lca lcb lcc
          refine (D2.out _).mono ?_
          rintro r y2w ⟨rfl, hb⟩
          have S2 := Lib.hid (R1.out.on hb)
          have R2 := Lib.hid (S2.out.add (.cells #[.int .i64 p1, .int .i64 p2] 24))
          clear hb
          obtain ⟨⟨ca0, ca1⟩, _⟩ := bk2 S2.out.tl.tl.tl.tl.h0
          have lca := bdLt S2.out.tl.tl.tl.tl.h0
          obtain ⟨⟨cb0, cb1⟩, _⟩ := bk2 S2.out.tl.tl.tl.h0
          have lcb := bdLt S2.out.tl.tl.tl.h0
          obtain ⟨⟨cc0, cc1⟩, _⟩ := bk2 S2.out.tl.tl.h0
          have lcc := bdLt S2.out.tl.tl.h0
          obtain ⟨⟨cx00, cx01⟩, _⟩ := bk2 S2.out.h0
          have lcx0 := bdLt S2.out.h0
          go_wp2_with fail
          clear ca0 ca1 cb0 cb1 cc0 cc1 lca lcb lcc cx00 cx01 lcx0
          refine (D3.out _).mono ?_
          rintro r y3w ⟨rfl, hb⟩
          have S3 := Lib.hid (R2.out.on hb)
          have R3 := Lib.hid (S3.out.add (.cells #[.int .i64 q1, .int .i64 q2] 24))
          clear hb
          obtain ⟨⟨ca0, ca1⟩, _⟩ := bk2 S3.out.tl.tl.tl.tl.tl.h0
          have lca := bdLt S3.out.tl.tl.tl.tl.tl.h0
          obtain ⟨⟨cb0, cb1⟩, _⟩ := bk2 S3.out.tl.tl.tl.tl.h0
          have lcb := bdLt S3.out.tl.tl.tl.tl.h0
          obtain ⟨⟨cc0, cc1⟩, _⟩ := bk2 S3.out.tl.tl.tl.h0
          have lcc := bdLt S3.out.tl.tl.tl.h0
          obtain ⟨⟨cx00, cx01⟩, _⟩ := bk2 S3.out.h0
          have lcx0 := bdLt S3.out.h0
          obtain ⟨⟨cx10, cx11⟩, _⟩ := bk2 S3.out.tl.h0
          have lcx1 := bdLt S3.out.tl.h0
          go_wp2_with fail
          clear ca0 ca1 cb0 cb1 cc0 cc1 lca lcb lcc cx00 cx01 lcx0 cx10 cx11 lcx1
          refine (D4.out _).mono ?_
          rintro r y4w ⟨rfl, hb⟩
          have S4 := Lib.hid (R3.out.on hb)
          have R4 := Lib.hid (S4.out.add (.cells #[.int .i64 s1, .int .i64 s2] 24))
          clear hb
          obtain ⟨⟨ca0, ca1⟩, _⟩ := bk2 S4.out.tl.tl.tl.tl.tl.tl.h0
          have lca := bdLt S4.out.tl.tl.tl.tl.tl.tl.h0
          obtain ⟨⟨cb0, cb1⟩, _⟩ := bk2 S4.out.tl.tl.tl.tl.tl.h0
          have lcb := bdLt S4.out.tl.tl.tl.tl.tl.h0
          obtain ⟨⟨cc0, cc1⟩, _⟩ := bk2 S4.out.tl.tl.tl.tl.h0
          have lcc := bdLt S4.out.tl.tl.tl.tl.h0
          obtain ⟨⟨cx00, cx01⟩, _⟩ := bk2 S4.out.h0
          have lcx0 := bdLt S4.out.h0
          obtain ⟨⟨cx10, cx11⟩, _⟩ := bk2 S4.out.tl.h0
          have lcx1 := bdLt S4.out.tl.h0
          obtain ⟨⟨cx20, cx21⟩, _⟩ := bk2 S4.out.tl.tl.h0
          have lcx2 := bdLt S4.out.tl.tl.h0
          go_wp2_with fail
          clear ca0 ca1 cb0 cb1 cc0 cc1 lca lcb lcc cx00 cx01 lcx0 cx10 cx11 lcx1 cx20 cx21 lcx2
          refine (D5.out _).mono ?_
          rintro r y5w ⟨rfl, hb⟩
          have S5 := Lib.hid (R4.out.on hb)
          have R5 := Lib.hid (S5.out.add (.cells #[.int .i64 t1, .int .i64 t2] 24))
          clear hb
          obtain ⟨⟨ca0, ca1⟩, _⟩ := bk2 S5.out.tl.tl.tl.tl.tl.tl.tl.h0
          have lca := bdLt S5.out.tl.tl.tl.tl.tl.tl.tl.h0
          obtain ⟨⟨cb0, cb1⟩, _⟩ := bk2 S5.out.tl.tl.tl.tl.tl.tl.h0
          have lcb := bdLt S5.out.tl.tl.tl.tl.tl.tl.h0
          obtain ⟨⟨cc0, cc1⟩, _⟩ := bk2 S5.out.tl.tl.tl.tl.tl.h0
          have lcc := bdLt S5.out.tl.tl.tl.tl.tl.h0
          obtain ⟨⟨cx00, cx01⟩, _⟩ := bk2 S5.out.h0
          have lcx0 := bdLt S5.out.h0
          obtain ⟨⟨cx10, cx11⟩, _⟩ := bk2 S5.out.tl.h0
          have lcx1 := bdLt S5.out.tl.h0
          obtain ⟨⟨cx20, cx21⟩, _⟩ := bk2 S5.out.tl.tl.h0
          have lcx2 := bdLt S5.out.tl.tl.h0
          obtain ⟨⟨cx30, cx31⟩, _⟩ := bk2 S5.out.tl.tl.tl.h0
          have lcx3 := bdLt S5.out.tl.tl.tl.h0
          go_wp2_with fail
          go_roundw
          case rel => exact ⟨by first | exact .inr (.inl rfl) | exact .inr (.inr rfl), ⟨R5.out.below, R5.out.tl.tl.tl.tl.tl.all⟩⟩
          case measure => simp [intOf]
        · obtain ⟨c1, c2, c3, c4, c5⟩ : _ ∧ _ ∧ _ ∧ _ ∧ _ := ⟨F.out.K1, F.out.K2, F.out.K3, F.out.K4, F.out.K5⟩
          rw [e1] at c1 c2
          rw [e2] at c3
          have fz : (s3 == 0) = false := by simpa using e3
          have D1 := Lib.hid c1
          have D2 := Lib.hid c2
          have D3 := Lib.hid c3
          have D4 := Lib.hid c4
          have D5 := Lib.hid c5
          clear c1 c2 c3 c4 c5 e1 e2 e3
          obtain ⟨⟨ca0, ca1⟩, _⟩ := bk2 R0.out.tl.tl.tl.h0
          have lca := bdLt R0.out.tl.tl.tl.h0
          obtain ⟨⟨cb0, cb1⟩, _⟩ := bk2 R0.out.tl.tl.h0
          have lcb := bdLt R0.out.tl.tl.h0
          obtain ⟨⟨cc0, cc1⟩, _⟩ := bk2 R0.out.tl.h0
          have lcc := bdLt R0.out.tl.h0
          obtain ⟨⟨cf0, cf1⟩, _⟩ := bk2 R0.out.h0
          go_wp2_with fail
          clear ca0 ca1 cb0 cb1 cc0 cc1 cf0 cf1 lca lcb lcc
          refine (D1.out _).mono ?_
          rintro r y1w ⟨rfl, hb⟩
          have S1 := Lib.hid (R0.out.on hb)
          have R1 := Lib.hid (S1.out.add (.cells #[.int .i64 p1, .int .i64 p2] 24))
          clear hb
          obtain ⟨⟨ca0, ca1⟩, _⟩ := bk2 S1.out.tl.tl.tl.h0
          have lca := bdLt S1.out.tl.tl.tl.h0
          obtain ⟨⟨cb0, cb1⟩, _⟩ := bk2 S1.out.tl.tl.h0
          have lcb := bdLt S1.out.tl.tl.h0
          obtain ⟨⟨cc0, cc1⟩, _⟩ := bk2 S1.out.tl.h0
          have lcc := bdLt S1.out.tl.h0
          go_wp2_with fail
          clear ca0 ca1 cb0 cb1 cc0 cc1 lca lcb lcc
          refine (D2.out _).mono ?_
          rintro r y2w ⟨rfl, hb⟩
          have S2 := Lib.hid (R1.out.on hb)
          have R2 := Lib.hid (S2.out.add (.cells #[.int .i64 p1, .int .i64 p2] 24))
          clear hb
          obtain ⟨⟨ca0, ca1⟩, _⟩ := bk2 S2.out.tl.tl.tl.tl.h0
          have lca := bdLt S2.out.tl.tl.tl.tl.h0
          obtain ⟨⟨cb0, cb1⟩, _⟩ := bk2 S2.out.tl.tl.tl.h0
          have lcb := bdLt S2.out.tl.tl.tl.h0
          obtain ⟨⟨cc0, cc1⟩, _⟩ := bk2 S2.out.tl.tl.h0
          have lcc := bdLt S2.out.tl.tl.h0
          obtain ⟨⟨cx00, cx01⟩, _⟩ := bk2 S2.out.h0
          have lcx0 := bdLt S2.out.h0
          go_wp2_with fail
          clear ca0 ca1 cb0 cb1 cc0 cc1 lca lcb lcc cx00 cx01 lcx0
          refine (D3.out _).mono ?_
          rintro r y3w ⟨rfl, hb⟩
          have S3 := Lib.hid (R2.out.on hb)
          have R3 := Lib.hid (S3.out.add (.cells #[.int .i64 q1, .int .i64 q2] 24))
          clear hb
          obtain ⟨⟨ca0, ca1⟩, _⟩ := bk2 S3.out.tl.tl.tl.tl.tl.h0
          have lca := bdLt S3.out.tl.tl.tl.tl.tl.h0
          obtain ⟨⟨cb0, cb1⟩, _⟩ := bk2 S3.out.tl.tl.tl.tl.h0
          have lcb := bdLt S3.out.tl.tl.tl.tl.h0
          obtain ⟨⟨cc0, cc1⟩, _⟩ := bk2 S3.out.tl.tl.tl.h0
          have lcc := bdLt S3.out.tl.tl.tl.h0
          obtain ⟨⟨cx00, cx01⟩, _⟩ := bk2 S3.out.h0
          have lcx0 := bdLt S3.out.h0
          obtain ⟨⟨cx10, cx11⟩, _⟩ := bk2 S3.out.tl.h0
          have lcx1 := bdLt S3.out.tl.h0
          go_wp2_with fail
          clear ca0 ca1 cb0 cb1 cc0 cc1 lca lcb lcc cx00 cx01 lcx0 cx10 cx11 lcx1
          refine (D4.out _).mono ?_
          rintro r y4w ⟨rfl, hb⟩
          have S4 := Lib.hid (R3.out.on hb)
          have R4 := Lib.hid (S4.out.add (.cells #[.int .i64 s1, .int .i64 s2] 24))
          clear hb
          obtain ⟨⟨ca0, ca1⟩, _⟩ := bk2 S4.out.tl.tl.tl.tl.tl.tl.h0
          have lca := bdLt S4.out.tl.tl.tl.tl.tl.tl.h0
          obtain ⟨⟨cb0, cb1⟩, _⟩ := bk2 S4.out.tl.tl.tl.tl.tl.h0
          have lcb := bdLt S4.out.tl.tl.tl.tl.tl.h0
          obtain ⟨⟨cc0, cc1⟩, _⟩ := bk2 S4.out.tl.tl.tl.tl.h0
          have lcc := bdLt S4.out.tl.tl.tl.tl.h0
          obtain ⟨⟨cx00, cx01⟩, _⟩ := bk2 S4.out.h0
          have lcx0 := bdLt S4.out.h0
          obtain ⟨⟨cx10, cx11⟩, _⟩ := bk2 S4.out.tl.h0
          have lcx1 := bdLt S4.out.tl.h0
          obtain ⟨⟨cx20, cx21⟩, _⟩ := bk2 S4.out.tl.tl.h0
          have lcx2 := bdLt S4.out.tl.tl.h0
          go_wp2_with fail
          clear ca0 ca1 cb0 cb1 cc0 cc1 lca lcb lcc cx00 cx01 lcx0 cx10 cx11 lcx1 cx20 cx21 lcx2
          refine (D5.out _).mono ?_
          rintro r y5w ⟨rfl, hb⟩
          have S5 := Lib.hid (R4.out.on hb)
          have R5 := Lib.hid (S5.out.add (.cells #[.int .i64 t1, .int .i64 t2] 24))
          clear hb
          obtain ⟨⟨ca0, ca1⟩, _⟩ := bk2 S5.out.tl.tl.tl.tl.tl.tl.tl.h0
          have lca := bdLt S5.out.tl.tl.tl.tl.tl.tl.tl.h0
          obtain ⟨⟨cb0, cb1⟩, _⟩ := bk2 S5.out.tl.tl.tl.tl.tl.tl.h0
          have lcb := bdLt S5.out.tl.tl.tl.tl.tl.tl.h0
          obtain ⟨⟨cc0, cc1⟩, _⟩ := bk2 S5.out.tl.tl.tl.tl.tl.h0
          have lcc := bdLt S5.out.tl.tl.tl.tl.tl.h0
          obtain ⟨⟨cx00, cx01⟩, _⟩ := bk2 S5.out.h0
          have lcx0 := bdLt S5.out.h0
          obtain ⟨⟨cx10, cx11⟩, _⟩ := bk2 S5.out.tl.h0
          have lcx1 := bdLt S5.out.tl.h0
          obtain ⟨⟨cx20, cx21⟩, _⟩ := bk2 S5.out.tl.tl.h0
          have lcx2 := bdLt S5.out.tl.tl.h0
          obtain ⟨⟨cx30, cx31⟩, _⟩ := bk2 S5.out.tl.tl.tl.h0
          have lcx3 := bdLt S5.out.tl.tl.tl.h0
          go_wp2_with fail
          go_roundw
          case rel => exact ⟨by first | exact .inr (.inl rfl) | exact .inr (.inr rfl), ⟨R5.out.below, R5.out.tl.tl.tl.tl.tl.all⟩⟩
          case measure => simp [intOf]
        · obtain ⟨c1, c2, c3, c4, c5⟩ : _ ∧ _ ∧ _ ∧ _ ∧ _ := ⟨F.out.K1, F.out.K2, F.out.K3, F.out.K4, F.out.K5⟩
          rw [e1] at c1 c2
          rw [e2] at c3
          rw [e3] at c4
          have fz : (t3 == 0) = false := by simpa using e4
          have D1 := Lib.hid c1
          have D2 := Lib.hid c2
          have D3 := Lib.hid c3
          have D4 := Lib.hid c4
          have D5 := Lib.hid c5
          clear c1 c2 c3 c4 c5 e1 e2 e3 e4
          obtain ⟨⟨ca0, ca1⟩, _⟩ := bk2 R0.out.tl.tl.tl.h0
          have lca := bdLt R0.out.tl.tl.tl.h0
          obtain ⟨⟨cb0, cb1⟩, _⟩ := bk2 R0.out.tl.tl.h0
          have lcb := bdLt R0.out.tl.tl.h0
          obtain ⟨⟨cc0, cc1⟩, _⟩ := bk2 R0.out.tl.h0
          have lcc := bdLt R0.out.tl.h0
          obtain ⟨⟨cf0, cf1⟩, _⟩ := bk2 R0.out.h0
          go_wp2_with fail
          clear ca0 ca1 cb0 cb1 cc0 cc1 cf0 cf1 lca lcb lcc
          refine (D1.out _).mono ?_
          rintro r y1w ⟨rfl, hb⟩
          have S1 := Lib.hid (R0.out.on hb)
          have R1 := Lib.hid (S1.out.add (.cells #[.int .i64 p1, .int .i64 p2] 24))
          clear hb
          obtain ⟨⟨ca0, ca1⟩, _⟩ := bk2 S1.out.tl.tl.tl.h0
          have lca := bdLt S1.out.tl.tl.tl.h0
          obtain ⟨⟨cb0, cb1⟩, _⟩ := bk2 S1.out.tl.tl.h0
          have lcb := bdLt S1.out.tl.tl.h0
          obtain ⟨⟨cc0, cc1⟩, _⟩ := bk2 S1.out.tl.h0
          have lcc := bdLt S1.out.tl.h0
          go_wp2_with fail
          clear ca0 ca1 cb0 cb1 cc0 cc1 lca lcb lcc
          refine (D2.out _).mono ?_
          rintro r y2w ⟨rfl, hb⟩
          have S2 := Lib.hid (R1.out.on hb)
          have R2 := Lib.hid (S2.out.add (.cells #[.int .i64 p1, .int .i64 p2] 24))
          clear hb
          obtain ⟨⟨ca0, ca1⟩, _⟩ := bk2 S2.out.tl.tl.tl.tl.h0
          have lca := bdLt S2.out.tl.tl.tl.tl.h0
          obtain ⟨⟨cb0, cb1⟩, _⟩ := bk2 S2.out.tl.tl.tl.h0
          have lcb := bdLt S2.out.tl.tl.tl.h0
          obtain ⟨⟨cc0, cc1⟩, _⟩ := bk2 S2.out.tl.tl.h0
          have lcc := bdLt S2.out.tl.tl.h0
          obtain ⟨⟨cx00, cx01⟩, _⟩ := bk2 S2.out.h0
          have lcx0 := bdLt S2.out.h0
          go_wp2_with fail
          clear ca0 ca1 cb0 cb1 cc0 cc1 lca lcb lcc cx00 cx01 lcx0
          refine (D3.out _).mono ?_
          rintro r y3w ⟨rfl, hb⟩
          have S3 := Lib.hid (R2.out.on hb)
          have R3 := Lib.hid (S3.out.add (.cells #[.int .i64 q1, .int .i64 q2] 24))
          clear hb
          obtain ⟨⟨ca0, ca1⟩, _⟩ := bk2 S3.out.tl.tl.tl.tl.tl.h0
          have lca := bdLt S3.out.tl.tl.tl.tl.tl.h0
          obtain ⟨⟨cb0, cb1⟩, _⟩ := bk2 S3.out.tl.tl.tl.tl.h0
          have lcb := bdLt S3.out.tl.tl.tl.tl.h0
          obtain ⟨⟨cc0, cc1⟩, _⟩ := bk2 S3.out.tl.tl.tl.h0
          have lcc := bdLt S3.out.tl.tl.tl.h0
          obtain ⟨⟨cx00, cx01⟩, _⟩ := bk2 S3.out.h0
          have lcx0 := bdLt S3.out.h0
          obtain ⟨⟨cx10, cx11⟩, _⟩ := bk2 S3.out.tl.h0
          have lcx1 := bdLt S3.out.tl.h0
          go_wp2_with fail
          clear ca0 ca1 cb0 cb1 cc0 cc1 lca lcb lcc cx00 cx01 lcx0 cx10 cx11 lcx1
          refine (D4.out _).mono ?_
          rintro r y4w ⟨rfl, hb⟩
          have S4 := Lib.hid (R3.out.on hb)
          have R4 := Lib.hid (S4.out.add (.cells #[.int .i64 s1, .int .i64 s2] 24))
          clear hb
          obtain ⟨⟨ca0, ca1⟩, _⟩ := bk2 S4.out.tl.tl.tl.tl.tl.tl.h0
          have lca := bdLt S4.out.tl.tl.tl.tl.tl.tl.h0
          obtain ⟨⟨cb0, cb1⟩, _⟩ := bk2 S4.out.tl.tl.tl.tl.tl.h0
          have lcb := bdLt S4.out.tl.tl.tl.tl.tl.h0
          obtain ⟨⟨cc0, cc1⟩, _⟩ := bk2 S4.out.tl.tl.tl.tl.h0
          have lcc := bdLt S4.out.tl.tl.tl.tl.h0
          obtain ⟨⟨cx00, cx01⟩, _⟩ := bk2 S4.out.h0
          have lcx0 := bdLt S4.out.h0
          obtain ⟨⟨cx10, cx11⟩, _⟩ := bk2 S4.out.tl.h0
          have lcx1 := bdLt S4.out.tl.h0
          obtain ⟨⟨cx20, cx21⟩, _⟩ := bk2 S4.out.tl.tl.h0
          have lcx2 := bdLt S4.out.tl.tl.h0
          go_wp2_with fail
          clear ca0 ca1 cb0 cb1 cc0 cc1 lca lcb lcc cx00 cx01 lcx0 cx10 cx11 lcx1 cx20 cx21 lcx2
          refine (D5.out _).mono ?_
          rintro r y5w ⟨rfl, hb⟩
          have S5 := Lib.hid (R4.out.on hb)
          have R5 := Lib.hid (S5.out.add (.cells #[.int .i64 t1, .int .i64 t2] 24))
          clear hb
          obtain ⟨⟨ca0, ca1⟩, _⟩ := bk2 S5.out.tl.tl.tl.tl.tl.tl.tl.h0
          have lca := bdLt S5.out.tl.tl.tl.tl.tl.tl.tl.h0
          obtain ⟨⟨cb0, cb1⟩, _⟩ := bk2 S5.out.tl.tl.tl.tl.tl.tl.h0
          have lcb := bdLt S5.out.tl.tl.tl.tl.tl.tl.h0
          obtain ⟨⟨cc0, cc1⟩, _⟩ := bk2 S5.out.tl.tl.tl.tl.tl.h0
          have lcc := bdLt S5.out.tl.tl.tl.tl.tl.h0
          obtain ⟨⟨cx00, cx01⟩, _⟩ := bk2 S5.out.h0
          have lcx0 := bdLt S5.out.h0
          obtain ⟨⟨cx10, cx11⟩, _⟩ := bk2 S5.out.tl.h0
          have lcx1 := bdLt S5.out.tl.h0
          obtain ⟨⟨cx20, cx21⟩, _⟩ := bk2 S5.out.tl.tl.h0
          have lcx2 := bdLt S5.out.tl.tl.h0
          obtain ⟨⟨cx30, cx31⟩, _⟩ := bk2 S5.out.tl.tl.tl.h0
          have lcx3 := bdLt S5.out.tl.tl.tl.h0
          go_wp2_with fail
          go_roundw
          case rel => exact ⟨by first | exact .inr (.inl rfl) | exact .inr (.inr rfl), ⟨R5.out.below, R5.out.tl.tl.tl.tl.tl.all⟩⟩
          case measure => simp [intOf]
    · by_cases hall : x3 = 0 ∧ y3 = 0 ∧ o3 = 0 ∧ j3 = 0
      · obtain ⟨z1', z2', z3', z4'⟩ := hall
        obtain ⟨g1, g2⟩ := F.out.mul z1' z2' z3' z4'
        obtain ⟨c1, c2, c3, c4, c5⟩ : _ ∧ _ ∧ _ ∧ _ ∧ _ := ⟨F.out.J1, F.out.J2, F.out.J3, F.out.J4, F.out.J5⟩
        rw [z1'] at c1 c2
        rw [z2'] at c3
        rw [z3'] at c4
        rw [z4', ← g1, ← g2] at c5
        have D1 := Lib.hid c1
        have D2 := Lib.hid c2
        have D3 := Lib.hid c3
        have D4 := Lib.hid c4
        have D5 := Lib.hid c5
        clear c1 c2 c3 c4 c5 z1' z2' z3' z4' g1 g2
        obtain ⟨⟨ca0, ca1⟩, _⟩ := bk2 R0.out.tl.tl.tl.h0
        have lca := bdLt R0.out.tl.tl.tl.h0
        obtain ⟨⟨cb0, cb1⟩, _⟩ := bk2 R0.out.tl.tl.h0
        have lcb := bdLt R0.out.tl.tl.h0
        obtain ⟨⟨cc0, cc1⟩, _⟩ := bk2 R0.out.tl.h0
        have lcc := bdLt R0.out.tl.h0
        obtain ⟨⟨cf0, cf1⟩, _⟩ := bk2 R0.out.h0
        go_wp2_with fail
        clear ca0 ca1 cb0 cb1 cc0 cc1 cf0 cf1 lca lcb lcc
        refine (D1.out _).mono ?_
        rintro r y1w ⟨rfl, hb⟩
        have S1 := Lib.hid (R0.out.on hb)
        have R1 := Lib.hid (S1.out.add (.cells #[.int .i64 x1, .int .i64 x2] 24))
        clear hb
        obtain ⟨⟨ca0, ca1⟩, _⟩ := bk2 S1.out.tl.tl.tl.h0
        have lca := bdLt S1.out.tl.tl.tl.h0
        obtain ⟨⟨cb0, cb1⟩, _⟩ := bk2 S1.out.tl.tl.h0
        have lcb := bdLt S1.out.tl.tl.h0
        obtain ⟨⟨cc0, cc1⟩, _⟩ := bk2 S1.out.tl.h0
        have lcc := bdLt S1.out.tl.h0
        go_wp2_with fail
        clear ca0 ca1 cb0 cb1 cc0 cc1 lca lcb lcc
        refine (D2.out _).mono ?_
        rintro r y2w ⟨rfl, hb⟩
        have S2 := Lib.hid (R1.out.on hb)
        have R2 := Lib.hid (S2.out.add (.cells #[.int .i64 x1, .int .i64 x2] 24))
        clear hb
        obtain ⟨⟨ca0, ca1⟩, _⟩ := bk2 S2.out.tl.tl.tl.tl.h0
        have lca := bdLt S2.out.tl.tl.tl.tl.h0
        obtain ⟨⟨cb0, cb1⟩, _⟩ := bk2 S2.out.tl.tl.tl.h0
        have lcb := bdLt S2.out.tl.tl.tl.h0
        obtain ⟨⟨cc0, cc1⟩, _⟩ := bk2 S2.out.tl.tl.h0
        have lcc := bdLt S2.out.tl.tl.h0
        obtain ⟨⟨cx00, cx01⟩, _⟩ := bk2 S2.out.h0
        have lcx0 := bdLt S2.out.h0
        go_wp2_with fail
        clear ca0 ca1 cb0 cb1 cc0 cc1 lca lcb lcc cx00 cx01 lcx0
        refine (D3.out _).mono ?_
        rintro r y3w ⟨rfl, hb⟩
        have S3 := Lib.hid (R2.out.on hb)
        have R3 := Lib.hid (S3.out.add (.cells #[.int .i64 y1, .int .i64 y2] 24))
        clear hb
        obtain ⟨⟨ca0, ca1⟩, _⟩ := bk2 S3.out.tl.tl.tl.tl.tl.h0
        have lca := bdLt S3.out.tl.tl.tl.tl.tl.h0
        obtain ⟨⟨cb0, cb1⟩, _⟩ := bk2 S3.out.tl.tl.tl.tl.h0
        have lcb := bdLt S3.out.tl.tl.tl.tl.h0
        obtain ⟨⟨cc0, cc1⟩, _⟩ := bk2 S3.out.tl.tl.tl.h0
        have lcc := bdLt S3.out.tl.tl.tl.h0
        obtain ⟨⟨cx00, cx01⟩, _⟩ := bk2 S3.out.h0
        have lcx0 := bdLt S3.out.h0
        obtain ⟨⟨cx10, cx11⟩, _⟩ := bk2 S3.out.tl.h0
        have lcx1 := bdLt S3.out.tl.h0
        go_wp2_with fail
        clear ca0 ca1 cb0 cb1 cc0 cc1 lca lcb lcc cx00 cx01 lcx0 cx10 cx11 lcx1
        refine (D4.out _).mono ?_
        rintro r y4w ⟨rfl, hb⟩
        have S4 := Lib.hid (R3.out.on hb)
        have R4 := Lib.hid (S4.out.add (.cells #[.int .i64 o1, .int .i64 o2] 24))
        clear hb
        obtain ⟨⟨ca0, ca1⟩, _⟩ := bk2 S4.out.tl.tl.tl.tl.tl.tl.h0
        have lca := bdLt S4.out.tl.tl.tl.tl.tl.tl.h0
        obtain ⟨⟨cb0, cb1⟩, _⟩ := bk2 S4.out.tl.tl.tl.tl.tl.h0
        have lcb := bdLt S4.out.tl.tl.tl.tl.tl.h0
        obtain ⟨⟨cc0, cc1⟩, _⟩ := bk2 S4.out.tl.tl.tl.tl.h0
        have lcc := bdLt S4.out.tl.tl.tl.tl.h0
        obtain ⟨⟨cx00, cx01⟩, _⟩ := bk2 S4.out.h0
        have lcx0 := bdLt S4.out.h0
        obtain ⟨⟨cx10, cx11⟩, _⟩ := bk2 S4.out.tl.h0
        have lcx1 := bdLt S4.out.tl.h0
        obtain ⟨⟨cx20, cx21⟩, _⟩ := bk2 S4.out.tl.tl.h0
        have lcx2 := bdLt S4.out.tl.tl.h0
        go_wp2_with fail
        clear ca0 ca1 cb0 cb1 cc0 cc1 lca lcb lcc cx00 cx01 lcx0 cx10 cx11 lcx1 cx20 cx21 lcx2
        refine (D5.out _).mono ?_
        rintro r y5w ⟨rfl, hb⟩
        have S5 := Lib.hid (R4.out.on hb)
        have R5 := Lib.hid (S5.out.add (.cells #[.int .i64 y1, .int .i64 y2] 24))
        clear hb
        obtain ⟨⟨ca0, ca1⟩, _⟩ := bk2 S5.out.tl.tl.tl.tl.tl.tl.tl.h0
        have lca := bdLt S5.out.tl.tl.tl.tl.tl.tl.tl.h0
        obtain ⟨⟨cb0, cb1⟩, _⟩ := bk2 S5.out.tl.tl.tl.tl.tl.tl.h0
        have lcb := bdLt S5.out.tl.tl.tl.tl.tl.tl.h0
        obtain ⟨⟨cc0, cc1⟩, _⟩ := bk2 S5.out.tl.tl.tl.tl.tl.h0
        have lcc := bdLt S5.out.tl.tl.tl.tl.tl.h0
        obtain ⟨⟨cx00, cx01⟩, _⟩ := bk2 S5.out.h0
        have lcx0 := bdLt S5.out.h0
        obtain ⟨⟨cx10, cx11⟩, _⟩ := bk2 S5.out.tl.h0
        have lcx1 := bdLt S5.out.tl.h0
        obtain ⟨⟨cx20, cx21⟩, _⟩ := bk2 S5.out.tl.tl.h0
        have lcx2 := bdLt S5.out.tl.tl.h0
        obtain ⟨⟨cx30, cx31⟩, _⟩ := bk2 S5.out.tl.tl.tl.h0
        have lcx3 := bdLt S5.out.tl.tl.tl.h0
        go_wp2_with fail
        go_roundw
        case rel => exact ⟨by first | exact .inr (.inl rfl) | exact .inr (.inr rfl), ⟨R5.out.below, R5.out.tl.tl.tl.tl.tl.all⟩⟩
        case measure => simp [intOf]
      · have hcs : x3 ≠ 0 ∨ (x3 = 0 ∧ y3 ≠ 0) ∨ (x3 = 0 ∧ y3 = 0 ∧ o3 ≠ 0) ∨ (x3 = 0 ∧ y3 = 0 ∧ o3 = 0 ∧ j3 ≠ 0) := by omega
        clear hall
        rcases hcs with e1 | ⟨e1, e2⟩ | ⟨e1, e2, e3⟩ | ⟨e1, e2, e3, e4⟩
        · obtain ⟨c1, c2, c3, c4, c5⟩ : _ ∧ _ ∧ _ ∧ _ ∧ _ := ⟨F.out.J1, F.out.J2, F.out.J3, F.out.J4, F.out.J5⟩
          have fz : (x3 == 0) = false := by simpa using e1
          have D1 := Lib.hid c1
          have D2 := Lib.hid c2
          have D3 := Lib.hid c3
          have D4 := Lib.hid c4
          have D5 := Lib.hid c5
          clear c1 c2 c3 c4 c5 e1
          obtain ⟨⟨ca0, ca1⟩, _⟩ := bk2 R0.out.tl.tl.tl.h0
          have lca := bdLt R0.out.tl.tl.tl.h0
          obtain ⟨⟨cb0, cb1⟩, _⟩ := bk2 R0.out.tl.tl.h0
          have lcb := bdLt R0.out.tl.tl.h0
          obtain ⟨⟨cc0, cc1⟩, _⟩ := bk2 R0.out.tl.h0
          have lcc := bdLt R0.out.tl.h0
          obtain ⟨⟨cf0, cf1⟩, _⟩ := bk2 R0.out.h0
          go_wp2_with fail
          clear ca0 ca1 cb0 cb1 cc0 cc1 cf0 cf1 lca lcb lcc
          refine (D1.out _).mono ?_
          rintro r y1w ⟨rfl, hb⟩
          have S1 := Lib.hid (R0.out.on hb)
          have R1 := Lib.hid (S1.out.add (.cells #[.int .i64 x1, .int .i64 x2] 24))
          clear hb
          obtain ⟨⟨ca0, ca1⟩, _⟩ := bk2 S1.out.tl.tl.tl.h0
          have lca := bdLt S1.out.tl.tl.tl.h0
          obtain ⟨⟨cb0, cb1⟩, _⟩ := bk2 S1.out.tl.tl.h0
          have lcb := bdLt S1.out.tl.tl.h0
          obtain ⟨⟨cc0, cc1⟩, _⟩ := bk2 S1.out.tl.h0
          have lcc := bdLt S1.out.tl.h0
          go_wp2_with fail
          clear ca0 ca1 cb0 cb1 cc0 cc1 lca lcb lcc
          refine (D2.out _).mono ?_
          rintro r y2w ⟨rfl, hb⟩
          have S2 := Lib.hid (R1.out.on hb)
          have R2 := Lib.hid (S2.out.add (.cells #[.int .i64 x1, .int .i64 x2] 24))
          clear hb
          obtain ⟨⟨ca0, ca1⟩, _⟩ := bk2 S2.out.tl.tl.tl.tl.h0
          have lca := bdLt S2.out.tl.tl.tl.tl.h0
          obtain ⟨⟨cb0, cb1⟩, _⟩ := bk2 S2.out.tl.tl.tl.h0
          have lcb := bdLt S2.out.tl.tl.tl.h0
          obtain ⟨⟨cc0, cc1⟩, _⟩ := bk2 S2.out.tl.tl.h0
          have lcc := bdLt S2.out.tl.tl.h0
          obtain ⟨⟨cx00, cx01⟩, _⟩ := bk2 S2.out.h0
          have lcx0 := bdLt S2.out.h0
          go_wp2_with fail
          clear ca0 ca1 cb0 cb1 cc0 cc1 lca lcb lcc cx00 cx01 lcx0
          refine (D3.out _).mono ?_
          rintro r y3w ⟨rfl, hb⟩
          have S3 := Lib.hid (R2.out.on hb)
          have R3 := Lib.hid (S3.out.add (.cells #[.int .i64 y1, .int .i64 y2] 24))
          clear hb
          obtain ⟨⟨ca0, ca1⟩, _⟩ := bk2 S3.out.tl.tl.tl.tl.tl.h0
          have lca := bdLt S3.out.tl.tl.tl.tl.tl.h0
          obtain ⟨⟨cb0, cb1⟩, _⟩ := bk2 S3.out.tl.tl.tl.tl.h0
          have lcb := bdLt S3.out.tl.tl.tl.tl.h0
          obtain ⟨⟨cc0, cc1⟩, _⟩ := bk2 S3.out.tl.tl.tl.h0
          have lcc := bdLt S3.out.tl.tl.tl.h0
          obtain ⟨⟨cx00, cx01⟩, _⟩ := bk2 S3.out.h0
          have lcx0 := bdLt S3.out.h0
          obtain ⟨⟨cx10, cx11⟩, _⟩ := bk2 S3.out.tl.h0
          have lcx1 := bdLt S3.out.tl.h0
          go_wp2_with fail
          clear ca0 ca1 cb0 cb1 cc0 cc1 lca lcb lcc cx00 cx01 lcx0 cx10 cx11 lcx1
          refine (D4.out _).mono ?_
          rintro r y4w ⟨rfl, hb⟩
          have S4 := Lib.hid (R3.out.on hb)
          have R4 := Lib.hid (S4.out.add (.cells #[.int .i64 o1, .int .i64 o2] 24))
          clear hb
          obtain ⟨⟨ca0, ca1⟩, _⟩ := bk2 S4.out.tl.tl.tl.tl.tl.tl.h0
          have lca := bdLt S4.out.tl.tl.tl.tl.tl.tl.h0
          obtain ⟨⟨cb0, cb1⟩, _⟩ := bk2 S4.out.tl.tl.tl.tl.tl.h0
          have lcb := bdLt S4.out.tl.tl.tl.tl.tl.h0
          obtain ⟨⟨cc0, cc1⟩, _⟩ := bk2 S4.out.tl.tl.tl.tl.h0
          have lcc := bdLt S4.out.tl.tl.tl.tl.h0
          obtain ⟨⟨cx00, cx01⟩, _⟩ := bk2 S4.out.h0
          have lcx0 := bdLt S4.out.h0
          obtain ⟨⟨cx10, cx11⟩, _⟩ := bk2 S4.out.tl.h0
          have lcx1 := bdLt S4.out.tl.h0
          obtain ⟨⟨cx20, cx21⟩, _⟩ := bk2 S4.out.tl.tl.h0
          have lcx2 := bdLt S4.out.tl.tl.h0
          go_wp2_with fail
          clear ca0 ca1 cb0 cb1 cc0 cc1 lca lcb lcc cx00 cx01 lcx0 cx10 cx11 lcx1 cx20 cx21 lcx2
          refine (D5.out _).mono ?_
          rintro r y5w ⟨rfl, hb⟩
          have S5 := Lib.hid (R4.out.on hb)
          have R5 := Lib.hid (S5.out.add (.cells #[.int .i64 j1, .int .i64 j2] 24))
          clear hb
          obtain ⟨⟨ca0, ca1⟩, _⟩ := bk2 S5.out.tl.tl.tl.tl.tl.tl.tl.h0
          have lca := bdLt S5.out.tl.tl.tl.tl.tl.tl.tl.h0
          obtain ⟨⟨cb0, cb1⟩, _⟩ := bk2 S5.out.tl.tl.tl.tl.tl.tl.h0
          have lcb := bdLt S5.out.tl.tl.tl.tl.tl.tl.h0
          obtain ⟨⟨cc0, cc1⟩, _⟩ := bk2 S5.out.tl.tl.tl.tl.tl.h0
          have lcc := bdLt S5.out.tl.tl.tl.tl.tl.h0
          obtain ⟨⟨cx00, cx01⟩, _⟩ := bk2 S5.out.h0
          have lcx0 := bdLt S5.out.h0
          obtain ⟨⟨cx10, cx11⟩, _⟩ := bk2 S5.out.tl.h0
          have lcx1 := bdLt S5.out.tl.h0
          obtain ⟨⟨cx20, cx21⟩, _⟩ := bk2 S5.out.tl.tl.h0
          have lcx2 := bdLt S5.out.tl.tl.h0
          obtain ⟨⟨cx30, cx31⟩, _⟩ := bk2 S5.out.tl.tl.tl.h0
          have lcx3 := bdLt S5.out.tl.tl.tl.h0
          go_wp2_with fail
          go_roundw
          case rel => exact ⟨by first | exact .inr (.inl rfl) | exact .inr (.inr rfl), ⟨R5.out.below, R5.out.tl.tl.tl.tl.tl.all⟩⟩
          case measure => simp [intOf]
        · obtain ⟨c1, c2, c3, c4, c5⟩ : _ ∧ _ ∧ _ ∧ _ ∧ _ := ⟨F.out.J1, F.out.J2, F.out.J3, F.out.J4, F.out.J5⟩
          rw [e1] at c1 c2
          have fz : (y3 == 0) = false := by simpa using e2
          have D1 := Lib.hid c1
          have D2 := Lib.hid c2
          have D3 := Lib.hid c3
          have D4 := Lib.hid c4
          have D5 := Lib.hid c5
          clear c1 c2 c3 c4 c5 e1 e2
          obtain ⟨⟨ca0, ca1⟩, _⟩ := bk2 R0.out.tl.tl.tl.h0
          have lca := bdLt R0.out.tl.tl.tl.h0
          obtain ⟨⟨cb0, cb1⟩, _⟩ := bk2 R0.out.tl.tl.h0
          have lcb := bdLt R0.out.tl.tl.h0
          obtain ⟨⟨cc0, cc1⟩, _⟩ := bk2 R0.out.tl.h0
          have lcc := bdLt R0.out.tl.h0
          obtain ⟨⟨cf0, cf1⟩, _⟩ := bk2 R0.out.h0
          go_wp2_with fail
          clear ca0 ca1 cb0 cb1 cc0 cc1 cf0 cf1 lca lcb lcc
          refine (D1.out _).mono ?_
          rintro r y1w ⟨rfl, hb⟩
          have S1 := Lib.hid (R0.out.on hb)
          have R1 := Lib.hid (S1.out.add (.cells #[.int .i64 x1, .int .i64 x2] 24))
          clear hb
          obtain ⟨⟨ca0, ca1⟩, _⟩ := bk2 S1.out.tl.tl.tl.h0
          have lca := bdLt S1.out.tl.tl.tl.h0
          obtain ⟨⟨cb0, cb1⟩, _⟩ := bk2 S1.out.tl.tl.h0
          have lcb := bdLt S1.out.tl.tl.h0
          obtain ⟨⟨cc0, cc1⟩, _⟩ := bk2 S1.out.tl.h0
          have lcc := bdLt S1.out.tl.h0
          go_wp2_with fail
          clear ca0 ca1 cb0 cb1 cc0 cc1 lca lcb lcc
          refine (D2.out _).mono ?_
          rintro r y2w ⟨rfl, hb⟩
          have S2 := Lib.hid (R1.out.on hb)
          have R2 := Lib.hid (S2.out.add (.cells #[.int .i64 x1, .int .i64 x2] 24))
          clear hb
          obtain ⟨⟨ca0, ca1⟩, _⟩ := bk2 S2.out.tl.tl.tl.tl.h0
          have lca := bdLt S2.out.tl.tl.tl.tl.h0
          obtain ⟨⟨cb0, cb1⟩, _⟩ := bk2 S2.out.tl.tl.tl.h0
          have lcb := bdLt S2.out.tl.tl.tl.h0
          obtain ⟨⟨cc0, cc1⟩, _⟩ := bk2 S2.out.tl.tl.h0
          have lcc := bdLt S2.out.tl.tl.h0
          obtain ⟨⟨cx00, cx01⟩, _⟩ := bk2 S2.out.h0
          have lcx0 := bdLt S2.out.h0
          go_wp2_with fail
          clear ca0 ca1 cb0 cb1 cc0 cc1 lca lcb lcc cx00 cx01 lcx0
          refine (D3.out _).mono ?_
          rintro r y3w ⟨rfl, hb⟩
          have S3 := Lib.hid (R2.out.on hb)
          have R3 := Lib.hid (S3.out.add (.cells #[.int .i64 y1, .int .i64 y2] 24))
          clear hb
          obtain ⟨⟨ca0, ca1⟩, _⟩ := bk2 S3.out.tl.tl.tl.tl.tl.h0
          have lca := bdLt S3.out.tl.tl.tl.tl.tl.h0
          obtain ⟨⟨cb0, cb1⟩, _⟩ := bk2 S3.out.tl.tl.tl.tl.h0
          have lcb := bdLt S3.out.tl.tl.tl.tl.h0
          obtain ⟨⟨cc0, cc1⟩, _⟩ := bk2 S3.out.tl.tl.tl.h0
          have lcc := bdLt S3.out.tl.tl.tl.h0
          obtain ⟨⟨cx00, cx01⟩, _⟩ := bk2 S3.out.h0
          have lcx0 := bdLt S3.out.h0
          obtain ⟨⟨cx10, cx11⟩, _⟩ := bk2 S3.out.tl.h0
          have lcx1 := bdLt S3.out.tl.h0
          go_wp2_with fail
          clear ca0 ca1 cb0 cb1 cc0 cc1 lca lcb lcc cx00 cx01 lcx0 cx10 cx11 lcx1
          refine (D4.out _).mono ?_
          rintro r y4w ⟨rfl, hb⟩
          have S4 := Lib.hid (R3.out.on hb)
          have R4 := Lib.hid (S4.out.add (.cells #[.int .i64 o1, .int .i64 o2] 24))
          clear hb
          obtain ⟨⟨ca0, ca1⟩, _⟩ := bk2 S4.out.tl.tl.tl.tl.tl.tl.h0
          have lca := bdLt S4.out.tl.tl.tl.tl.tl.tl.h0
          obtain ⟨⟨cb0, cb1⟩, _⟩ := bk2 S4.out.tl.tl.tl.tl.tl.h0
          have lcb := bdLt S4.out.tl.tl.tl.tl.tl.h0
          obtain ⟨⟨cc0, cc1⟩, _⟩ := bk2 S4.out.tl.tl.tl.tl.h0
          have lcc := bdLt S4.out.tl.tl.tl.tl.h0
          obtain ⟨⟨cx00, cx01⟩, _⟩ := bk2 S4.out.h0
          have lcx0 := bdLt S4.out.h0
          obtain ⟨⟨cx10, cx11⟩, _⟩ := bk2 S4.out.tl.h0
          have lcx1 := bdLt S4.out.tl.h0
          obtain ⟨⟨cx20, cx21⟩, _⟩ := bk2 S4.out.tl.tl.h0
          have lcx2 := bdLt S4.out.tl.tl.h0
          go_wp2_with fail
          clear ca0 ca1 cb0 cb1 cc0 cc1 lca lcb lcc cx00 cx01 lcx0 cx10 cx11 lcx1 cx20 cx21 lcx2
          refine (D5.out _).mono ?_
          rintro r y5w ⟨rfl, hb⟩
          have S5 := Lib.hid (R4.out.on hb)
          have R5 := Lib.hid (S5.out.add (.cells #[.int .i64 j1, .int .i64 j2] 24))
          clear hb
          obtain ⟨⟨ca0, ca1⟩, _⟩ := bk2 S5.out.tl.tl.tl.tl.tl.tl.tl.h0
          have lca := bdLt S5.out.tl.tl.tl.tl.tl.tl.tl.h0
          obtain ⟨⟨cb0, cb1⟩, _⟩ := bk2 S5.out.tl.tl.tl.tl.tl.tl.h0
          have lcb := bdLt S5.out.tl.tl.tl.tl.tl.tl.h0
          obtain ⟨⟨cc0, cc1⟩, _⟩ := bk2 S5.out.tl.tl.tl.tl.tl.h0
          have lcc := bdLt S5.out.tl.tl.tl.tl.tl.h0
          obtain ⟨⟨cx00, cx01⟩, _⟩ := bk2 S5.out.h0
          have lcx0 := bdLt S5.out.h0
          obtain ⟨⟨cx10, cx11⟩, _⟩ := bk2 S5.out.tl.h0
          have lcx1 := bdLt S5.out.tl.h0
          obtain ⟨⟨cx20, cx21⟩, _⟩ := bk2 S5.out.tl.tl.h0
          have lcx2 := bdLt S5.out.tl.tl.h0
          obtain ⟨⟨cx30, cx31⟩, _⟩ := bk2 S5.out.tl.tl.tl.h0
          have lcx3 := bdLt S5.out.tl.tl.tl.h0
          go_wp2_with fail
          go_roundw
          case rel => exact ⟨by first | exact .inr (.inl rfl) | exact .inr (.inr rfl), ⟨R5.out.below, R5.out.tl.tl.tl.tl.tl.all⟩⟩
          case measure => simp [intOf]
        · obtain ⟨c1, c2, c3, c4, c5⟩ : _ ∧ _ ∧ _ ∧ _ ∧ _ := ⟨F.out.J1, F.out.J2, F.out.J3, F.out.J4, F.out.J5⟩
          rw [e1] at c1 c2
          rw [e2] at c3
          have fz : (o3 == 0) = false := by simpa using e3
          have D1 := Lib.hid c1
          have D2 := Lib.hid c2
          have D3 := Lib.hid c3
          have D4 := Lib.hid c4
          have D5 := Lib.hid c5
          clear c1 c2 c3 c4 c5 e1 e2 e3
          obtain ⟨⟨ca0, ca1⟩, _⟩ := bk2 R0.out.tl.tl.tl.h0
          have lca := bdLt R0.out.tl.tl.tl.h0
          obtain ⟨⟨cb0, cb1⟩, _⟩ := bk2 R0.out.tl.tl.h0
          have lcb := bdLt R0.out.tl.tl.h0
          obtain ⟨⟨cc0, cc1⟩, _⟩ := bk2 R0.out.tl.h0
          have lcc := bdLt R0.out.tl.h0
          obtain ⟨⟨cf0, cf1⟩, _⟩ := bk2 R0.out.h0
          go_wp2_with fail
          clear ca0 ca1 cb0 cb1 cc0 cc1 cf0 cf1 lca lcb lcc
          refine (D1.out _).mono ?_
          rintro r y1w ⟨rfl, hb⟩
          have S1 := Lib.hid (R0.out.on hb)
          have R1 := Lib.hid (S1.out.add (.cells #[.int .i64 x1, .int .i64 x2] 24))
          clear hb
          obtain ⟨⟨ca0, ca1⟩, _⟩ := bk2 S1.out.tl.tl.tl.h0
          have lca := bdLt S1.out.tl.tl.tl.h0
          obtain ⟨⟨cb0, cb1⟩, _⟩ := bk2 S1.out.tl.tl.h0
          have lcb := bdLt S1.out.tl.tl.h0
          obtain ⟨⟨cc0, cc1⟩, _⟩ := bk2 S1.out.tl.h0
          have lcc := bdLt S1.out.tl.h0
          go_wp2_with fail
          clear ca0 ca1 cb0 cb1 cc0 cc1 lca lcb lcc
          refine (D2.out _).mono ?_
          rintro r y2w ⟨rfl, hb⟩
          have S2 := Lib.hid (R1.out.on hb)
          have R2 := Lib.hid (S2.out.add (.cells #[.int .i64 x1, .int .i64 x2] 24))
          clear hb
          obtain ⟨⟨ca0, ca1⟩, _⟩ := bk2 S2.out.tl.tl.tl.tl.h0
          have lca := bdLt S2.out.tl.tl.tl.tl.h0
          obtain ⟨⟨cb0, cb1⟩, _⟩ := bk2 S2.out.tl.tl.tl.h0
          have lcb := bdLt S2.out.tl.tl.tl.h0
          obtain ⟨⟨cc0, cc1⟩, _⟩ := bk2 S2.out.tl.tl.h0
          have lcc := bdLt S2.out.tl.tl.h0
          obtain ⟨⟨cx00, cx01⟩, _⟩ := bk2 S2.out.h0
          have lcx0 := bdLt S2.out.h0
          go_wp2_with fail
          clear ca0 ca1 cb0 cb1 cc0 cc1 lca lcb lcc cx00 cx01 lcx0
          refine (D3.out _).mono ?_
          rintro r y3w ⟨rfl, hb⟩
          have S3 := Lib.hid (R2.out.on hb)
          have R3 := Lib.hid (S3.out.add (.cells #[.int .i64 y1, .int .i64 y2] 24))
          clear hb
          obtain ⟨⟨ca0, ca1⟩, _⟩ := bk2 S3.out.tl.tl.tl.tl.tl.h0
          have lca := bdLt S3.out.tl.tl.tl.tl.tl.h0
          obtain ⟨⟨cb0, cb1⟩, _⟩ := bk2 S3.out.tl.tl.tl.tl.h0
          have lcb := bdLt S3.out.tl.tl.tl.tl.h0
          obtain ⟨⟨cc0, cc1⟩, _⟩ := bk2 S3.out.tl.tl.tl.h0
          have lcc := bdLt S3.out.tl.tl.tl.h0
          obtain ⟨⟨cx00, cx01⟩, _⟩ := bk2 S3.out.h0
          have lcx0 := bdLt S3.out.h0
          obtain ⟨⟨cx10, cx11⟩, _⟩ := bk2 S3.out.tl.h0
          have lcx1 := bdLt S3.out.tl.h0
          go_wp2_with fail
          clear ca0 ca1 cb0 cb1 cc0 cc1 lca lcb lcc cx00 cx01 lcx0 cx10 cx11 lcx1
          refine (D4.out _).mono ?_
          rintro r y4w ⟨rfl, hb⟩
          have S4 := Lib.hid (R3.out.on hb)
          have R4 := Lib.hid (S4.out.add (.cells #[.int .i64 o1, .int .i64 o2] 24))
          clear hb
          obtain ⟨⟨ca0, ca1⟩, _⟩ := bk2 S4.out.tl.tl.tl.tl.tl.tl.h0
          have lca := bdLt S4.out.tl.tl.tl.tl.tl.tl.h0
          obtain ⟨⟨cb0, cb1⟩, _⟩ := bk2 S4.out.tl.tl.tl.tl.tl.h0
          have lcb := bdLt S4.out.tl.tl.tl.tl.tl.h0
          obtain ⟨⟨cc0, cc1⟩, _⟩ := bk2 S4.out.tl.tl.tl.tl.h0
          have lcc := bdLt S4.out.tl.tl.tl.tl.h0
          obtain ⟨⟨cx00, cx01⟩, _⟩ := bk2 S4.out.h0
          have lcx0 := bdLt S4.out.h0
          obtain ⟨⟨cx10, cx11⟩, _⟩ := bk2 S4.out.tl.h0
          have lcx1 := bdLt S4.out.tl.h0
          obtain ⟨⟨cx20, cx21⟩, _⟩ := bk2 S4.out.tl.tl.h0
          have lcx2 := bdLt S4.out.tl.tl.h0
          go_wp2_with fail
          clear ca0 ca1 cb0 cb1 cc0 cc1 lca lcb lcc cx00 cx01 lcx0 cx10 cx11 lcx1 cx20 cx21 lcx2
          refine (D5.out _).mono ?_
          rintro r y5w ⟨rfl, hb⟩
          have S5 := Lib.hid (R4.out.on hb)
          have R5 := Lib.hid (S5.out.add (.cells #[.int .i64 j1, .int .i64 j2] 24))
          clear hb
          obtain ⟨⟨ca0, ca1⟩, _⟩ := bk2 S5.out.tl.tl.tl.tl.tl.tl.tl.h0
          have lca := bdLt S5.out.tl.tl.tl.tl.tl.tl.tl.h0
          obtain ⟨⟨cb0, cb1⟩, _⟩ := bk2 S5.out.tl.tl.tl.tl.tl.tl.h0
          have lcb := bdLt S5.out.tl.tl.tl.tl.tl.tl.h0
          obtain ⟨⟨cc0, cc1⟩, _⟩ := bk2 S5.out.tl.tl.tl.tl.tl.h0
          have lcc := bdLt S5.out.tl.tl.tl.tl.tl.h0
          obtain ⟨⟨cx00, cx01⟩, _⟩ := bk2 S5.out.h0
          have lcx0 := bdLt S5.out.h0
          obtain ⟨⟨cx10, cx11⟩, _⟩ := bk2 S5.out.tl.h0
          have lcx1 := bdLt S5.out.tl.h0
          obtain ⟨⟨cx20, cx21⟩, _⟩ := bk2 S5.out.tl.tl.h0
          have lcx2 := bdLt S5.out.tl.tl.h0
          obtain ⟨⟨cx30, cx31⟩, _⟩ := bk2 S5.out.tl.tl.tl.h0
          have lcx3 := bdLt S5.out.tl.tl.tl.h0
          go_wp2_with fail
          go_roundw
          case rel => exact ⟨by first | exact .inr (.inl rfl) | exact .inr (.inr rfl), ⟨R5.out.below, R5.out.tl.tl.tl.tl.tl.all⟩⟩
          case measure => simp [intOf]
        · obtain ⟨c1, c2, c3, c4, c5⟩ : _ ∧ _ ∧ _ ∧ _ ∧ _ := ⟨F.out.J1, F.out.J2, F.out.J3, F.out.J4, F.out.J5⟩
          rw [e1] at c1 c2
          rw [e2] at c3
          rw [e3] at c4
          have fz : (j3 == 0) = false := by simpa using e4
          have D1 := Lib.hid c1
          have D2 := Lib.hid c2
          have D3 := Lib.hid c3
          have D4 := Lib.hid c4
          have D5 := Lib.hid c5
          clear c1 c2 c3 c4 c5 e1 e2 e3 e4
          obtain ⟨⟨ca0, ca1⟩, _⟩ := bk2 R0.out.tl.tl.tl.h0
          have lca := bdLt R0.out.tl.tl.tl.h0
          obtain ⟨⟨cb0, cb1⟩, _⟩ := bk2 R0.out.tl.tl.h0
          have lcb := bdLt R0.out.tl.tl.h0
          obtain ⟨⟨cc0, cc1⟩, _⟩ := bk2 R0.out.tl.h0
          have lcc := bdLt R0.out.tl.h0
          obtain ⟨⟨cf0, cf1⟩, _⟩ := bk2 R0.out.h0
          go_wp2_with fail
          clear ca0 ca1 cb0 cb1 cc0 cc1 cf0 cf1 lca lcb lcc
          refine (D1.out _).mono ?_
          rintro r y1w ⟨rfl, hb⟩
          have S1 := Lib.hid (R0.out.on hb)
          have R1 := Lib.hid (S1.out.add (.cells #[.int .i64 x1, .int .i64 x2] 24))
          clear hb
          obtain ⟨⟨ca0, ca1⟩, _⟩ := bk2 S1.out.tl.tl.tl.h0
          have lca := bdLt S1.out.tl.tl.tl.h0
          obtain ⟨⟨cb0, cb1⟩, _⟩ := bk2 S1.out.tl.tl.h0
          have lcb := bdLt S1.out.tl.tl.h0
          obtain ⟨⟨cc0, cc1⟩, _⟩ := bk2 S1.out.tl.h0
          have lcc := bdLt S1.out.tl.h0
          go_wp2_with fail
          clear ca0 ca1 cb0 cb1 cc0 cc1 lca lcb lcc
          refine (D2.out _).mono ?_
          rintro r y2w ⟨rfl, hb⟩
          have S2 := Lib.hid (R1.out.on hb)
          have R2 := Lib.hid (S2.out.add (.cells #[.int .i64 x1, .int .i64 x2] 24))
          clear hb
          obtain ⟨⟨ca0, ca1⟩, _⟩ := bk2 S2.out.tl.tl.tl.tl.h0
          have lca := bdLt S2.out.tl.tl.tl.tl.h0
          obtain ⟨⟨cb0, cb1⟩, _⟩ := bk2 S2.out.tl.tl.tl.h0
          have lcb := bdLt S2.out.tl.tl.tl.h0
          obtain ⟨⟨cc0, cc1⟩, _⟩ := bk2 S2.out.tl.tl.h0
          have lcc := bdLt S2.out.tl.tl.h0
          obtain ⟨⟨cx00, cx01⟩, _⟩ := bk2 S2.out.h0
          have lcx0 := bdLt S2.out.h0
          go_wp2_with fail
          clear ca0 ca1 cb0 cb1 cc0 cc1 lca lcb lcc cx00 cx01 lcx0
          refine (D3.out _).mono ?_
          rintro r y3w ⟨rfl, hb⟩
          have S3 := Lib.hid (R2.out.on hb)
          have R3 := Lib.hid (S3.out.add (.cells #[.int .i64 y1, .int .i64 y2] 24))
          clear hb
          obtain ⟨⟨ca0, ca1⟩, _⟩ := bk2 S3.out.tl.tl.tl.tl.tl.h0
          have lca := bdLt S3.out.tl.tl.tl.tl.tl.h0
          obtain ⟨⟨cb0, cb1⟩, _⟩ := bk2 S3.out.tl.tl.tl.tl.h0
          have lcb := bdLt S3.out.tl.tl.tl.tl.h0
          obtain ⟨⟨cc0, cc1⟩, _⟩ := bk2 S3.out.tl.tl.tl.h0
          have lcc := bdLt S3.out.tl.tl.tl.h0
          obtain ⟨⟨cx00, cx01⟩, _⟩ := bk2 S3.out.h0
          have lcx0 := bdLt S3.out.h0
          obtain ⟨⟨cx10, cx11⟩, _⟩ := bk2 S3.out.tl.h0
          have lcx1 := bdLt S3.out.tl.h0
          go_wp2_with fail
          clear ca0 ca1 cb0 cb1 cc0 cc1 lca lcb lcc cx00 cx01 lcx0 cx10 cx11 lcx1
          refine (D4.out _).mono ?_
          rintro r y4w ⟨rfl, hb⟩
          have S4 := Lib.hid (R3.out.on hb)
          have R4 := Lib.hid (S4.out.add (.cells #[.int .i64 o1, .int .i64 o2] 24))
          clear hb
          obtain ⟨⟨ca0, ca1⟩, _⟩ := bk2 S4.out.tl.tl.tl.tl.tl.tl.h0
          have lca := bdLt S4.out.tl.tl.tl.tl.tl.tl.h0
          obtain ⟨⟨cb0, cb1⟩, _⟩ := bk2 S4.out.tl.tl.tl.tl.tl.h0
          have lcb := bdLt S4.out.tl.tl.tl.tl.tl.h0
          obtain ⟨⟨cc0, cc1⟩, _⟩ := bk2 S4.out.tl.tl.tl.tl.h0
          have lcc := bdLt S4.out.tl.tl.tl.tl.h0
          obtain ⟨⟨cx00, cx01⟩, _⟩ := bk2 S4.out.h0
          have lcx0 := bdLt S4.out.h0
          obtain ⟨⟨cx10, cx11⟩, _⟩ := bk2 S4.out.tl.h0
          have lcx1 := bdLt S4.out.tl.h0
          obtain ⟨⟨cx20, cx21⟩, _⟩ := bk2 S4.out.tl.tl.h0
          have lcx2 := bdLt S4.out.tl.tl.h0
          go_wp2_with fail
          clear ca0 ca1 cb0 cb1 cc0 cc1 lca lcb lcc cx00 cx01 lcx0 cx10 cx11 lcx1 cx20 cx21 lcx2
          refine (D5.out _).mono ?_
          rintro r y5w ⟨rfl, hb⟩
          have S5 := Lib.hid (R4.out.on hb)
          have R5 := Lib.hid (S5.out.add (.cells #[.int .i64 j1, .int .i64 j2] 24))
          clear hb
          obtain ⟨⟨ca0, ca1⟩, _⟩ := bk2 S5.out.tl.tl.tl.tl.tl.tl.tl.h0
          have lca := bdLt S5.out.tl.tl.tl.tl.tl.tl.tl.h0
          obtain ⟨⟨cb0, cb1⟩, _⟩ := bk2 S5.out.tl.tl.tl.tl.tl.tl.h0
          have lcb := bdLt S5.out.tl.tl.tl.tl.tl.tl.h0
          obtain ⟨⟨cc0, cc1⟩, _⟩ := bk2 S5.out.tl.tl.tl.tl.tl.h0
          have lcc := bdLt S5.out.tl.tl.tl.tl.tl.h0
          obtain ⟨⟨cx00, cx01⟩, _⟩ := bk2 S5.out.h0
          have lcx0 := bdLt S5.out.h0
          obtain ⟨⟨cx10, cx11⟩, _⟩ := bk2 S5.out.tl.h0
          have lcx1 := bdLt S5.out.tl.h0
          obtain ⟨⟨cx20, cx21⟩, _⟩ := bk2 S5.out.tl.tl.h0
          have lcx2 := bdLt S5.out.tl.tl.h0
          obtain ⟨⟨cx30, cx31⟩, _⟩ := bk2 S5.out.tl.tl.tl.h0
          have lcx3 := bdLt S5.out.tl.tl.tl.h0
          go_wp2_with fail
          go_roundw
          case rel => exact ⟨by first | exact .inr (.inl rfl) | exact .inr (.inr rfl), ⟨R5.out.below, R5.out.tl.tl.tl.tl.tl.all⟩⟩
          case measure => simp [intOf]
    · have _tk : True := trivial
      obtain ⟨⟨ca0, ca1⟩, _⟩ := bk2 R0.out.tl.tl.tl.h0
      have lca := bdLt R0.out.tl.tl.tl.h0
      obtain ⟨⟨cb0, cb1⟩, _⟩ := bk2 R0.out.tl.tl.h0
      have lcb := bdLt R0.out.tl.tl.h0
      obtain ⟨⟨cc0, cc1⟩, _⟩ := bk2 R0.out.tl.h0
      have lcc := bdLt R0.out.tl.h0
      go_wp2_with fail
      clear ca0 ca1 cb0 cb1 cc0 cc1 lca lcb lcc
      refine (F.out.K4 _).mono ?_
      rintro r wa19 ⟨rfl, hb⟩
      have S19 := Lib.hid (R0.out.on hb)
      have R19 := Lib.hid (S19.out.add (.cells #[.int .i64 s1, .int .i64 s2] 24))
      clear hb
      obtain ⟨⟨c_a0, c_a1⟩, _⟩ := bk2 S19.out.tl.tl.tl.h0
      have lc_a := bdLt S19.out.tl.tl.tl.h0
      obtain ⟨⟨c_b0, c_b1⟩, _⟩ := bk2 S19.out.tl.tl.h0
      have lc_b := bdLt S19.out.tl.tl.h0
      obtain ⟨⟨c_c0, c_c1⟩, _⟩ := bk2 S19.out.tl.h0
      have lc_c := bdLt S19.out.tl.h0
      go_wp2_with fail
      clear c_a0 c_a1 lc_a c_b0 c_b1 lc_b c_c0 c_c1 lc_c
      refine (F.out.L2 _).mono ?_
      rintro r wa21 ⟨rfl, hb⟩
      have S21 := Lib.hid (R19.out.on hb)
      have R21 := Lib.hid (S21.out.add (.cells #[.int .i64 u1, .int .i64 u2] 24))
      clear hb
      obtain ⟨⟨c_a0, c_a1⟩, _⟩ := bk2 S21.out.tl.tl.tl.tl.h0
      have lc_a := bdLt S21.out.tl.tl.tl.tl.h0
      obtain ⟨⟨c_b0, c_b1⟩, _⟩ := bk2 S21.out.tl.tl.tl.h0
      have lc_b := bdLt S21.out.tl.tl.tl.h0
      obtain ⟨⟨c_c0, c_c1⟩, _⟩ := bk2 S21.out.tl.tl.h0
      have lc_c := bdLt S21.out.tl.tl.h0
      obtain ⟨⟨c_s0, c_s1⟩, _⟩ := bk2 S21.out.h0
      have lc_s := bdLt S21.out.h0
      go_wp2_with fail
      clear c_a0 c_a1 lc_a c_b0 c_b1 lc_b c_c0 c_c1 lc_c c_s0 c_s1 lc_s
      refine (F.out.J1 _).mono ?_
      rintro r wa23 ⟨rfl, hb⟩
      have S23 := Lib.hid (R21.out.on hb)
      have R23 := Lib.hid (S23.out.add (.cells #[.int .i64 x1, .int .i64 x2] 24))
      clear hb
      obtain ⟨⟨c_a0, c_a1⟩, _⟩ := bk2 S23.out.tl.tl.tl.tl.tl.h0
      have lc_a := bdLt S23.out.tl.tl.tl.tl.tl.h0
      obtain ⟨⟨c_b0, c_b1⟩, _⟩ := bk2 S23.out.tl.tl.tl.tl.h0
      have lc_b := bdLt S23.out.tl.tl.tl.tl.h0
      obtain ⟨⟨c_c0, c_c1⟩, _⟩ := bk2 S23.out.tl.tl.tl.h0
      have lc_c := bdLt S23.out.tl.tl.tl.h0
      obtain ⟨⟨c_u0, c_u1⟩, _⟩ := bk2 S23.out.h0
      have lc_u := bdLt S23.out.h0
      obtain ⟨⟨c_s0, c_s1⟩, _⟩ := bk2 S23.out.tl.h0
      have lc_s := bdLt S23.out.tl.h0
      go_wp2_with fail
      clear c_a0 c_a1 lc_a c_b0 c_b1 lc_b c_c0 c_c1 lc_c c_u0 c_u1 lc_u c_s0 c_s1 lc_s
      refine (F.out.L4 _).mono ?_
      rintro r wa25 ⟨rfl, hb⟩
      have S25 := Lib.hid (R23.out.on hb)
      have R25 := Lib.hid (S25.out.add (.cells #[.int .i64 v1, .int .i64 v2] 24))
      clear hb
      obtain ⟨⟨c_a0, c_a1⟩, _⟩ := bk2 S25.out.tl.tl.tl.tl.tl.tl.h0
      have lc_a := bdLt S25.out.tl.tl.tl.tl.tl.tl.h0
      obtain ⟨⟨c_b0, c_b1⟩, _⟩ := bk2 S25.out.tl.tl.tl.tl.tl.h0
      have lc_b := bdLt S25.out.tl.tl.tl.tl.tl.h0
      obtain ⟨⟨c_c0, c_c1⟩, _⟩ := bk2 S25.out.tl.tl.tl.tl.h0
      have lc_c := bdLt S25.out.tl.tl.tl.tl.h0
      obtain ⟨⟨c_x0, c_x1⟩, _⟩ := bk2 S25.out.h0
      have lc_x := bdLt S25.out.h0
      obtain ⟨⟨c_u0, c_u1⟩, _⟩ := bk2 S25.out.tl.h0
      have lc_u := bdLt S25.out.tl.h0
      obtain ⟨⟨c_s0, c_s1⟩, _⟩ := bk2 S25.out.tl.tl.h0
      have lc_s := bdLt S25.out.tl.tl.h0
      go_wp2_with fail
      clear c_a0 c_a1 lc_a c_b0 c_b1 lc_b c_c0 c_c1 lc_c c_x0 c_x1 lc_x c_u0 c_u1 lc_u c_s0 c_s1 lc_s
      refine (F.out.L5 _).mono ?_
      rintro r wa27 ⟨rfl, hb⟩
      have S27 := Lib.hid (R25.out.on hb)
      have R27 := Lib.hid (S27.out.add (.cells #[.int .i64 z1, .int .i64 z2] 24))
      clear hb
      go_upto_region 23 with fail
      go_cut [20, 22, 24, 26, 28, 172] from 38 (fun _ _ _ _ _ v wx => v = .bool false ∧ Hd w wx ((wa27.heap.size, (.cells #[.int .i64 z1, .int .i64 z2] 24)) :: (wa25.heap.size, (.cells #[.int .i64 v1, .int .i64 v2] 24)) :: (wa23.heap.size, (.cells #[.int .i64 x1, .int .i64 x2] 24)) :: (wa21.heap.size, (.cells #[.int .i64 u1, .int .i64 u2] 24)) :: (wa19.heap.size, (.cells #[.int .i64 s1, .int .i64 s2] 24)) :: (w3.heap.size, (.cells #[.func (.func 17) #[] #[], .func (.func 19) #[] #[]] 32)) :: (w.heap.size + 1 + 1, (.cells #[.int .i64 k, .int .i64 f] 24)) :: (w.heap.size + 1, (.cells #[.int .i64 m, .int .i64 e] 24)) :: (w.heap.size, (.cells #[.int .i64 n, .int .i64 d] 24)) :: []))
      case first =>
        by_cases hall : s3 = 0 ∧ u3 = 0 ∧ x3 = 0 ∧ v3 = 0 ∧ z3 = 0
        · obtain ⟨k1, k2, k3, k4, k5⟩ := hall
          obtain ⟨j1', j2'⟩ := F.out.dst k1 k2 k3 k4 k5
          obtain ⟨⟨cu0, cu1⟩, _⟩ := bk2 S27.out.tl.tl.h0
          have lcu := bdLt S27.out.tl.tl.h0
          go_wp2_with fail
          all_goals (go_meet; exact ⟨by first | rfl | simp [*], R27.out⟩)
        · have hcs : s3 ≠ 0 ∨ (s3 = 0 ∧ u3 ≠ 0) ∨ (s3 = 0 ∧ u3 = 0 ∧ x3 ≠ 0) ∨ (s3 = 0 ∧ u3 = 0 ∧ x3 = 0 ∧ v3 ≠ 0) ∨ (s3 = 0 ∧ u3 = 0 ∧ x3 = 0 ∧ v3 = 0 ∧ z3 ≠ 0) := by omega
          clear hall
          rcases hcs with e1 | ⟨e1, e2⟩ | ⟨e1, e2, e3⟩ | ⟨e1, e2, e3, e4⟩ | ⟨e1, e2, e3, e4, e5⟩
          · have fz : (s3 == 0) = false := by simpa using e1
            clear e1
            go_wp2_with fail
            all_goals (go_meet; exact ⟨by first | rfl | simp [*], R27.out⟩)
          · have fz : (u3 == 0) = false := by simpa using e2
            clear e2
            go_wp2_with fail
            all_goals (go_meet; exact ⟨by first | rfl | simp [*], R27.out⟩)
          · have fz : (x3 == 0) = false := by simpa using e3
            clear e3
            go_wp2_with fail
            all_goals (go_meet; exact ⟨by first | rfl | simp [*], R27.out⟩)
          · have fz : (v3 == 0) = false := by simpa using e4
            clear e4
            go_wp2_with fail
            all_goals (go_meet; exact ⟨by first | rfl | simp [*], R27.out⟩)
          · have fz : (z3 == 0) = false := by simpa using e5
            clear e5
            go_wp2_with fail
            all_goals (go_meet; exact ⟨by first | rfl | simp [*], R27.out⟩)
      case rest =>
        obtain ⟨rfl, hcut⟩ := hcut
        have R28 := Lib.hid hcut
        clear hcut
        obtain ⟨⟨c_a0, c_a1⟩, _⟩ := bk2 R28.out.tl.tl.tl.tl.tl.tl.tl.tl.h0
        have lc_a := bdLt R28.out.tl.tl.tl.tl.tl.tl.tl.tl.h0
        obtain ⟨⟨c_b0, c_b1⟩, _⟩ := bk2 R28.out.tl.tl.tl.tl.tl.tl.tl.h0
        have lc_b := bdLt R28.out.tl.tl.tl.tl.tl.tl.tl.h0
        go_wp2_with fail
        clear c_a0 c_a1 lc_a c_b0 c_b1 lc_b
        refine (F.out.M1 _).mono ?_
        rintro r wa29 ⟨rfl, hb⟩
        have S29 := Lib.hid (R28.out.on hb)
        have R29 := Lib.hid (S29.out.add (.cells #[.int .i64 g1, .int .i64 g2] 24))
        clear hb
        obtain ⟨⟨c_a0, c_a1⟩, _⟩ := bk2 S29.out.tl.tl.tl.tl.tl.tl.tl.tl.h0
        have lc_a := bdLt S29.out.tl.tl.tl.tl.tl.tl.tl.tl.h0
        obtain ⟨⟨c_b0, c_b1⟩, _⟩ := bk2 S29.out.tl.tl.tl.tl.tl.tl.tl.h0
        have lc_b := bdLt S29.out.tl.tl.tl.tl.tl.tl.tl.h0
        go_wp2_with fail
        clear c_a0 c_a1 lc_a c_b0 c_b1 lc_b
        refine (F.out.M2 _).mono ?_
        rintro r wa31 ⟨rfl, hb⟩
        have S31 := Lib.hid (R29.out.on hb)
        have R31 := Lib.hid (S31.out.add (.cells #[.int .i64 h1, .int .i64 h2] 24))
        clear hb
        go_upto_region 27 with fail
        go_cut [30, 32, 195] from 38 (fun _ _ v wx => v = .bool false ∧ Hd w wx ((wa31.heap.size, (.cells #[.int .i64 h1, .int .i64 h2] 24)) :: (wa29.heap.size, (.cells #[.int .i64 g1, .int .i64 g2] 24)) :: (wa27.heap.size, (.cells #[.int .i64 z1, .int .i64 z2] 24)) :: (wa25.heap.size, (.cells #[.int .i64 v1, .int .i64 v2] 24)) :: (wa23.heap.size, (.cells #[.int .i64 x1, .int .i64 x2] 24)) :: (wa21.heap.size, (.cells #[.int .i64 u1, .int .i64 u2] 24)) :: (wa19.heap.size, (.cells #[.int .i64 s1, .int .i64 s2] 24)) :: (w3.heap.size, (.cells #[.func (.func 17) #[] #[], .func (.func 19) #[] #[]] 32)) :: (w.heap.size + 1 + 1, (.cells #[.int .i64 k, .int .i64 f] 24)) :: (w.heap.size + 1, (.cells #[.int .i64 m, .int .i64 e] 24)) :: (w.heap.size, (.cells #[.int .i64 n, .int .i64 d] 24)) :: []))
        case first =>
          by_cases hg : g3 = 0
          · obtain ⟨j1', j2', j3'⟩ := F.out.sub hg
            obtain ⟨⟨ca0, ca1⟩, _⟩ := bk2 S31.out.tl.tl.tl.tl.tl.tl.tl.tl.tl.h0
            have lca := bdLt S31.out.tl.tl.tl.tl.tl.tl.tl.tl.tl.h0
            go_wp2_with fail
            all_goals (go_meet; first | exact ⟨by first | rfl | simp [*], R31.out⟩ | (refine ⟨by first | rfl | simp [*], ?_⟩; have hz := R31.out; simp only [j2', j3'] at hz ⊢; exact hz))
          · have fz : (g3 == 0) = false := by simpa using hg
            clear hg
            go_wp2_with fail
            all_goals (go_meet; first | exact ⟨by first | rfl | simp [*], R31.out⟩ | (refine ⟨by first | rfl | simp [*], ?_⟩; have hz := R31.out; simp only [j2', j3'] at hz ⊢; exact hz))
        case rest =>
          obtain ⟨rfl, hcut⟩ := hcut
          have R32 := Lib.hid hcut
          clear hcut
          obtain ⟨⟨c_a0, c_a1⟩, _⟩ := bk2 R32.out.tl.tl.tl.tl.tl.tl.tl.tl.tl.tl.h0
          have lc_a := bdLt R32.out.tl.tl.tl.tl.tl.tl.tl.tl.tl.tl.h0
          obtain ⟨⟨c_b0, c_b1⟩, _⟩ := bk2 R32.out.tl.tl.tl.tl.tl.tl.tl.tl.tl.h0
          have lc_b := bdLt R32.out.tl.tl.tl.tl.tl.tl.tl.tl.tl.h0
          go_wp2_with fail
          clear c_a0 c_a1 lc_a c_b0 c_b1 lc_b
          refine (F.out.M3 _).mono ?_
          rintro r wa33 ⟨rfl, hb⟩
          have S33 := Lib.hid (R32.out.on hb)
          have R33 := Lib.hid (S33.out.add (.cells #[.int .i64 i1, .int .i64 i2] 24))
          clear hb
          obtain ⟨⟨c_b0, c_b1⟩, _⟩ := bk2 S33.out.tl.tl.tl.tl.tl.tl.tl.tl.tl.h0
          have lc_b := bdLt S33.out.tl.tl.tl.tl.tl.tl.tl.tl.tl.h0
          go_wp2_with fail
          clear c_b0 c_b1 lc_b
          refine (F.out.M4 _).mono ?_
          rintro r wa35 ⟨rfl, hb⟩
          have R35 := Lib.hid (R33.out.on hb)
          clear hb
          obtain ⟨⟨c_a0, c_a1⟩, _⟩ := bk2 R35.out.tl.tl.tl.tl.tl.tl.tl.tl.tl.tl.tl.h0
          have lc_a := bdLt R35.out.tl.tl.tl.tl.tl.tl.tl.tl.tl.tl.tl.h0
          obtain ⟨⟨c_b0, c_b1⟩, _⟩ := bk2 R35.out.tl.tl.tl.tl.tl.tl.tl.tl.tl.tl.h0
          have lc_b := bdLt R35.out.tl.tl.tl.tl.tl.tl.tl.tl.tl.tl.h0
          have hh := R35.out.tl.h0
          obtain ⟨⟨ch0, ch1⟩, fh0, fh1⟩ := bk2 hh
          have lh := bdLt hh
          have nah : w.heap.size < wa31.heap.size := by have := bdLt S31.out.tl.tl.tl.tl.tl.tl.tl.tl.tl.h0; exact this
          have nbh : w.heap.size + 1 < wa31.heap.size := by have := bdLt S31.out.tl.tl.tl.tl.tl.tl.tl.tl.h0; exact this
          clear hh
          by_cases hm : m = 0
          · have hi := F.out.dvz hm
            go_wp2_with fail
            all_goals go_ret
            all_goals exact ⟨by first | rfl | simp [*], (R35.out.below.setCell (by simp; omega) _).setCell (by simp; omega) _⟩
          · have fm : (m == 0) = false := by simpa using hm
            by_cases hi : i3 = 0
            · obtain ⟨j1', j2', j3'⟩ := F.out.dvn hm hi
              go_wp2_with fail
              all_goals go_ret
              all_goals exact ⟨by first | rfl | simp [*], (R35.out.below.setCell (by simp; omega) _).setCell (by simp; omega) _⟩
            · have fi : (i3 != 0) = true := by simpa using hi
              clear hi hm
              go_wp2_with fail
              all_goals go_ret
              all_goals exact ⟨by first | rfl | simp [*], (R35.out.below.setCell (by simp; omega) _).setCell (by simp; omega) _⟩
end Go.Proofs.YtmebdieflllgcaaDoor
