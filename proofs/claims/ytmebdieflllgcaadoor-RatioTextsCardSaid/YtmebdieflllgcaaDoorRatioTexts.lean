/- RatioTexts: the law's walk. -/
import Derived.Test.YtmebdieflllgcaaDoorRatTg
import Derived.Test.YtmebdieflllgcaaDoorRatW
namespace Go.Proofs.YtmebdieflllgcaaDoor
open Go.RowKit
set_option maxRecDepth 100000

theorem txt_zero : txtL 0 1 = [48] := by
  unfold txtL Lib.itoa
  rw [if_pos rfl, if_neg (by omega), Lib.decDigits, dif_pos (by decide)]
  rfl
theorem vF_zero : vF 0 1 := by unfold vF; decide
theorem refRes_nil : refRes [] = (0, 0, false) := by
  refine refRes_no fun n d h => ?_
  have := h.2
  unfold txtL at this
  split at this
  · have h2 := congrArg List.length this
    unfold Lib.itoa at h2
    split at h2
    · simp at h2
    · exact dec_ne _ (List.length_eq_zero_iff.1 h2)
  · simp at this
set_option maxHeartbeats 4000000 in
theorem refParse_empty (w : World) : Calls Tryd.prog 32 #[.string ⟨#[]⟩] w fun e w' => e = .returned (.tuple #[.agg #[.int .i64 0, .int .i64 0], .bool false]) ∧ Below w.heap.size w w' := by
  have k1 : ∀ W, Calls Tryd.prog 48 #[.string ⟨#[]⟩, .int .i64 0] W fun e w' => e = .returned (.tuple #[.int .i64 0, .int .i64 0]) ∧ W = w' := fun W => digits_any ⟨#[]⟩ 0 W (by simp) (by simp [ByteArray.size])
  have C1 := Lib.hid k1
  have V := Lib.hid (fun W => refValid_ok 0 1 W (vldB_true.2 vF_zero))
  have kx := fun W => refText_any 0 1 W vF_zero
  rw [txt_zero] at kx
  have CX := Lib.hid kx
  have H0 := Lib.hid (((Hd.nil w).add (.cells #[.int .i64 0, .int .i64 0] 24)).add (.cells #[.int .i64 0, .int .i64 1] 24))
  simp only [World.size_alloc] at H0
  clear k1 kx
  go_enter Tryd.func32, Tryd.ntmps32
  go_wp2_with fail
  refine (C1.out _).mono ?_
  rintro r wx ⟨rfl, rfl⟩
  obtain ⟨⟨z0, z1⟩, _⟩ := bk2 H0.out.h0
  go_wp2_with fail
  clear z0 z1
  refine (V.out _).mono ?_
  rintro r w1 ⟨rfl, hb⟩
  have G1 := Lib.hid (H0.out.on hb)
  clear hb
  obtain ⟨⟨z0, z1⟩, _⟩ := bk2 G1.out.h0
  go_wp2_with fail
  clear z0 z1
  refine (CX.out _).mono ?_
  rintro r w2 ⟨rfl, hb⟩
  have G2 := Lib.hid (G1.out.on hb)
  clear hb
  obtain ⟨⟨z0, z1⟩, y0, y1⟩ := bk2 G2.out.tl.h0
  obtain ⟨⟨v0, v1⟩, _⟩ := bk2 G2.out.h0
  have lz := bdLt G2.out.h0
  go_wp2_with fail
  exact bodyPost_ret (v := .tuple #[.agg #[.int .i64 0, .int .i64 0], .bool false]) (by simp [results, Tryd.results32, go_sem, z0, z1]) rfl ⟨rfl, (G2.out.below.setCell (by simp) _).setCell (by simp) _⟩
theorem refParse_any (s : ByteArray) (w : World) (hs : s.size ≤ 200) :
    Calls Tryd.prog 32 #[.string s] w fun e w' => e = .returned (.tuple #[.agg #[.int .i64 (refRes s.data.toList).1, .int .i64 (refRes s.data.toList).2.1], .bool (refRes s.data.toList).2.2]) ∧ Below w.heap.size w w' := by
  by_cases h0 : 0 < s.size
  · exact refParse_full s w h0 hs
  · obtain rfl : s = ⟨#[]⟩ := by
      apply ByteArray.ext
      apply Array.eq_empty_of_size_eq_zero
      show s.size = 0
      omega
    have := refParse_empty w
    have e : refRes (ByteArray.mk #[]).data.toList = (0, 0, false) := refRes_nil
    rw [e]
    exact this

set_option maxHeartbeats 4000000 in
theorem ratioTexts_long (n m : Int) (s : ByteArray) (w : World) (hg : Gl w) (hs : 200 < s.size) : Calls Tryd.prog 6 #[.agg #[.int .i64 n, .int .i64 m], .string s] w fun r w' => r = .returned (.bool true) ∧ Below w.heap.size w w' := by
  have hsI : (200 : Int) < (s.size : Int) := by omega
  have HG := Lib.hid (hg.on ((Hd.nil w).add (.cells #[.int .i64 n, .int .i64 m] 24)).below)
  have H0 := Lib.hid ((Hd.nil w).add (.cells #[.int .i64 n, .int .i64 m] 24))
  clear hg hs
  go_enter Tryd.func6, Tryd.ntmps6
  go_wp2_with fail
  refine (awake04_any _ HG.out.pw).mono ?_
  rintro r w0 ⟨rfl, hb⟩
  have G0 := Lib.hid (H0.out.on hb)
  clear hb
  go_wp2_with fail
  go_ret
  exact ⟨rfl, G0.out.below⟩

set_option maxHeartbeats 8000000 in
theorem ratioTexts_yv (n m x y : Int) (s TX : ByteArray) (w : World) (hg : Gl w) (hs : s.size ≤ 200) (k1 : ∀ W, Gl W → Calls Tryd.prog 31 #[.string s] W fun e w' => e = .returned (.tuple #[.agg #[.int .i64 x, .int .i64 y], .int .i64 0]) ∧ Below W.heap.size W w')
    (k2 : ∀ W, Calls Tryd.prog 32 #[.string s] W fun e w' => e = .returned (.tuple #[.agg #[.int .i64 x, .int .i64 y], .bool true]) ∧ Below W.heap.size W w')
    (k3 : ∀ W, Gl W → Calls Tryd.prog 33 #[.agg #[.int .i64 n, .int .i64 m]] W fun e w' => e = .returned (.tuple #[.string TX, .int .i64 0]) ∧ Below W.heap.size W w')
    (hv : vldB n m = true)
    (k5 : ∀ W, Gl W → Calls Tryd.prog 31 #[.string TX] W fun e w' => e = .returned (.tuple #[.agg #[.int .i64 n, .int .i64 m], .int .i64 0]) ∧ Below W.heap.size W w')
    (k6 : ∀ W, Calls Tryd.prog 34 #[.agg #[.int .i64 n, .int .i64 m]] W fun e w' => e = .returned (.string TX) ∧ Below W.heap.size W w') :
    Calls Tryd.prog 6 #[.agg #[.int .i64 n, .int .i64 m], .string s] w fun r w' => r = .returned (.bool true) ∧ Below w.heap.size w w' := by
  have hsI : ¬ (200 : Int) < (s.size : Int) := by omega
  have C1 := Lib.hid k1
  have C2 := Lib.hid k2
  have C3 := Lib.hid k3
  have V := Lib.hid (fun W => refValid_ok n m W hv)
  have C5 := Lib.hid k5
  have C6 := Lib.hid k6
  have HGW := Lib.hid hg
  have HG := Lib.hid (hg.on ((Hd.nil w).add (.cells #[.int .i64 n, .int .i64 m] 24)).below)
  have H0 := Lib.hid ((Hd.nil w).add (.cells #[.int .i64 n, .int .i64 m] 24))
  clear k1 k2 k3 hv hg hs k5 k6
  go_enter Tryd.func6, Tryd.ntmps6
  go_wp2_with fail
  refine (awake04_any _ HG.out.pw).mono ?_
  rintro r w0 ⟨rfl, hb⟩
  have G0 := Lib.hid (H0.out.on hb)
  have HG0 := Lib.hid (HG.out.on hb)
  clear hb
  go_wp2_with fail
  refine (C1.out _ HG0.out).mono ?_
  rintro r w1 ⟨rfl, hb⟩
  have K1 := Lib.hid (G0.out.on hb)
  have G1 := Lib.hid (K1.out.add (.cells #[.int .i64 x, .int .i64 y] 24))
  clear hb
  go_wp2_with fail
  refine (C2.out _).mono ?_
  rintro r w2 ⟨rfl, hb⟩
  have K2 := Lib.hid (G1.out.on hb)
  have G2 := Lib.hid (K2.out.add (.cells #[.int .i64 x, .int .i64 y] 24))
  clear hb
  obtain ⟨⟨p0, p1⟩, _⟩ := bk2 K2.out.h0
  have lp := bdLt K2.out.h0
  obtain ⟨⟨q0, q1⟩, _⟩ := bk2 K2.out.tl.h0
  have lq := bdLt K2.out.tl.h0
  go_wp2_with fail
  clear p0 p1 lp q0 q1 lq
  refine (C3.out _ (HGW.out.on G2.out.below)).mono ?_
  rintro r w3 ⟨rfl, hb⟩
  have G3 := Lib.hid (G2.out.on hb)
  clear hb
  obtain ⟨⟨q0, q1⟩, _⟩ := bk2 G3.out.tl.tl.h0
  have lq := bdLt G3.out.tl.tl.h0
  go_wp2_with fail
  clear q0 q1 lq
  refine (V.out _).mono ?_
  rintro r w4 ⟨rfl, hb⟩
  have G4 := Lib.hid (G3.out.on hb)
  clear hb
  go_wp2_with fail
  refine (C5.out _ (HGW.out.on G4.out.below)).mono ?_
  rintro r w5 ⟨rfl, hb⟩
  have K5 := Lib.hid (G4.out.on hb)
  have G5 := Lib.hid (K5.out.add (.cells #[.int .i64 n, .int .i64 m] 24))
  clear hb
  obtain ⟨⟨q0, q1⟩, _⟩ := bk2 K5.out.tl.tl.h0
  have lq := bdLt K5.out.tl.tl.h0
  go_wp2_with fail
  clear q0 q1 lq
  refine (C6.out _).mono ?_
  rintro r w6 ⟨rfl, hb⟩
  have G6 := Lib.hid (G5.out.on hb)
  clear hb
  obtain ⟨⟨p0, p1⟩, _⟩ := bk2 G6.out.h0
  have lp := bdLt G6.out.h0
  obtain ⟨⟨q0, q1⟩, _⟩ := bk2 G6.out.tl.tl.tl.h0
  have lq := bdLt G6.out.tl.tl.tl.h0
  go_wp2_with fail
  go_ret
  exact ⟨rfl, G6.out.below⟩

set_option maxHeartbeats 8000000 in
theorem ratioTexts_yi (n m x y : Int) (s TX : ByteArray) (w : World) (hg : Gl w) (hs : s.size ≤ 200) (k1 : ∀ W, Gl W → Calls Tryd.prog 31 #[.string s] W fun e w' => e = .returned (.tuple #[.agg #[.int .i64 x, .int .i64 y], .int .i64 0]) ∧ Below W.heap.size W w')
    (k2 : ∀ W, Calls Tryd.prog 32 #[.string s] W fun e w' => e = .returned (.tuple #[.agg #[.int .i64 x, .int .i64 y], .bool true]) ∧ Below W.heap.size W w')
    (k3 : ∀ W, Gl W → Calls Tryd.prog 33 #[.agg #[.int .i64 n, .int .i64 m]] W fun e w' => e = .returned (.tuple #[.string ⟨#[]⟩, .int .i64 1]) ∧ Below W.heap.size W w')
    (hv : vldB n m = false) :
    Calls Tryd.prog 6 #[.agg #[.int .i64 n, .int .i64 m], .string s] w fun r w' => r = .returned (.bool true) ∧ Below w.heap.size w w' := by
  have hsI : ¬ (200 : Int) < (s.size : Int) := by omega
  have C1 := Lib.hid k1
  have C2 := Lib.hid k2
  have C3 := Lib.hid k3
  have V := Lib.hid (fun W => refValid_no n m W hv)
  have HGW := Lib.hid hg
  have HG := Lib.hid (hg.on ((Hd.nil w).add (.cells #[.int .i64 n, .int .i64 m] 24)).below)
  have H0 := Lib.hid ((Hd.nil w).add (.cells #[.int .i64 n, .int .i64 m] 24))
  clear k1 k2 k3 hv hg hs
  go_enter Tryd.func6, Tryd.ntmps6
  go_wp2_with fail
  refine (awake04_any _ HG.out.pw).mono ?_
  rintro r w0 ⟨rfl, hb⟩
  have G0 := Lib.hid (H0.out.on hb)
  have HG0 := Lib.hid (HG.out.on hb)
  clear hb
  go_wp2_with fail
  refine (C1.out _ HG0.out).mono ?_
  rintro r w1 ⟨rfl, hb⟩
  have K1 := Lib.hid (G0.out.on hb)
  have G1 := Lib.hid (K1.out.add (.cells #[.int .i64 x, .int .i64 y] 24))
  clear hb
  go_wp2_with fail
  refine (C2.out _).mono ?_
  rintro r w2 ⟨rfl, hb⟩
  have K2 := Lib.hid (G1.out.on hb)
  have G2 := Lib.hid (K2.out.add (.cells #[.int .i64 x, .int .i64 y] 24))
  clear hb
  obtain ⟨⟨p0, p1⟩, _⟩ := bk2 K2.out.h0
  have lp := bdLt K2.out.h0
  obtain ⟨⟨q0, q1⟩, _⟩ := bk2 K2.out.tl.h0
  have lq := bdLt K2.out.tl.h0
  go_wp2_with fail
  clear p0 p1 lp q0 q1 lq
  refine (C3.out _ (HGW.out.on G2.out.below)).mono ?_
  rintro r w3 ⟨rfl, hb⟩
  have G3 := Lib.hid (G2.out.on hb)
  clear hb
  obtain ⟨⟨q0, q1⟩, _⟩ := bk2 G3.out.tl.tl.h0
  have lq := bdLt G3.out.tl.tl.h0
  go_wp2_with fail
  clear q0 q1 lq
  refine (V.out _).mono ?_
  rintro r w4 ⟨rfl, hb⟩
  have G4 := Lib.hid (G3.out.on hb)
  clear hb
  go_wp2_with fail
  go_ret
  exact ⟨rfl, G4.out.below⟩

set_option maxHeartbeats 8000000 in
theorem ratioTexts_nv (n m x y : Int) (s TX : ByteArray) (w : World) (hg : Gl w) (hs : s.size ≤ 200) (k1 : ∀ W, Gl W → Calls Tryd.prog 31 #[.string s] W fun e w' => e = .returned (.tuple #[.agg #[.int .i64 0, .int .i64 0], .int .i64 7]) ∧ Below W.heap.size W w')
    (k2 : ∀ W, Calls Tryd.prog 32 #[.string s] W fun e w' => e = .returned (.tuple #[.agg #[.int .i64 0, .int .i64 0], .bool false]) ∧ Below W.heap.size W w')
    (k3 : ∀ W, Gl W → Calls Tryd.prog 33 #[.agg #[.int .i64 n, .int .i64 m]] W fun e w' => e = .returned (.tuple #[.string TX, .int .i64 0]) ∧ Below W.heap.size W w')
    (hv : vldB n m = true)
    (k5 : ∀ W, Gl W → Calls Tryd.prog 31 #[.string TX] W fun e w' => e = .returned (.tuple #[.agg #[.int .i64 n, .int .i64 m], .int .i64 0]) ∧ Below W.heap.size W w')
    (k6 : ∀ W, Calls Tryd.prog 34 #[.agg #[.int .i64 n, .int .i64 m]] W fun e w' => e = .returned (.string TX) ∧ Below W.heap.size W w') :
    Calls Tryd.prog 6 #[.agg #[.int .i64 n, .int .i64 m], .string s] w fun r w' => r = .returned (.bool true) ∧ Below w.heap.size w w' := by
  have hsI : ¬ (200 : Int) < (s.size : Int) := by omega
  have C1 := Lib.hid k1
  have C2 := Lib.hid k2
  have C3 := Lib.hid k3
  have V := Lib.hid (fun W => refValid_ok n m W hv)
  have C5 := Lib.hid k5
  have C6 := Lib.hid k6
  have HGW := Lib.hid hg
  have HG := Lib.hid (hg.on ((Hd.nil w).add (.cells #[.int .i64 n, .int .i64 m] 24)).below)
  have H0 := Lib.hid ((Hd.nil w).add (.cells #[.int .i64 n, .int .i64 m] 24))
  clear k1 k2 k3 hv hg hs k5 k6
  go_enter Tryd.func6, Tryd.ntmps6
  go_wp2_with fail
  refine (awake04_any _ HG.out.pw).mono ?_
  rintro r w0 ⟨rfl, hb⟩
  have G0 := Lib.hid (H0.out.on hb)
  have HG0 := Lib.hid (HG.out.on hb)
  clear hb
  go_wp2_with fail
  refine (C1.out _ HG0.out).mono ?_
  rintro r w1 ⟨rfl, hb⟩
  have K1 := Lib.hid (G0.out.on hb)
  have G1 := Lib.hid (K1.out.add (.cells #[.int .i64 0, .int .i64 0] 24))
  clear hb
  go_wp2_with fail
  refine (C2.out _).mono ?_
  rintro r w2 ⟨rfl, hb⟩
  have K2 := Lib.hid (G1.out.on hb)
  have G2 := Lib.hid (K2.out.add (.cells #[.int .i64 0, .int .i64 0] 24))
  clear hb
  obtain ⟨⟨p0, p1⟩, _⟩ := bk2 K2.out.h0
  have lp := bdLt K2.out.h0
  obtain ⟨⟨q0, q1⟩, _⟩ := bk2 K2.out.tl.h0
  have lq := bdLt K2.out.tl.h0
  go_wp2_with fail
  clear p0 p1 lp q0 q1 lq
  refine (C3.out _ (HGW.out.on G2.out.below)).mono ?_
  rintro r w3 ⟨rfl, hb⟩
  have G3 := Lib.hid (G2.out.on hb)
  clear hb
  obtain ⟨⟨q0, q1⟩, _⟩ := bk2 G3.out.tl.tl.h0
  have lq := bdLt G3.out.tl.tl.h0
  go_wp2_with fail
  clear q0 q1 lq
  refine (V.out _).mono ?_
  rintro r w4 ⟨rfl, hb⟩
  have G4 := Lib.hid (G3.out.on hb)
  clear hb
  go_wp2_with fail
  refine (C5.out _ (HGW.out.on G4.out.below)).mono ?_
  rintro r w5 ⟨rfl, hb⟩
  have K5 := Lib.hid (G4.out.on hb)
  have G5 := Lib.hid (K5.out.add (.cells #[.int .i64 n, .int .i64 m] 24))
  clear hb
  obtain ⟨⟨q0, q1⟩, _⟩ := bk2 K5.out.tl.tl.h0
  have lq := bdLt K5.out.tl.tl.h0
  go_wp2_with fail
  clear q0 q1 lq
  refine (C6.out _).mono ?_
  rintro r w6 ⟨rfl, hb⟩
  have G6 := Lib.hid (G5.out.on hb)
  clear hb
  obtain ⟨⟨p0, p1⟩, _⟩ := bk2 G6.out.h0
  have lp := bdLt G6.out.h0
  obtain ⟨⟨q0, q1⟩, _⟩ := bk2 G6.out.tl.tl.tl.h0
  have lq := bdLt G6.out.tl.tl.tl.h0
  go_wp2_with fail
  go_ret
  exact ⟨rfl, G6.out.below⟩

set_option maxHeartbeats 8000000 in
theorem ratioTexts_ni (n m x y : Int) (s TX : ByteArray) (w : World) (hg : Gl w) (hs : s.size ≤ 200) (k1 : ∀ W, Gl W → Calls Tryd.prog 31 #[.string s] W fun e w' => e = .returned (.tuple #[.agg #[.int .i64 0, .int .i64 0], .int .i64 7]) ∧ Below W.heap.size W w')
    (k2 : ∀ W, Calls Tryd.prog 32 #[.string s] W fun e w' => e = .returned (.tuple #[.agg #[.int .i64 0, .int .i64 0], .bool false]) ∧ Below W.heap.size W w')
    (k3 : ∀ W, Gl W → Calls Tryd.prog 33 #[.agg #[.int .i64 n, .int .i64 m]] W fun e w' => e = .returned (.tuple #[.string ⟨#[]⟩, .int .i64 1]) ∧ Below W.heap.size W w')
    (hv : vldB n m = false) :
    Calls Tryd.prog 6 #[.agg #[.int .i64 n, .int .i64 m], .string s] w fun r w' => r = .returned (.bool true) ∧ Below w.heap.size w w' := by
  have hsI : ¬ (200 : Int) < (s.size : Int) := by omega
  have C1 := Lib.hid k1
  have C2 := Lib.hid k2
  have C3 := Lib.hid k3
  have V := Lib.hid (fun W => refValid_no n m W hv)
  have HGW := Lib.hid hg
  have HG := Lib.hid (hg.on ((Hd.nil w).add (.cells #[.int .i64 n, .int .i64 m] 24)).below)
  have H0 := Lib.hid ((Hd.nil w).add (.cells #[.int .i64 n, .int .i64 m] 24))
  clear k1 k2 k3 hv hg hs
  go_enter Tryd.func6, Tryd.ntmps6
  go_wp2_with fail
  refine (awake04_any _ HG.out.pw).mono ?_
  rintro r w0 ⟨rfl, hb⟩
  have G0 := Lib.hid (H0.out.on hb)
  have HG0 := Lib.hid (HG.out.on hb)
  clear hb
  go_wp2_with fail
  refine (C1.out _ HG0.out).mono ?_
  rintro r w1 ⟨rfl, hb⟩
  have K1 := Lib.hid (G0.out.on hb)
  have G1 := Lib.hid (K1.out.add (.cells #[.int .i64 0, .int .i64 0] 24))
  clear hb
  go_wp2_with fail
  refine (C2.out _).mono ?_
  rintro r w2 ⟨rfl, hb⟩
  have K2 := Lib.hid (G1.out.on hb)
  have G2 := Lib.hid (K2.out.add (.cells #[.int .i64 0, .int .i64 0] 24))
  clear hb
  obtain ⟨⟨p0, p1⟩, _⟩ := bk2 K2.out.h0
  have lp := bdLt K2.out.h0
  obtain ⟨⟨q0, q1⟩, _⟩ := bk2 K2.out.tl.h0
  have lq := bdLt K2.out.tl.h0
  go_wp2_with fail
  clear p0 p1 lp q0 q1 lq
  refine (C3.out _ (HGW.out.on G2.out.below)).mono ?_
  rintro r w3 ⟨rfl, hb⟩
  have G3 := Lib.hid (G2.out.on hb)
  clear hb
  obtain ⟨⟨q0, q1⟩, _⟩ := bk2 G3.out.tl.tl.h0
  have lq := bdLt G3.out.tl.tl.h0
  go_wp2_with fail
  clear q0 q1 lq
  refine (V.out _).mono ?_
  rintro r w4 ⟨rfl, hb⟩
  have G4 := Lib.hid (G3.out.on hb)
  clear hb
  go_wp2_with fail
  go_ret
  exact ⟨rfl, G4.out.below⟩

theorem ratioTexts_any (n m : Int) (s : ByteArray) (w : World) (hg : Gl w) : Calls Tryd.prog 6 #[.agg #[.int .i64 n, .int .i64 m], .string s] w fun r w' => r = .returned (.bool true) ∧ Below w.heap.size w w' := by
  by_cases hs : s.size ≤ 200
  · have kr := fun W => refParse_any s W hs
    have kv : ∀ hv : vldB n m = true, (∀ W, Gl W → Calls Tryd.prog 31 #[.string ⟨(txtL n m).toArray⟩] W fun e w' => e = .returned (.tuple #[.agg #[.int .i64 n, .int .i64 m], .int .i64 0]) ∧ Below W.heap.size W w') := fun hv W hW => by
      have hpa : PA (ByteArray.mk (txtL n m).toArray).data.toList n m := ⟨vldB_true.1 hv, by rw [bytes_of]⟩
      have hl : (ByteArray.mk (txtL n m).toArray).size ≤ 300 := by
        rw [size_of]
        obtain ⟨a1, a2, a3, a4, _⟩ := vldB_true.1 hv
        have l1 := itoa_len n (by omega) (by omega)
        have l2 := itoa_len m (by omega) (by omega)
        unfold txtL
        split
        · omega
        · simp only [List.length_append, List.length_cons, List.length_nil]; omega
      exact Parse_yes _ n m W hW hl hpa
    have kt : ∀ hv : vldB n m = true, (∀ W, Calls Tryd.prog 34 #[.agg #[.int .i64 n, .int .i64 m]] W fun e w' => e = .returned (.string ⟨(txtL n m).toArray⟩) ∧ Below W.heap.size W w') := fun hv W => refText_any n m W (vldB_true.1 hv)
    by_cases hpa : ∃ x y, PA s.data.toList x y
    · obtain ⟨x, y, hp⟩ := hpa
      rw [refRes_yes hp] at kr
      have k1 := fun W (hW : Gl W) => Parse_yes s x y W hW (by omega) hp
      cases hv : vldB n m with
      | true => exact ratioTexts_yv n m x y s _ w hg hs k1 kr (text_is (txF_ok hv)) hv (kv hv) (kt hv)
      | false => exact ratioTexts_yi n m x y s s w hg hs k1 kr (text_is (txF_no hv)) hv
    · have hno : ∀ x y, ¬ PA s.data.toList x y := fun x y h => hpa ⟨x, y, h⟩
      rw [refRes_no hno] at kr
      have k1 := fun W (hW : Gl W) => Parse_no s W hW (by omega) hno
      cases hv : vldB n m with
      | true => exact ratioTexts_nv n m 0 0 s _ w hg hs k1 kr (text_is (txF_ok hv)) hv (kv hv) (kt hv)
      | false => exact ratioTexts_ni n m 0 0 s s w hg hs k1 kr (text_is (txF_no hv)) hv
  · exact ratioTexts_long n m s w hg (by omega)
end Go.Proofs.YtmebdieflllgcaaDoor
