/- The reference's Parse: its walk. -/
import Derived.Test.YtmebdieflllgcaaDoorRatTc
import Derived.Test.YtmebdieflllgcaaDoorHeld
namespace Go.Proofs.YtmebdieflllgcaaDoor
open Go.RowKit
set_option maxRecDepth 100000

set_option maxHeartbeats 8000000 in
theorem refParse_nA (s X : ByteArray) (P _D x y : Int) (K _L : Nat) (b : Bool) (w : World) (hs0 : 0 < s.size) (hs : s.size ≤ 200) (hP0 : 0 ≤ P) (hP : P < 100000000000)
    (h45 : ((s[0].toNat : Int) == 45) = true)
    (k1 : ∀ W, Calls Tryd.prog 48 #[.string s, .int .i64 1] W fun e w' => e = .returned (.tuple #[.int .i64 P, .int .i64 (K : Int)]) ∧ W = w')
    (hK : ¬ K < s.size)
    (kt : vldB (-P) 1 = true → ∀ W, Calls Tryd.prog 34 #[.agg #[.int .i64 (-P), .int .i64 1]] W fun e w' => e = .returned (.string X) ∧ Below W.heap.size W w')
    (hr : (¬ K = s.size ∧ x = 0 ∧ y = 0 ∧ b = false) ∨ (K = s.size ∧ vldB (-P) 1 = false ∧ x = 0 ∧ y = 0 ∧ b = false) ∨ (K = s.size ∧ vldB (-P) 1 = true ∧ (X.toList == s.toList) = false ∧ x = 0 ∧ y = 0 ∧ b = false) ∨ (K = s.size ∧ vldB (-P) 1 = true ∧ X = s ∧ x = -P ∧ y = 1 ∧ b = true)) :
    Calls Tryd.prog 32 #[.string s] w fun e w' => e = .returned (.tuple #[.agg #[.int .i64 x, .int .i64 y], .bool b]) ∧ Below w.heap.size w w' := by
  have C1 := Lib.hid k1
  have CT := Lib.hid kt
  have HR := Lib.hid hr
  have g0 : (0 : Int) < (s.size : Int) := by omega
  have H0 := Lib.hid (((Hd.nil w).add (.cells #[.int .i64 0, .int .i64 0] 24)).add (.cells #[.int .i64 (-P), .int .i64 1] 24))
  simp only [World.size_alloc] at H0
  clear k1 kt hr
  go_enter Tryd.func32, Tryd.ntmps32
  go_wp2_with fail
  refine (C1.out _).mono ?_
  rintro r wx ⟨rfl, rfl⟩
  have gK : ¬ (K : Int) < (s.size : Int) := by omega
  rcases HR.out with ⟨e1, rfl, rfl, rfl⟩ | ⟨e1, e2, rfl, rfl, rfl⟩ | ⟨e1, e2, e3, rfl, rfl, rfl⟩ | ⟨e1, e2, e3, e5, e6, rfl⟩
  · have fk : ((K : Int) != (s.size : Int)) = true := by simp; omega
    clear e1
    obtain ⟨⟨z0, z1⟩, y0, y1⟩ := bk2 H0.out.tl.h0
    go_wp2_with fail
    exact bodyPost_ret (v := .tuple #[.agg #[.int .i64 0, .int .i64 0], .bool false]) (by simp [results, Tryd.results32, go_sem, z0, z1]) rfl ⟨rfl, H0.out.below⟩
  · have fk : ((K : Int) != (s.size : Int)) = false := by simp; omega
    have V := Lib.hid (fun W => refValid_no (-P) 1 W e2)
    clear e1 e2
    obtain ⟨⟨z0, z1⟩, _⟩ := bk2 H0.out.h0
    go_wp2_with fail
    clear z0 z1
    refine (V.out _).mono ?_
    rintro r w1 ⟨rfl, hb⟩
    have G1 := Lib.hid (H0.out.on hb)
    clear hb
    obtain ⟨⟨z0, z1⟩, y0, y1⟩ := bk2 G1.out.tl.h0
    obtain ⟨⟨v0, v1⟩, _⟩ := bk2 G1.out.h0
    have lz := bdLt G1.out.h0
    go_wp2_with fail
    exact bodyPost_ret (v := .tuple #[.agg #[.int .i64 0, .int .i64 0], .bool false]) (by simp [results, Tryd.results32, go_sem, z0, z1]) rfl ⟨rfl, (G1.out.below.setCell (by simp) _).setCell (by simp) _⟩
  · have fk : ((K : Int) != (s.size : Int)) = false := by simp; omega
    have V := Lib.hid (fun W => refValid_ok (-P) 1 W e2)
    have CX := Lib.hid (CT.out e2)
    have E3 := Lib.hid e3
    clear e3
    clear e1 e2
    obtain ⟨⟨z0, z1⟩, _⟩ := bk2 H0.out.h0
    go_wp2_with fail
    clear z0 z1
    refine (V.out _).mono ?_
    rintro r w1 ⟨rfl, hb⟩
    have G1 := Lib.hid (H0.out.on hb)
    clear hb
    obtain ⟨⟨z0, z1⟩, _⟩ := bk2 G1.out.h0
    go_wp2_with fail
    clear z0 z1
    refine (CX.out _).mono ?_
    rintro r w2 ⟨rfl, hb⟩
    have G2 := Lib.hid (G1.out.on hb)
    clear hb
    have e3 := E3.out
    have e4 : (X.toList != s.toList) = true := by simpa [bne] using e3
    obtain ⟨⟨z0, z1⟩, y0, y1⟩ := bk2 G2.out.tl.h0
    obtain ⟨⟨v0, v1⟩, _⟩ := bk2 G2.out.h0
    have lz := bdLt G2.out.h0
    go_wp2_with fail
    exact bodyPost_ret (v := .tuple #[.agg #[.int .i64 0, .int .i64 0], .bool false]) (by simp [results, Tryd.results32, go_sem, z0, z1]) rfl ⟨rfl, (G2.out.below.setCell (by simp) _).setCell (by simp) _⟩
  · have fk : ((K : Int) != (s.size : Int)) = false := by simp; omega
    have V := Lib.hid (fun W => refValid_ok (-P) 1 W e2)
    have CX := Lib.hid (CT.out e2)
    obtain rfl := e5.symm
    obtain rfl := e6.symm
    clear e5 e6
    subst e3
    clear e1 e2
    obtain ⟨⟨z0, z1⟩, _⟩ := bk2 H0.out.h0
    go_wp2_with fail
    clear z0 z1
    refine (V.out _).mono ?_
    rintro r w1 ⟨rfl, hb⟩
    have G1 := Lib.hid (H0.out.on hb)
    clear hb
    obtain ⟨⟨z0, z1⟩, _⟩ := bk2 G1.out.h0
    go_wp2_with fail
    clear z0 z1
    refine (CX.out _).mono ?_
    rintro r w2 ⟨rfl, hb⟩
    have G2 := Lib.hid (G1.out.on hb)
    clear hb
    obtain ⟨⟨z0, z1⟩, y0, y1⟩ := bk2 G2.out.tl.h0
    obtain ⟨⟨v0, v1⟩, _⟩ := bk2 G2.out.h0
    have lz := bdLt G2.out.h0
    go_wp2_with fail
    exact bodyPost_ret (v := .tuple #[.agg #[.int .i64 (-P), .int .i64 1], .bool true]) (by simp [results, Tryd.results32, go_sem, z0, z1]) rfl ⟨rfl, (G2.out.below.setCell (by simp) _).setCell (by simp) _⟩

set_option maxHeartbeats 8000000 in
theorem refParse_nB (s X : ByteArray) (P _D x y : Int) (K _L : Nat) (b : Bool) (w : World) (hs0 : 0 < s.size) (hs : s.size ≤ 200) (hP0 : 0 ≤ P) (hP : P < 100000000000)
    (h45 : ((s[0].toNat : Int) == 45) = true)
    (k1 : ∀ W, Calls Tryd.prog 48 #[.string s, .int .i64 1] W fun e w' => e = .returned (.tuple #[.int .i64 P, .int .i64 (K : Int)]) ∧ W = w')
    (hK : K < s.size) (h47 : ((s[K].toNat : Int) == 47) = false)
    (kt : vldB (-P) 1 = true → ∀ W, Calls Tryd.prog 34 #[.agg #[.int .i64 (-P), .int .i64 1]] W fun e w' => e = .returned (.string X) ∧ Below W.heap.size W w')
    (hr : (¬ K = s.size ∧ x = 0 ∧ y = 0 ∧ b = false) ∨ (K = s.size ∧ vldB (-P) 1 = false ∧ x = 0 ∧ y = 0 ∧ b = false) ∨ (K = s.size ∧ vldB (-P) 1 = true ∧ (X.toList == s.toList) = false ∧ x = 0 ∧ y = 0 ∧ b = false) ∨ (K = s.size ∧ vldB (-P) 1 = true ∧ X = s ∧ x = -P ∧ y = 1 ∧ b = true)) :
    Calls Tryd.prog 32 #[.string s] w fun e w' => e = .returned (.tuple #[.agg #[.int .i64 x, .int .i64 y], .bool b]) ∧ Below w.heap.size w w' := by
  have C1 := Lib.hid k1
  have CT := Lib.hid kt
  have HR := Lib.hid hr
  have g0 : (0 : Int) < (s.size : Int) := by omega
  have H0 := Lib.hid (((Hd.nil w).add (.cells #[.int .i64 0, .int .i64 0] 24)).add (.cells #[.int .i64 (-P), .int .i64 1] 24))
  simp only [World.size_alloc] at H0
  clear k1 kt hr
  go_enter Tryd.func32, Tryd.ntmps32
  go_wp2_with fail
  refine (C1.out _).mono ?_
  rintro r wx ⟨rfl, rfl⟩
  have gK : (K : Int) < (s.size : Int) := by omega
  rcases HR.out with ⟨e1, rfl, rfl, rfl⟩ | ⟨e1, e2, rfl, rfl, rfl⟩ | ⟨e1, e2, e3, rfl, rfl, rfl⟩ | ⟨e1, e2, e3, e5, e6, rfl⟩
  · have fk : ((K : Int) != (s.size : Int)) = true := by simp; omega
    clear e1
    obtain ⟨⟨z0, z1⟩, y0, y1⟩ := bk2 H0.out.tl.h0
    go_wp2_with fail
    exact bodyPost_ret (v := .tuple #[.agg #[.int .i64 0, .int .i64 0], .bool false]) (by simp [results, Tryd.results32, go_sem, z0, z1]) rfl ⟨rfl, H0.out.below⟩
  · have fk : ((K : Int) != (s.size : Int)) = false := by simp; omega
    have V := Lib.hid (fun W => refValid_no (-P) 1 W e2)
    clear e1 e2
    obtain ⟨⟨z0, z1⟩, _⟩ := bk2 H0.out.h0
    go_wp2_with fail
    clear z0 z1
    refine (V.out _).mono ?_
    rintro r w1 ⟨rfl, hb⟩
    have G1 := Lib.hid (H0.out.on hb)
    clear hb
    obtain ⟨⟨z0, z1⟩, y0, y1⟩ := bk2 G1.out.tl.h0
    obtain ⟨⟨v0, v1⟩, _⟩ := bk2 G1.out.h0
    have lz := bdLt G1.out.h0
    go_wp2_with fail
    exact bodyPost_ret (v := .tuple #[.agg #[.int .i64 0, .int .i64 0], .bool false]) (by simp [results, Tryd.results32, go_sem, z0, z1]) rfl ⟨rfl, (G1.out.below.setCell (by simp) _).setCell (by simp) _⟩
  · have fk : ((K : Int) != (s.size : Int)) = false := by simp; omega
    have V := Lib.hid (fun W => refValid_ok (-P) 1 W e2)
    have CX := Lib.hid (CT.out e2)
    have E3 := Lib.hid e3
    clear e3
    clear e1 e2
    obtain ⟨⟨z0, z1⟩, _⟩ := bk2 H0.out.h0
    go_wp2_with fail
    clear z0 z1
    refine (V.out _).mono ?_
    rintro r w1 ⟨rfl, hb⟩
    have G1 := Lib.hid (H0.out.on hb)
    clear hb
    obtain ⟨⟨z0, z1⟩, _⟩ := bk2 G1.out.h0
    go_wp2_with fail
    clear z0 z1
    refine (CX.out _).mono ?_
    rintro r w2 ⟨rfl, hb⟩
    have G2 := Lib.hid (G1.out.on hb)
    clear hb
    have e3 := E3.out
    have e4 : (X.toList != s.toList) = true := by simpa [bne] using e3
    obtain ⟨⟨z0, z1⟩, y0, y1⟩ := bk2 G2.out.tl.h0
    obtain ⟨⟨v0, v1⟩, _⟩ := bk2 G2.out.h0
    have lz := bdLt G2.out.h0
    go_wp2_with fail
    exact bodyPost_ret (v := .tuple #[.agg #[.int .i64 0, .int .i64 0], .bool false]) (by simp [results, Tryd.results32, go_sem, z0, z1]) rfl ⟨rfl, (G2.out.below.setCell (by simp) _).setCell (by simp) _⟩
  · have fk : ((K : Int) != (s.size : Int)) = false := by simp; omega
    have V := Lib.hid (fun W => refValid_ok (-P) 1 W e2)
    have CX := Lib.hid (CT.out e2)
    obtain rfl := e5.symm
    obtain rfl := e6.symm
    clear e5 e6
    subst e3
    clear e1 e2
    obtain ⟨⟨z0, z1⟩, _⟩ := bk2 H0.out.h0
    go_wp2_with fail
    clear z0 z1
    refine (V.out _).mono ?_
    rintro r w1 ⟨rfl, hb⟩
    have G1 := Lib.hid (H0.out.on hb)
    clear hb
    obtain ⟨⟨z0, z1⟩, _⟩ := bk2 G1.out.h0
    go_wp2_with fail
    clear z0 z1
    refine (CX.out _).mono ?_
    rintro r w2 ⟨rfl, hb⟩
    have G2 := Lib.hid (G1.out.on hb)
    clear hb
    obtain ⟨⟨z0, z1⟩, y0, y1⟩ := bk2 G2.out.tl.h0
    obtain ⟨⟨v0, v1⟩, _⟩ := bk2 G2.out.h0
    have lz := bdLt G2.out.h0
    go_wp2_with fail
    exact bodyPost_ret (v := .tuple #[.agg #[.int .i64 (-P), .int .i64 1], .bool true]) (by simp [results, Tryd.results32, go_sem, z0, z1]) rfl ⟨rfl, (G2.out.below.setCell (by simp) _).setCell (by simp) _⟩

set_option maxHeartbeats 8000000 in
theorem refParse_nC (s X : ByteArray) (P D x y : Int) (K L : Nat) (b : Bool) (w : World) (hs0 : 0 < s.size) (hs : s.size ≤ 200) (hP0 : 0 ≤ P) (hP : P < 100000000000)
    (h45 : ((s[0].toNat : Int) == 45) = true)
    (k1 : ∀ W, Calls Tryd.prog 48 #[.string s, .int .i64 1] W fun e w' => e = .returned (.tuple #[.int .i64 P, .int .i64 (K : Int)]) ∧ W = w')
    (hK : K < s.size) (h47 : ((s[K].toNat : Int) == 47) = true) (k2 : ∀ W, Calls Tryd.prog 48 #[.string s, .int .i64 ((K : Int) + 1)] W fun e w' => e = .returned (.tuple #[.int .i64 D, .int .i64 (L : Int)]) ∧ W = w')
    (kt : vldB (-P) D = true → ∀ W, Calls Tryd.prog 34 #[.agg #[.int .i64 (-P), .int .i64 D]] W fun e w' => e = .returned (.string X) ∧ Below W.heap.size W w')
    (hr : (¬ L = s.size ∧ x = 0 ∧ y = 0 ∧ b = false) ∨ (L = s.size ∧ vldB (-P) D = false ∧ x = 0 ∧ y = 0 ∧ b = false) ∨ (L = s.size ∧ vldB (-P) D = true ∧ (X.toList == s.toList) = false ∧ x = 0 ∧ y = 0 ∧ b = false) ∨ (L = s.size ∧ vldB (-P) D = true ∧ X = s ∧ x = -P ∧ y = D ∧ b = true)) :
    Calls Tryd.prog 32 #[.string s] w fun e w' => e = .returned (.tuple #[.agg #[.int .i64 x, .int .i64 y], .bool b]) ∧ Below w.heap.size w w' := by
  have C1 := Lib.hid k1
  have CT := Lib.hid kt
  have HR := Lib.hid hr
  have C2 := Lib.hid k2
  have g0 : (0 : Int) < (s.size : Int) := by omega
  have H0 := Lib.hid (((Hd.nil w).add (.cells #[.int .i64 0, .int .i64 0] 24)).add (.cells #[.int .i64 (-P), .int .i64 D] 24))
  simp only [World.size_alloc] at H0
  clear k1 kt hr k2
  go_enter Tryd.func32, Tryd.ntmps32
  go_wp2_with fail
  refine (C1.out _).mono ?_
  rintro r wx ⟨rfl, rfl⟩
  have gK : (K : Int) < (s.size : Int) := by omega
  go_wp2_with fail
  refine (C2.out _).mono ?_
  rintro r wx ⟨rfl, rfl⟩
  rcases HR.out with ⟨e1, rfl, rfl, rfl⟩ | ⟨e1, e2, rfl, rfl, rfl⟩ | ⟨e1, e2, e3, rfl, rfl, rfl⟩ | ⟨e1, e2, e3, e5, e6, rfl⟩
  · have fk : ((L : Int) != (s.size : Int)) = true := by simp; omega
    clear e1
    obtain ⟨⟨z0, z1⟩, y0, y1⟩ := bk2 H0.out.tl.h0
    go_wp2_with fail
    exact bodyPost_ret (v := .tuple #[.agg #[.int .i64 0, .int .i64 0], .bool false]) (by simp [results, Tryd.results32, go_sem, z0, z1]) rfl ⟨rfl, H0.out.below⟩
  · have fk : ((L : Int) != (s.size : Int)) = false := by simp; omega
    have V := Lib.hid (fun W => refValid_no (-P) D W e2)
    clear e1 e2
    obtain ⟨⟨z0, z1⟩, _⟩ := bk2 H0.out.h0
    go_wp2_with fail
    clear z0 z1
    refine (V.out _).mono ?_
    rintro r w1 ⟨rfl, hb⟩
    have G1 := Lib.hid (H0.out.on hb)
    clear hb
    obtain ⟨⟨z0, z1⟩, y0, y1⟩ := bk2 G1.out.tl.h0
    obtain ⟨⟨v0, v1⟩, _⟩ := bk2 G1.out.h0
    have lz := bdLt G1.out.h0
    go_wp2_with fail
    exact bodyPost_ret (v := .tuple #[.agg #[.int .i64 0, .int .i64 0], .bool false]) (by simp [results, Tryd.results32, go_sem, z0, z1]) rfl ⟨rfl, (G1.out.below.setCell (by simp) _).setCell (by simp) _⟩
  · have fk : ((L : Int) != (s.size : Int)) = false := by simp; omega
    have V := Lib.hid (fun W => refValid_ok (-P) D W e2)
    have CX := Lib.hid (CT.out e2)
    have E3 := Lib.hid e3
    clear e3
    clear e1 e2
    obtain ⟨⟨z0, z1⟩, _⟩ := bk2 H0.out.h0
    go_wp2_with fail
    clear z0 z1
    refine (V.out _).mono ?_
    rintro r w1 ⟨rfl, hb⟩
    have G1 := Lib.hid (H0.out.on hb)
    clear hb
    obtain ⟨⟨z0, z1⟩, _⟩ := bk2 G1.out.h0
    go_wp2_with fail
    clear z0 z1
    refine (CX.out _).mono ?_
    rintro r w2 ⟨rfl, hb⟩
    have G2 := Lib.hid (G1.out.on hb)
    clear hb
    have e3 := E3.out
    have e4 : (X.toList != s.toList) = true := by simpa [bne] using e3
    obtain ⟨⟨z0, z1⟩, y0, y1⟩ := bk2 G2.out.tl.h0
    obtain ⟨⟨v0, v1⟩, _⟩ := bk2 G2.out.h0
    have lz := bdLt G2.out.h0
    go_wp2_with fail
    exact bodyPost_ret (v := .tuple #[.agg #[.int .i64 0, .int .i64 0], .bool false]) (by simp [results, Tryd.results32, go_sem, z0, z1]) rfl ⟨rfl, (G2.out.below.setCell (by simp) _).setCell (by simp) _⟩
  · have fk : ((L : Int) != (s.size : Int)) = false := by simp; omega
    have V := Lib.hid (fun W => refValid_ok (-P) D W e2)
    have CX := Lib.hid (CT.out e2)
    obtain rfl := e5.symm
    obtain rfl := e6.symm
    clear e5 e6
    subst e3
    clear e1 e2
    obtain ⟨⟨z0, z1⟩, _⟩ := bk2 H0.out.h0
    go_wp2_with fail
    clear z0 z1
    refine (V.out _).mono ?_
    rintro r w1 ⟨rfl, hb⟩
    have G1 := Lib.hid (H0.out.on hb)
    clear hb
    obtain ⟨⟨z0, z1⟩, _⟩ := bk2 G1.out.h0
    go_wp2_with fail
    clear z0 z1
    refine (CX.out _).mono ?_
    rintro r w2 ⟨rfl, hb⟩
    have G2 := Lib.hid (G1.out.on hb)
    clear hb
    obtain ⟨⟨z0, z1⟩, y0, y1⟩ := bk2 G2.out.tl.h0
    obtain ⟨⟨v0, v1⟩, _⟩ := bk2 G2.out.h0
    have lz := bdLt G2.out.h0
    go_wp2_with fail
    exact bodyPost_ret (v := .tuple #[.agg #[.int .i64 (-P), .int .i64 D], .bool true]) (by simp [results, Tryd.results32, go_sem, z0, z1]) rfl ⟨rfl, (G2.out.below.setCell (by simp) _).setCell (by simp) _⟩

set_option maxHeartbeats 8000000 in
theorem refParse_pA (s X : ByteArray) (P _D x y : Int) (K _L : Nat) (b : Bool) (w : World) (hs0 : 0 < s.size) (hs : s.size ≤ 200) (_ : 0 ≤ P) (_ : P < 100000000000)
    (h45 : ((s[0].toNat : Int) == 45) = false)
    (k1 : ∀ W, Calls Tryd.prog 48 #[.string s, .int .i64 0] W fun e w' => e = .returned (.tuple #[.int .i64 P, .int .i64 (K : Int)]) ∧ W = w')
    (hK : ¬ K < s.size)
    (kt : vldB (P) 1 = true → ∀ W, Calls Tryd.prog 34 #[.agg #[.int .i64 (P), .int .i64 1]] W fun e w' => e = .returned (.string X) ∧ Below W.heap.size W w')
    (hr : (¬ K = s.size ∧ x = 0 ∧ y = 0 ∧ b = false) ∨ (K = s.size ∧ vldB (P) 1 = false ∧ x = 0 ∧ y = 0 ∧ b = false) ∨ (K = s.size ∧ vldB (P) 1 = true ∧ (X.toList == s.toList) = false ∧ x = 0 ∧ y = 0 ∧ b = false) ∨ (K = s.size ∧ vldB (P) 1 = true ∧ X = s ∧ x = P ∧ y = 1 ∧ b = true)) :
    Calls Tryd.prog 32 #[.string s] w fun e w' => e = .returned (.tuple #[.agg #[.int .i64 x, .int .i64 y], .bool b]) ∧ Below w.heap.size w w' := by
  have C1 := Lib.hid k1
  have CT := Lib.hid kt
  have HR := Lib.hid hr
  have g0 : (0 : Int) < (s.size : Int) := by omega
  have H0 := Lib.hid (((Hd.nil w).add (.cells #[.int .i64 0, .int .i64 0] 24)).add (.cells #[.int .i64 P, .int .i64 1] 24))
  simp only [World.size_alloc] at H0
  clear k1 kt hr
  go_enter Tryd.func32, Tryd.ntmps32
  go_wp2_with fail
  refine (C1.out _).mono ?_
  rintro r wx ⟨rfl, rfl⟩
  have gK : ¬ (K : Int) < (s.size : Int) := by omega
  rcases HR.out with ⟨e1, rfl, rfl, rfl⟩ | ⟨e1, e2, rfl, rfl, rfl⟩ | ⟨e1, e2, e3, rfl, rfl, rfl⟩ | ⟨e1, e2, e3, e5, e6, rfl⟩
  · have fk : ((K : Int) != (s.size : Int)) = true := by simp; omega
    clear e1
    obtain ⟨⟨z0, z1⟩, y0, y1⟩ := bk2 H0.out.tl.h0
    go_wp2_with fail
    exact bodyPost_ret (v := .tuple #[.agg #[.int .i64 0, .int .i64 0], .bool false]) (by simp [results, Tryd.results32, go_sem, z0, z1]) rfl ⟨rfl, H0.out.below⟩
  · have fk : ((K : Int) != (s.size : Int)) = false := by simp; omega
    have V := Lib.hid (fun W => refValid_no (P) 1 W e2)
    clear e1 e2
    obtain ⟨⟨z0, z1⟩, _⟩ := bk2 H0.out.h0
    go_wp2_with fail
    clear z0 z1
    refine (V.out _).mono ?_
    rintro r w1 ⟨rfl, hb⟩
    have G1 := Lib.hid (H0.out.on hb)
    clear hb
    obtain ⟨⟨z0, z1⟩, y0, y1⟩ := bk2 G1.out.tl.h0
    obtain ⟨⟨v0, v1⟩, _⟩ := bk2 G1.out.h0
    have lz := bdLt G1.out.h0
    go_wp2_with fail
    exact bodyPost_ret (v := .tuple #[.agg #[.int .i64 0, .int .i64 0], .bool false]) (by simp [results, Tryd.results32, go_sem, z0, z1]) rfl ⟨rfl, (G1.out.below.setCell (by simp) _).setCell (by simp) _⟩
  · have fk : ((K : Int) != (s.size : Int)) = false := by simp; omega
    have V := Lib.hid (fun W => refValid_ok (P) 1 W e2)
    have CX := Lib.hid (CT.out e2)
    have E3 := Lib.hid e3
    clear e3
    clear e1 e2
    obtain ⟨⟨z0, z1⟩, _⟩ := bk2 H0.out.h0
    go_wp2_with fail
    clear z0 z1
    refine (V.out _).mono ?_
    rintro r w1 ⟨rfl, hb⟩
    have G1 := Lib.hid (H0.out.on hb)
    clear hb
    obtain ⟨⟨z0, z1⟩, _⟩ := bk2 G1.out.h0
    go_wp2_with fail
    clear z0 z1
    refine (CX.out _).mono ?_
    rintro r w2 ⟨rfl, hb⟩
    have G2 := Lib.hid (G1.out.on hb)
    clear hb
    have e3 := E3.out
    have e4 : (X.toList != s.toList) = true := by simpa [bne] using e3
    obtain ⟨⟨z0, z1⟩, y0, y1⟩ := bk2 G2.out.tl.h0
    obtain ⟨⟨v0, v1⟩, _⟩ := bk2 G2.out.h0
    have lz := bdLt G2.out.h0
    go_wp2_with fail
    exact bodyPost_ret (v := .tuple #[.agg #[.int .i64 0, .int .i64 0], .bool false]) (by simp [results, Tryd.results32, go_sem, z0, z1]) rfl ⟨rfl, (G2.out.below.setCell (by simp) _).setCell (by simp) _⟩
  · have fk : ((K : Int) != (s.size : Int)) = false := by simp; omega
    have V := Lib.hid (fun W => refValid_ok (P) 1 W e2)
    have CX := Lib.hid (CT.out e2)
    obtain rfl := e5.symm
    obtain rfl := e6.symm
    clear e5 e6
    subst e3
    clear e1 e2
    obtain ⟨⟨z0, z1⟩, _⟩ := bk2 H0.out.h0
    go_wp2_with fail
    clear z0 z1
    refine (V.out _).mono ?_
    rintro r w1 ⟨rfl, hb⟩
    have G1 := Lib.hid (H0.out.on hb)
    clear hb
    obtain ⟨⟨z0, z1⟩, _⟩ := bk2 G1.out.h0
    go_wp2_with fail
    clear z0 z1
    refine (CX.out _).mono ?_
    rintro r w2 ⟨rfl, hb⟩
    have G2 := Lib.hid (G1.out.on hb)
    clear hb
    obtain ⟨⟨z0, z1⟩, y0, y1⟩ := bk2 G2.out.tl.h0
    obtain ⟨⟨v0, v1⟩, _⟩ := bk2 G2.out.h0
    have lz := bdLt G2.out.h0
    go_wp2_with fail
    exact bodyPost_ret (v := .tuple #[.agg #[.int .i64 (P), .int .i64 1], .bool true]) (by simp [results, Tryd.results32, go_sem, z0, z1]) rfl ⟨rfl, (G2.out.below.setCell (by simp) _).setCell (by simp) _⟩

set_option maxHeartbeats 8000000 in
theorem refParse_pB (s X : ByteArray) (P _D x y : Int) (K _L : Nat) (b : Bool) (w : World) (hs0 : 0 < s.size) (hs : s.size ≤ 200) (_ : 0 ≤ P) (_ : P < 100000000000)
    (h45 : ((s[0].toNat : Int) == 45) = false)
    (k1 : ∀ W, Calls Tryd.prog 48 #[.string s, .int .i64 0] W fun e w' => e = .returned (.tuple #[.int .i64 P, .int .i64 (K : Int)]) ∧ W = w')
    (hK : K < s.size) (h47 : ((s[K].toNat : Int) == 47) = false)
    (kt : vldB (P) 1 = true → ∀ W, Calls Tryd.prog 34 #[.agg #[.int .i64 (P), .int .i64 1]] W fun e w' => e = .returned (.string X) ∧ Below W.heap.size W w')
    (hr : (¬ K = s.size ∧ x = 0 ∧ y = 0 ∧ b = false) ∨ (K = s.size ∧ vldB (P) 1 = false ∧ x = 0 ∧ y = 0 ∧ b = false) ∨ (K = s.size ∧ vldB (P) 1 = true ∧ (X.toList == s.toList) = false ∧ x = 0 ∧ y = 0 ∧ b = false) ∨ (K = s.size ∧ vldB (P) 1 = true ∧ X = s ∧ x = P ∧ y = 1 ∧ b = true)) :
    Calls Tryd.prog 32 #[.string s] w fun e w' => e = .returned (.tuple #[.agg #[.int .i64 x, .int .i64 y], .bool b]) ∧ Below w.heap.size w w' := by
  have C1 := Lib.hid k1
  have CT := Lib.hid kt
  have HR := Lib.hid hr
  have g0 : (0 : Int) < (s.size : Int) := by omega
  have H0 := Lib.hid (((Hd.nil w).add (.cells #[.int .i64 0, .int .i64 0] 24)).add (.cells #[.int .i64 P, .int .i64 1] 24))
  simp only [World.size_alloc] at H0
  clear k1 kt hr
  go_enter Tryd.func32, Tryd.ntmps32
  go_wp2_with fail
  refine (C1.out _).mono ?_
  rintro r wx ⟨rfl, rfl⟩
  have gK : (K : Int) < (s.size : Int) := by omega
  rcases HR.out with ⟨e1, rfl, rfl, rfl⟩ | ⟨e1, e2, rfl, rfl, rfl⟩ | ⟨e1, e2, e3, rfl, rfl, rfl⟩ | ⟨e1, e2, e3, e5, e6, rfl⟩
  · have fk : ((K : Int) != (s.size : Int)) = true := by simp; omega
    clear e1
    obtain ⟨⟨z0, z1⟩, y0, y1⟩ := bk2 H0.out.tl.h0
    go_wp2_with fail
    exact bodyPost_ret (v := .tuple #[.agg #[.int .i64 0, .int .i64 0], .bool false]) (by simp [results, Tryd.results32, go_sem, z0, z1]) rfl ⟨rfl, H0.out.below⟩
  · have fk : ((K : Int) != (s.size : Int)) = false := by simp; omega
    have V := Lib.hid (fun W => refValid_no (P) 1 W e2)
    clear e1 e2
    obtain ⟨⟨z0, z1⟩, _⟩ := bk2 H0.out.h0
    go_wp2_with fail
    clear z0 z1
    refine (V.out _).mono ?_
    rintro r w1 ⟨rfl, hb⟩
    have G1 := Lib.hid (H0.out.on hb)
    clear hb
    obtain ⟨⟨z0, z1⟩, y0, y1⟩ := bk2 G1.out.tl.h0
    obtain ⟨⟨v0, v1⟩, _⟩ := bk2 G1.out.h0
    have lz := bdLt G1.out.h0
    go_wp2_with fail
    exact bodyPost_ret (v := .tuple #[.agg #[.int .i64 0, .int .i64 0], .bool false]) (by simp [results, Tryd.results32, go_sem, z0, z1]) rfl ⟨rfl, (G1.out.below.setCell (by simp) _).setCell (by simp) _⟩
  · have fk : ((K : Int) != (s.size : Int)) = false := by simp; omega
    have V := Lib.hid (fun W => refValid_ok (P) 1 W e2)
    have CX := Lib.hid (CT.out e2)
    have E3 := Lib.hid e3
    clear e3
    clear e1 e2
    obtain ⟨⟨z0, z1⟩, _⟩ := bk2 H0.out.h0
    go_wp2_with fail
    clear z0 z1
    refine (V.out _).mono ?_
    rintro r w1 ⟨rfl, hb⟩
    have G1 := Lib.hid (H0.out.on hb)
    clear hb
    obtain ⟨⟨z0, z1⟩, _⟩ := bk2 G1.out.h0
    go_wp2_with fail
    clear z0 z1
    refine (CX.out _).mono ?_
    rintro r w2 ⟨rfl, hb⟩
    have G2 := Lib.hid (G1.out.on hb)
    clear hb
    have e3 := E3.out
    have e4 : (X.toList != s.toList) = true := by simpa [bne] using e3
    obtain ⟨⟨z0, z1⟩, y0, y1⟩ := bk2 G2.out.tl.h0
    obtain ⟨⟨v0, v1⟩, _⟩ := bk2 G2.out.h0
    have lz := bdLt G2.out.h0
    go_wp2_with fail
    exact bodyPost_ret (v := .tuple #[.agg #[.int .i64 0, .int .i64 0], .bool false]) (by simp [results, Tryd.results32, go_sem, z0, z1]) rfl ⟨rfl, (G2.out.below.setCell (by simp) _).setCell (by simp) _⟩
  · have fk : ((K : Int) != (s.size : Int)) = false := by simp; omega
    have V := Lib.hid (fun W => refValid_ok (P) 1 W e2)
    have CX := Lib.hid (CT.out e2)
    obtain rfl := e5.symm
    obtain rfl := e6.symm
    clear e5 e6
    subst e3
    clear e1 e2
    obtain ⟨⟨z0, z1⟩, _⟩ := bk2 H0.out.h0
    go_wp2_with fail
    clear z0 z1
    refine (V.out _).mono ?_
    rintro r w1 ⟨rfl, hb⟩
    have G1 := Lib.hid (H0.out.on hb)
    clear hb
    obtain ⟨⟨z0, z1⟩, _⟩ := bk2 G1.out.h0
    go_wp2_with fail
    clear z0 z1
    refine (CX.out _).mono ?_
    rintro r w2 ⟨rfl, hb⟩
    have G2 := Lib.hid (G1.out.on hb)
    clear hb
    obtain ⟨⟨z0, z1⟩, y0, y1⟩ := bk2 G2.out.tl.h0
    obtain ⟨⟨v0, v1⟩, _⟩ := bk2 G2.out.h0
    have lz := bdLt G2.out.h0
    go_wp2_with fail
    exact bodyPost_ret (v := .tuple #[.agg #[.int .i64 (P), .int .i64 1], .bool true]) (by simp [results, Tryd.results32, go_sem, z0, z1]) rfl ⟨rfl, (G2.out.below.setCell (by simp) _).setCell (by simp) _⟩

set_option maxHeartbeats 8000000 in
theorem refParse_pC (s X : ByteArray) (P D x y : Int) (K L : Nat) (b : Bool) (w : World) (hs0 : 0 < s.size) (hs : s.size ≤ 200) (_ : 0 ≤ P) (_ : P < 100000000000)
    (h45 : ((s[0].toNat : Int) == 45) = false)
    (k1 : ∀ W, Calls Tryd.prog 48 #[.string s, .int .i64 0] W fun e w' => e = .returned (.tuple #[.int .i64 P, .int .i64 (K : Int)]) ∧ W = w')
    (hK : K < s.size) (h47 : ((s[K].toNat : Int) == 47) = true) (k2 : ∀ W, Calls Tryd.prog 48 #[.string s, .int .i64 ((K : Int) + 1)] W fun e w' => e = .returned (.tuple #[.int .i64 D, .int .i64 (L : Int)]) ∧ W = w')
    (kt : vldB (P) D = true → ∀ W, Calls Tryd.prog 34 #[.agg #[.int .i64 (P), .int .i64 D]] W fun e w' => e = .returned (.string X) ∧ Below W.heap.size W w')
    (hr : (¬ L = s.size ∧ x = 0 ∧ y = 0 ∧ b = false) ∨ (L = s.size ∧ vldB (P) D = false ∧ x = 0 ∧ y = 0 ∧ b = false) ∨ (L = s.size ∧ vldB (P) D = true ∧ (X.toList == s.toList) = false ∧ x = 0 ∧ y = 0 ∧ b = false) ∨ (L = s.size ∧ vldB (P) D = true ∧ X = s ∧ x = P ∧ y = D ∧ b = true)) :
    Calls Tryd.prog 32 #[.string s] w fun e w' => e = .returned (.tuple #[.agg #[.int .i64 x, .int .i64 y], .bool b]) ∧ Below w.heap.size w w' := by
  have C1 := Lib.hid k1
  have CT := Lib.hid kt
  have HR := Lib.hid hr
  have C2 := Lib.hid k2
  have g0 : (0 : Int) < (s.size : Int) := by omega
  have H0 := Lib.hid (((Hd.nil w).add (.cells #[.int .i64 0, .int .i64 0] 24)).add (.cells #[.int .i64 P, .int .i64 D] 24))
  simp only [World.size_alloc] at H0
  clear k1 kt hr k2
  go_enter Tryd.func32, Tryd.ntmps32
  go_wp2_with fail
  refine (C1.out _).mono ?_
  rintro r wx ⟨rfl, rfl⟩
  have gK : (K : Int) < (s.size : Int) := by omega
  go_wp2_with fail
  refine (C2.out _).mono ?_
  rintro r wx ⟨rfl, rfl⟩
  rcases HR.out with ⟨e1, rfl, rfl, rfl⟩ | ⟨e1, e2, rfl, rfl, rfl⟩ | ⟨e1, e2, e3, rfl, rfl, rfl⟩ | ⟨e1, e2, e3, e5, e6, rfl⟩
  · have fk : ((L : Int) != (s.size : Int)) = true := by simp; omega
    clear e1
    obtain ⟨⟨z0, z1⟩, y0, y1⟩ := bk2 H0.out.tl.h0
    go_wp2_with fail
    exact bodyPost_ret (v := .tuple #[.agg #[.int .i64 0, .int .i64 0], .bool false]) (by simp [results, Tryd.results32, go_sem, z0, z1]) rfl ⟨rfl, H0.out.below⟩
  · have fk : ((L : Int) != (s.size : Int)) = false := by simp; omega
    have V := Lib.hid (fun W => refValid_no (P) D W e2)
    clear e1 e2
    obtain ⟨⟨z0, z1⟩, _⟩ := bk2 H0.out.h0
    go_wp2_with fail
    clear z0 z1
    refine (V.out _).mono ?_
    rintro r w1 ⟨rfl, hb⟩
    have G1 := Lib.hid (H0.out.on hb)
    clear hb
    obtain ⟨⟨z0, z1⟩, y0, y1⟩ := bk2 G1.out.tl.h0
    obtain ⟨⟨v0, v1⟩, _⟩ := bk2 G1.out.h0
    have lz := bdLt G1.out.h0
    go_wp2_with fail
    exact bodyPost_ret (v := .tuple #[.agg #[.int .i64 0, .int .i64 0], .bool false]) (by simp [results, Tryd.results32, go_sem, z0, z1]) rfl ⟨rfl, (G1.out.below.setCell (by simp) _).setCell (by simp) _⟩
  · have fk : ((L : Int) != (s.size : Int)) = false := by simp; omega
    have V := Lib.hid (fun W => refValid_ok (P) D W e2)
    have CX := Lib.hid (CT.out e2)
    have E3 := Lib.hid e3
    clear e3
    clear e1 e2
    obtain ⟨⟨z0, z1⟩, _⟩ := bk2 H0.out.h0
    go_wp2_with fail
    clear z0 z1
    refine (V.out _).mono ?_
    rintro r w1 ⟨rfl, hb⟩
    have G1 := Lib.hid (H0.out.on hb)
    clear hb
    obtain ⟨⟨z0, z1⟩, _⟩ := bk2 G1.out.h0
    go_wp2_with fail
    clear z0 z1
    refine (CX.out _).mono ?_
    rintro r w2 ⟨rfl, hb⟩
    have G2 := Lib.hid (G1.out.on hb)
    clear hb
    have e3 := E3.out
    have e4 : (X.toList != s.toList) = true := by simpa [bne] using e3
    obtain ⟨⟨z0, z1⟩, y0, y1⟩ := bk2 G2.out.tl.h0
    obtain ⟨⟨v0, v1⟩, _⟩ := bk2 G2.out.h0
    have lz := bdLt G2.out.h0
    go_wp2_with fail
    exact bodyPost_ret (v := .tuple #[.agg #[.int .i64 0, .int .i64 0], .bool false]) (by simp [results, Tryd.results32, go_sem, z0, z1]) rfl ⟨rfl, (G2.out.below.setCell (by simp) _).setCell (by simp) _⟩
  · have fk : ((L : Int) != (s.size : Int)) = false := by simp; omega
    have V := Lib.hid (fun W => refValid_ok (P) D W e2)
    have CX := Lib.hid (CT.out e2)
    obtain rfl := e5.symm
    obtain rfl := e6.symm
    clear e5 e6
    subst e3
    clear e1 e2
    obtain ⟨⟨z0, z1⟩, _⟩ := bk2 H0.out.h0
    go_wp2_with fail
    clear z0 z1
    refine (V.out _).mono ?_
    rintro r w1 ⟨rfl, hb⟩
    have G1 := Lib.hid (H0.out.on hb)
    clear hb
    obtain ⟨⟨z0, z1⟩, _⟩ := bk2 G1.out.h0
    go_wp2_with fail
    clear z0 z1
    refine (CX.out _).mono ?_
    rintro r w2 ⟨rfl, hb⟩
    have G2 := Lib.hid (G1.out.on hb)
    clear hb
    obtain ⟨⟨z0, z1⟩, y0, y1⟩ := bk2 G2.out.tl.h0
    obtain ⟨⟨v0, v1⟩, _⟩ := bk2 G2.out.h0
    have lz := bdLt G2.out.h0
    go_wp2_with fail
    exact bodyPost_ret (v := .tuple #[.agg #[.int .i64 (P), .int .i64 D], .bool true]) (by simp [results, Tryd.results32, go_sem, z0, z1]) rfl ⟨rfl, (G2.out.below.setCell (by simp) _).setCell (by simp) _⟩
end Go.Proofs.YtmebdieflllgcaaDoor
