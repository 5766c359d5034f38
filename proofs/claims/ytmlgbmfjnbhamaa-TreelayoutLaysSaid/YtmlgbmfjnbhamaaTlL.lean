/- Lays, whole. -/
import Derived.Test.YtmlgbmfjnbhamaaTlL0
namespace Go.Proofs.Ytmlgbmfjnbhamaa
open Go.RowKit
set_option maxRecDepth 100000
set_option maxHeartbeats 8000000 in
theorem lays_no_noh1 (kind h leaf : Int) (hh : h < 1) (w : World) : Calls Try.prog 3 #[.int .i64 kind, .int .i64 h, .int .i64 leaf] w fun e w' => e = .returned (.bool true) ∧ Below w.heap.size w w' := by
  have HRI := Lib.hid (fun w => right_any kind h w false (by simp; omega))
  have HOU := Lib.hid (fun w => outside_any kind h w true (by simp; omega))
  have HLA := Lib.hid (fun w => layout_no kind h w (by omega))
  have HPA := Lib.hid (fun w => path_noh h leaf w (by omega))
  have d1 : decide (h < 1) = true := decide_eq_true (by omega)
  clear hh
  go_enter Try.func3, Try.ntmps3
  go_wp2_with fail
  refine (awake_any w).mono ?_
  rintro er w1 ⟨rfl, hb1⟩
  have HB1 := Lib.hid hb1
  clear hb1
  go_wp2_with fail
  refine (HRI.out w1).mono ?_
  rintro er wz ⟨rfl, rfl⟩
  go_wp2_with fail
  refine (HOU.out w1).mono ?_
  rintro er wz ⟨rfl, rfl⟩
  go_wp2_with fail
  refine (HLA.out w1).mono ?_
  rintro er wz ⟨rfl, rfl⟩
  go_wp2_with fail
  refine (HPA.out w1).mono ?_
  rintro er wz ⟨rfl, rfl⟩
  go_wp2_with fail
  refine (HOU.out w1).mono ?_
  rintro er wz ⟨rfl, rfl⟩
  go_wp2_with fail
  go_ret
  exact ⟨rfl, HB1.out⟩
set_option maxHeartbeats 8000000 in
theorem lays_no_noh2 (kind h leaf : Int) (hh : 16 < h) (w : World) : Calls Try.prog 3 #[.int .i64 kind, .int .i64 h, .int .i64 leaf] w fun e w' => e = .returned (.bool true) ∧ Below w.heap.size w w' := by
  have HRI := Lib.hid (fun w => right_any kind h w false (by simp; omega))
  have HOU := Lib.hid (fun w => outside_any kind h w true (by simp; omega))
  have HLA := Lib.hid (fun w => layout_no kind h w (by omega))
  have HPA := Lib.hid (fun w => path_noh h leaf w (by omega))
  have d1 : decide (h < 1) = false := decide_eq_false (by omega)
  have d2 : decide (16 < h) = true := decide_eq_true (by omega)
  clear hh
  go_enter Try.func3, Try.ntmps3
  go_wp2_with fail
  refine (awake_any w).mono ?_
  rintro er w1 ⟨rfl, hb1⟩
  have HB1 := Lib.hid hb1
  clear hb1
  go_wp2_with fail
  refine (HRI.out w1).mono ?_
  rintro er wz ⟨rfl, rfl⟩
  go_wp2_with fail
  refine (HOU.out w1).mono ?_
  rintro er wz ⟨rfl, rfl⟩
  go_wp2_with fail
  refine (HLA.out w1).mono ?_
  rintro er wz ⟨rfl, rfl⟩
  go_wp2_with fail
  refine (HPA.out w1).mono ?_
  rintro er wz ⟨rfl, rfl⟩
  go_wp2_with fail
  refine (HOU.out w1).mono ?_
  rintro er wz ⟨rfl, rfl⟩
  go_wp2_with fail
  go_ret
  exact ⟨rfl, HB1.out⟩
set_option maxHeartbeats 8000000 in
theorem lays_no_neg (kind : Int) (h : Nat) (leaf : Int) (hh : 1 ≤ h ∧ h ≤ 16) (hk : kind < 1 ∨ 4 < kind) (hl : leaf < 0) (w : World) : Calls Try.prog 3 #[.int .i64 kind, .int .i64 (h : Int), .int .i64 leaf] w fun e w' => e = .returned (.bool true) ∧ Below w.heap.size w w' := by
  have HRI := Lib.hid (fun w => right_any kind (h : Int) w false (by simp; omega))
  have HOU := Lib.hid (fun w => outside_any kind (h : Int) w true (by simp; omega))
  have HLA := Lib.hid (fun w => layout_no kind (h : Int) w (by omega))
  have HPA := Lib.hid (fun w => path_nol h leaf w ⟨hh.1, by omega⟩ (by omega))
  have d3 : decide (leaf < 0) = true := decide_eq_true (by omega)
  have d1 : decide ((h : Int) < 1) = false := decide_eq_false (by omega)
  have d2 : decide ((16 : Int) < (h : Int)) = false := decide_eq_false (by omega)
  have d1n : decide (h < 1) = false := decide_eq_false (by omega)
  have d2n : decide (16 < h) = false := decide_eq_false (by omega)
  clear hk
  go_enter Try.func3, Try.ntmps3
  go_wp2_with fail
  refine (awake_any w).mono ?_
  rintro er w1 ⟨rfl, hb1⟩
  have HB1 := Lib.hid hb1
  clear hb1
  go_wp2_with fail
  refine (HRI.out w1).mono ?_
  rintro er wz ⟨rfl, rfl⟩
  go_wp2_with fail
  refine (HOU.out w1).mono ?_
  rintro er wz ⟨rfl, rfl⟩
  go_wp2_with fail
  refine (HLA.out w1).mono ?_
  rintro er wz ⟨rfl, rfl⟩
  go_wp2_with fail
  refine (HPA.out w1).mono ?_
  rintro er wz ⟨rfl, rfl⟩
  go_wp2_with fail
  refine (HOU.out w1).mono ?_
  rintro er wz ⟨rfl, rfl⟩
  go_wp2_with fail
  go_ret
  exact ⟨rfl, HB1.out⟩
set_option maxHeartbeats 8000000 in
theorem lays_yes_neg (kind h : Nat) (leaf : Int) (hk : 1 ≤ kind ∧ kind ≤ 4) (hh : 1 ≤ h ∧ h ≤ 10) (hl : leaf < 0) (w : World) : Calls Try.prog 3 #[.int .i64 (kind : Int), .int .i64 (h : Int), .int .i64 leaf] w fun e w' => e = .returned (.bool true) ∧ Below w.heap.size w w' := by
  have HRI := Lib.hid (fun w => right_any (kind : Int) (h : Int) w true (by simp; omega))
  have HOU := Lib.hid (fun w => outside_any (kind : Int) (h : Int) w false (by simp; omega))
  obtain ⟨n, hn⟩ : ∃ n, n = 2 ^ h - 1 := ⟨_, rfl⟩
  have HLA := Lib.hid (fun w => layout_yes kind h n w hk ⟨hh.1, by omega⟩ hn)
  have HRL := Lib.hid (fun w => refLayout_any kind h n w hk ⟨hh.1, by omega⟩ hn)
  have hnl : n ≤ 65535 := by rw [hn]; have : 2 ^ h ≤ 2 ^ 16 := Nat.pow_le_pow_right (by omega) (by omega); omega
  have HLL := Lib.hid (show (layK kind h).length = n by rw [layK_len, hn])
  have HLL1 := Lib.hid (show n ≤ 100000 by omega)
  clear hn
  have HPA := Lib.hid (fun w => path_nol h leaf w ⟨hh.1, by omega⟩ (by omega))
  have d3 : decide (leaf < 0) = true := decide_eq_true (by omega)
  have d1 : decide ((h : Int) < 1) = false := decide_eq_false (by omega)
  have d2 : decide ((16 : Int) < (h : Int)) = false := decide_eq_false (by omega)
  have d1n : decide (h < 1) = false := decide_eq_false (by omega)
  have d2n : decide (16 < h) = false := decide_eq_false (by omega)
  go_enter Try.func3, Try.ntmps3
  go_wp2_with fail
  refine (awake_any w).mono ?_
  rintro er w1 ⟨rfl, hb1⟩
  have HB1 := Lib.hid hb1
  clear hb1
  go_wp2_with fail
  refine (HRI.out w1).mono ?_
  rintro er wz ⟨rfl, rfl⟩
  go_wp2_with fail
  refine (HLA.out w1).mono ?_
  rintro er w2 ⟨g2, rfl, hr2, hb2⟩
  have HR2 := Lib.hid hr2
  have HB2 : Hid (Below w.heap.size w w2) := Lib.hid (HB1.out.trans (hb2.mono HB1.out.size))
  clear hr2 hb2
  go_wp2_with fail
  refine (HPA.out w2).mono ?_
  rintro er wz ⟨rfl, rfl⟩
  go_wp2_with fail
  have HR2x := HR2
  refine (HOU.out w2).mono ?_
  rintro er wz ⟨rfl, rfl⟩
  go_wp2_with fail
  refine (HRL.out w2).mono ?_
  rintro er w6 ⟨g6, rfl, hr6, hb6⟩
  have HR2y := Lib.hid (HR2x.out.below hb6)
  have HR6 := Lib.hid hr6
  have HB6 : Hid (Below w.heap.size w w6) := Lib.hid (HB2.out.trans (hb6.mono HB2.out.size))
  clear hr6 hb6
  go_wp2_with fail
  refine (eq_same HLL.out HLL1.out HR2y.out HR6.out).mono ?_
  rintro er w7 ⟨rfl, hb7⟩
  have HB7 : Hid (Below w.heap.size w w7) := Lib.hid (HB6.out.trans (hb7.mono HB6.out.size))
  clear hb7
  go_wp2_with fail
  go_ret
  exact ⟨rfl, HB7.out⟩
set_option maxHeartbeats 8000000 in
theorem lays_no_big (kind : Int) (h : Nat) (leaf : Nat) (hh : 1 ≤ h ∧ h ≤ 16) (hk : kind < 1 ∨ 4 < kind) (hl : 2 ^ (h - 1) ≤ leaf) (w : World) : Calls Try.prog 3 #[.int .i64 kind, .int .i64 (h : Int), .int .i64 (leaf : Int)] w fun e w' => e = .returned (.bool true) ∧ Below w.heap.size w w' := by
  have HRI := Lib.hid (fun w => right_any kind (h : Int) w false (by simp; omega))
  have HOU := Lib.hid (fun w => outside_any kind (h : Int) w true (by simp; omega))
  have HLA := Lib.hid (fun w => layout_no kind (h : Int) w (by omega))
  obtain ⟨t, ht⟩ : ∃ t, t = h - 1 := ⟨_, rfl⟩
  have hht : (h : Int) - 1 = (t : Int) := by omega
  obtain ⟨M, hM⟩ : ∃ M, M = 2 ^ t := ⟨_, rfl⟩
  have hM1 : 1 ≤ M := by rw [hM]; exact Nat.one_le_two_pow
  have hM2 : M ≤ 32768 := by rw [hM]; exact Nat.le_trans (Nat.pow_le_pow_right (by omega) (show t ≤ 15 by omega)) (by decide)
  have HPA := Lib.hid (fun w => path_nol h (leaf : Int) w ⟨hh.1, by omega⟩ (Or.inr (by rw [← ht, ← hM]; rw [← ht, ← hM] at hl; omega)))
  have HCO := Lib.hid (fun w => count_any t (M - 1) w (by omega) (by rw [hM]))
  rw [← ht, ← hM] at hl
  have d4 : decide (((M - 1 : Nat) : Int) < (leaf : Int)) = true := decide_eq_true (by omega)
  have d5 : decide (M - 1 < leaf) = true := decide_eq_true (by omega)
  clear hl ht hM
  have d1 : decide ((h : Int) < 1) = false := decide_eq_false (by omega)
  have d2 : decide ((16 : Int) < (h : Int)) = false := decide_eq_false (by omega)
  have d1n : decide (h < 1) = false := decide_eq_false (by omega)
  have d2n : decide (16 < h) = false := decide_eq_false (by omega)
  have d3 : decide ((leaf : Int) < 0) = false := decide_eq_false (by omega)
  clear hk
  go_enter Try.func3, Try.ntmps3
  go_wp2_with fail
  refine (awake_any w).mono ?_
  rintro er w1 ⟨rfl, hb1⟩
  have HB1 := Lib.hid hb1
  clear hb1
  go_wp2_with fail
  refine (HRI.out w1).mono ?_
  rintro er wz ⟨rfl, rfl⟩
  go_wp2_with fail
  refine (HOU.out w1).mono ?_
  rintro er wz ⟨rfl, rfl⟩
  go_wp2_with fail
  refine (HLA.out w1).mono ?_
  rintro er wz ⟨rfl, rfl⟩
  go_wp2_with fail
  refine (HPA.out w1).mono ?_
  rintro er wz ⟨rfl, rfl⟩
  go_wp2_with fail
  refine (HCO.out w1).mono ?_
  rintro er wz ⟨rfl, rfl⟩
  go_wp2_with fail
  refine (HOU.out w1).mono ?_
  rintro er wz ⟨rfl, rfl⟩
  go_wp2_with fail
  go_ret
  exact ⟨rfl, HB1.out⟩
set_option maxHeartbeats 8000000 in
theorem lays_yes_big (kind h : Nat) (leaf : Nat) (hk : 1 ≤ kind ∧ kind ≤ 4) (hh : 1 ≤ h ∧ h ≤ 10) (hl : 2 ^ (h - 1) ≤ leaf) (w : World) : Calls Try.prog 3 #[.int .i64 (kind : Int), .int .i64 (h : Int), .int .i64 (leaf : Int)] w fun e w' => e = .returned (.bool true) ∧ Below w.heap.size w w' := by
  have HRI := Lib.hid (fun w => right_any (kind : Int) (h : Int) w true (by simp; omega))
  have HOU := Lib.hid (fun w => outside_any (kind : Int) (h : Int) w false (by simp; omega))
  obtain ⟨n, hn⟩ : ∃ n, n = 2 ^ h - 1 := ⟨_, rfl⟩
  have HLA := Lib.hid (fun w => layout_yes kind h n w hk ⟨hh.1, by omega⟩ hn)
  have HRL := Lib.hid (fun w => refLayout_any kind h n w hk ⟨hh.1, by omega⟩ hn)
  have hnl : n ≤ 65535 := by rw [hn]; have : 2 ^ h ≤ 2 ^ 16 := Nat.pow_le_pow_right (by omega) (by omega); omega
  have HLL := Lib.hid (show (layK kind h).length = n by rw [layK_len, hn])
  have HLL1 := Lib.hid (show n ≤ 100000 by omega)
  clear hn
  obtain ⟨t, ht⟩ : ∃ t, t = h - 1 := ⟨_, rfl⟩
  have hht : (h : Int) - 1 = (t : Int) := by omega
  obtain ⟨M, hM⟩ : ∃ M, M = 2 ^ t := ⟨_, rfl⟩
  have hM1 : 1 ≤ M := by rw [hM]; exact Nat.one_le_two_pow
  have hM2 : M ≤ 32768 := by rw [hM]; exact Nat.le_trans (Nat.pow_le_pow_right (by omega) (show t ≤ 15 by omega)) (by decide)
  have HPA := Lib.hid (fun w => path_nol h (leaf : Int) w ⟨hh.1, by omega⟩ (Or.inr (by rw [← ht, ← hM]; rw [← ht, ← hM] at hl; omega)))
  have HCO := Lib.hid (fun w => count_any t (M - 1) w (by omega) (by rw [hM]))
  rw [← ht, ← hM] at hl
  have d4 : decide (((M - 1 : Nat) : Int) < (leaf : Int)) = true := decide_eq_true (by omega)
  have d5 : decide (M - 1 < leaf) = true := decide_eq_true (by omega)
  clear hl ht hM
  have d1 : decide ((h : Int) < 1) = false := decide_eq_false (by omega)
  have d2 : decide ((16 : Int) < (h : Int)) = false := decide_eq_false (by omega)
  have d1n : decide (h < 1) = false := decide_eq_false (by omega)
  have d2n : decide (16 < h) = false := decide_eq_false (by omega)
  have d3 : decide ((leaf : Int) < 0) = false := decide_eq_false (by omega)
  go_enter Try.func3, Try.ntmps3
  go_wp2_with fail
  refine (awake_any w).mono ?_
  rintro er w1 ⟨rfl, hb1⟩
  have HB1 := Lib.hid hb1
  clear hb1
  go_wp2_with fail
  refine (HRI.out w1).mono ?_
  rintro er wz ⟨rfl, rfl⟩
  go_wp2_with fail
  refine (HLA.out w1).mono ?_
  rintro er w2 ⟨g2, rfl, hr2, hb2⟩
  have HR2 := Lib.hid hr2
  have HB2 : Hid (Below w.heap.size w w2) := Lib.hid (HB1.out.trans (hb2.mono HB1.out.size))
  clear hr2 hb2
  go_wp2_with fail
  refine (HPA.out w2).mono ?_
  rintro er wz ⟨rfl, rfl⟩
  go_wp2_with fail
  refine (HCO.out w2).mono ?_
  rintro er wz ⟨rfl, rfl⟩
  go_wp2_with fail
  have HR2x := HR2
  refine (HOU.out w2).mono ?_
  rintro er wz ⟨rfl, rfl⟩
  go_wp2_with fail
  refine (HRL.out w2).mono ?_
  rintro er w6 ⟨g6, rfl, hr6, hb6⟩
  have HR2y := Lib.hid (HR2x.out.below hb6)
  have HR6 := Lib.hid hr6
  have HB6 : Hid (Below w.heap.size w w6) := Lib.hid (HB2.out.trans (hb6.mono HB2.out.size))
  clear hr6 hb6
  go_wp2_with fail
  refine (eq_same HLL.out HLL1.out HR2y.out HR6.out).mono ?_
  rintro er w7 ⟨rfl, hb7⟩
  have HB7 : Hid (Below w.heap.size w w7) := Lib.hid (HB6.out.trans (hb7.mono HB6.out.size))
  clear hb7
  go_wp2_with fail
  go_ret
  exact ⟨rfl, HB7.out⟩
set_option maxHeartbeats 8000000 in
theorem lays_no_yes (kind : Int) (h : Nat) (leaf : Nat) (hh : 1 ≤ h ∧ h ≤ 16) (hk : kind < 1 ∨ 4 < kind) (hl : leaf < 2 ^ (h - 1)) (w : World) : Calls Try.prog 3 #[.int .i64 kind, .int .i64 (h : Int), .int .i64 (leaf : Int)] w fun e w' => e = .returned (.bool true) ∧ Below w.heap.size w w' := by
  have HRI := Lib.hid (fun w => right_any kind (h : Int) w false (by simp; omega))
  have HOU := Lib.hid (fun w => outside_any kind (h : Int) w true (by simp; omega))
  have HLA := Lib.hid (fun w => layout_no kind (h : Int) w (by omega))
  obtain ⟨t, ht⟩ : ∃ t, t = h - 1 := ⟨_, rfl⟩
  have hht : (h : Int) - 1 = (t : Int) := by omega
  obtain ⟨M, hM⟩ : ∃ M, M = 2 ^ t := ⟨_, rfl⟩
  have hM1 : 1 ≤ M := by rw [hM]; exact Nat.one_le_two_pow
  have hM2 : M ≤ 32768 := by rw [hM]; exact Nat.le_trans (Nat.pow_le_pow_right (by omega) (show t ≤ 15 by omega)) (by decide)
  obtain ⟨m, hm⟩ : ∃ m, m = (pathL h leaf).length := ⟨_, rfl⟩
  have HPA := Lib.hid (fun w => path_yes h leaf m w ⟨hh.1, by omega⟩ hl hm)
  have HRP := Lib.hid (fun w => refPath_any h leaf m w ⟨hh.1, by omega⟩ hl hm)
  have HCO := Lib.hid (fun w => count_any t (M - 1) w (by omega) (by rw [hM]))
  have HML := Lib.hid hm.symm
  have HML3 := Lib.hid (show m ≤ 100000 by rw [hm]; have := pathL_len h leaf; omega)
  rw [← ht, ← hM] at hl
  have d4 : decide (((M - 1 : Nat) : Int) < (leaf : Int)) = false := decide_eq_false (by omega)
  have d5 : decide (M - 1 < leaf) = false := decide_eq_false (by omega)
  have hll : leaf ≤ 32768 := by omega
  clear hl ht hM hm
  have d1 : decide ((h : Int) < 1) = false := decide_eq_false (by omega)
  have d2 : decide ((16 : Int) < (h : Int)) = false := decide_eq_false (by omega)
  have d1n : decide (h < 1) = false := decide_eq_false (by omega)
  have d2n : decide (16 < h) = false := decide_eq_false (by omega)
  have d3 : decide ((leaf : Int) < 0) = false := decide_eq_false (by omega)
  clear hk
  go_enter Try.func3, Try.ntmps3
  go_wp2_with fail
  refine (awake_any w).mono ?_
  rintro er w1 ⟨rfl, hb1⟩
  have HB1 := Lib.hid hb1
  clear hb1
  go_wp2_with fail
  refine (HRI.out w1).mono ?_
  rintro er wz ⟨rfl, rfl⟩
  go_wp2_with fail
  refine (HOU.out w1).mono ?_
  rintro er wz ⟨rfl, rfl⟩
  go_wp2_with fail
  refine (HLA.out w1).mono ?_
  rintro er wz ⟨rfl, rfl⟩
  go_wp2_with fail
  refine (HPA.out w1).mono ?_
  rintro er w3 ⟨⟨g3, cp3, rfl, hr3⟩, hb3⟩
  have HR3 := Lib.hid hr3
  have HB3 : Hid (Below w.heap.size w w3) := Lib.hid (HB1.out.trans (hb3.mono HB1.out.size))
  clear hr3 hb3
  go_wp2_with fail
  refine (HCO.out w3).mono ?_
  rintro er wz ⟨rfl, rfl⟩
  go_wp2_with fail
  refine (HRP.out w3).mono ?_
  rintro er w4 ⟨⟨g4, cp4, rfl, hr4⟩, hb4⟩
  have HR3' := Lib.hid (HR3.out.below hb4)
  have HR4 := Lib.hid hr4
  have HB4 : Hid (Below w.heap.size w w4) := Lib.hid (HB3.out.trans (hb4.mono HB3.out.size))
  clear hr4 hb4
  go_wp2_with fail
  refine (eq_same HML.out HML3.out HR3'.out HR4.out).mono ?_
  rintro er w5 ⟨rfl, hb5⟩
  have HB5 : Hid (Below w.heap.size w w5) := Lib.hid (HB4.out.trans (hb5.mono HB4.out.size))
  clear hb5
  go_wp2_with fail
  refine (HOU.out w5).mono ?_
  rintro er wz ⟨rfl, rfl⟩
  go_wp2_with fail
  go_ret
  exact ⟨rfl, HB5.out⟩
set_option maxHeartbeats 8000000 in
theorem lays_yes_yes (kind h : Nat) (leaf : Nat) (hk : 1 ≤ kind ∧ kind ≤ 4) (hh : 1 ≤ h ∧ h ≤ 10) (hl : leaf < 2 ^ (h - 1)) (w : World) : Calls Try.prog 3 #[.int .i64 (kind : Int), .int .i64 (h : Int), .int .i64 (leaf : Int)] w fun e w' => e = .returned (.bool true) ∧ Below w.heap.size w w' := by
  have HRI := Lib.hid (fun w => right_any (kind : Int) (h : Int) w true (by simp; omega))
  have HOU := Lib.hid (fun w => outside_any (kind : Int) (h : Int) w false (by simp; omega))
  obtain ⟨n, hn⟩ : ∃ n, n = 2 ^ h - 1 := ⟨_, rfl⟩
  have HLA := Lib.hid (fun w => layout_yes kind h n w hk ⟨hh.1, by omega⟩ hn)
  have HRL := Lib.hid (fun w => refLayout_any kind h n w hk ⟨hh.1, by omega⟩ hn)
  have hnl : n ≤ 65535 := by rw [hn]; have : 2 ^ h ≤ 2 ^ 16 := Nat.pow_le_pow_right (by omega) (by omega); omega
  have HLL := Lib.hid (show (layK kind h).length = n by rw [layK_len, hn])
  have HLL1 := Lib.hid (show n ≤ 100000 by omega)
  clear hn
  obtain ⟨t, ht⟩ : ∃ t, t = h - 1 := ⟨_, rfl⟩
  have hht : (h : Int) - 1 = (t : Int) := by omega
  obtain ⟨M, hM⟩ : ∃ M, M = 2 ^ t := ⟨_, rfl⟩
  have hM1 : 1 ≤ M := by rw [hM]; exact Nat.one_le_two_pow
  have hM2 : M ≤ 32768 := by rw [hM]; exact Nat.le_trans (Nat.pow_le_pow_right (by omega) (show t ≤ 15 by omega)) (by decide)
  obtain ⟨m, hm⟩ : ∃ m, m = (pathL h leaf).length := ⟨_, rfl⟩
  have HPA := Lib.hid (fun w => path_yes h leaf m w ⟨hh.1, by omega⟩ hl hm)
  have HRP := Lib.hid (fun w => refPath_any h leaf m w ⟨hh.1, by omega⟩ hl hm)
  have HCO := Lib.hid (fun w => count_any t (M - 1) w (by omega) (by rw [hM]))
  have HML := Lib.hid hm.symm
  have HML3 := Lib.hid (show m ≤ 100000 by rw [hm]; have := pathL_len h leaf; omega)
  rw [← ht, ← hM] at hl
  have d4 : decide (((M - 1 : Nat) : Int) < (leaf : Int)) = false := decide_eq_false (by omega)
  have d5 : decide (M - 1 < leaf) = false := decide_eq_false (by omega)
  have hll : leaf ≤ 32768 := by omega
  clear hl ht hM hm
  have d1 : decide ((h : Int) < 1) = false := decide_eq_false (by omega)
  have d2 : decide ((16 : Int) < (h : Int)) = false := decide_eq_false (by omega)
  have d1n : decide (h < 1) = false := decide_eq_false (by omega)
  have d2n : decide (16 < h) = false := decide_eq_false (by omega)
  have d3 : decide ((leaf : Int) < 0) = false := decide_eq_false (by omega)
  go_enter Try.func3, Try.ntmps3
  go_wp2_with fail
  refine (awake_any w).mono ?_
  rintro er w1 ⟨rfl, hb1⟩
  have HB1 := Lib.hid hb1
  clear hb1
  go_wp2_with fail
  refine (HRI.out w1).mono ?_
  rintro er wz ⟨rfl, rfl⟩
  go_wp2_with fail
  refine (HLA.out w1).mono ?_
  rintro er w2 ⟨g2, rfl, hr2, hb2⟩
  have HR2 := Lib.hid hr2
  have HB2 : Hid (Below w.heap.size w w2) := Lib.hid (HB1.out.trans (hb2.mono HB1.out.size))
  clear hr2 hb2
  go_wp2_with fail
  refine (HPA.out w2).mono ?_
  rintro er w3 ⟨⟨g3, cp3, rfl, hr3⟩, hb3⟩
  have HR3 := Lib.hid hr3
  have HB3 : Hid (Below w.heap.size w w3) := Lib.hid (HB2.out.trans (hb3.mono HB2.out.size))
  have HR2' := Lib.hid (HR2.out.below hb3)
  clear hr3 hb3
  go_wp2_with fail
  refine (HCO.out w3).mono ?_
  rintro er wz ⟨rfl, rfl⟩
  go_wp2_with fail
  refine (HRP.out w3).mono ?_
  rintro er w4 ⟨⟨g4, cp4, rfl, hr4⟩, hb4⟩
  have HR3' := Lib.hid (HR3.out.below hb4)
  have HR4 := Lib.hid hr4
  have HB4 : Hid (Below w.heap.size w w4) := Lib.hid (HB3.out.trans (hb4.mono HB3.out.size))
  have HR2'' := Lib.hid (HR2'.out.below hb4)
  clear hr4 hb4
  go_wp2_with fail
  refine (eq_same HML.out HML3.out HR3'.out HR4.out).mono ?_
  rintro er w5 ⟨rfl, hb5⟩
  have HB5 : Hid (Below w.heap.size w w5) := Lib.hid (HB4.out.trans (hb5.mono HB4.out.size))
  have HR2x := Lib.hid (HR2''.out.below hb5)
  clear hb5
  go_wp2_with fail
  refine (HOU.out w5).mono ?_
  rintro er wz ⟨rfl, rfl⟩
  go_wp2_with fail
  refine (HRL.out w5).mono ?_
  rintro er w6 ⟨g6, rfl, hr6, hb6⟩
  have HR2y := Lib.hid (HR2x.out.below hb6)
  have HR6 := Lib.hid hr6
  have HB6 : Hid (Below w.heap.size w w6) := Lib.hid (HB5.out.trans (hb6.mono HB5.out.size))
  clear hr6 hb6
  go_wp2_with fail
  refine (eq_same HLL.out HLL1.out HR2y.out HR6.out).mono ?_
  rintro er w7 ⟨rfl, hb7⟩
  have HB7 : Hid (Below w.heap.size w w7) := Lib.hid (HB6.out.trans (hb7.mono HB6.out.size))
  clear hb7
  go_wp2_with fail
  go_ret
  exact ⟨rfl, HB7.out⟩
theorem lays_skip (kind h leaf : Int) (w : World) (hk : 1 ≤ kind ∧ kind ≤ 4) (hh : 10 < h ∧ h ≤ 16) : Calls Try.prog 3 #[.int .i64 kind, .int .i64 h, .int .i64 leaf] w fun e w' => e = .returned (.bool true) ∧ Below w.heap.size w w' := by
  have HRI := Lib.hid (fun w => right_any kind h w false (by simp; omega))
  have HOU := Lib.hid (fun w => outside_any kind h w false (by simp; omega))
  clear hk hh
  go_enter Try.func3, Try.ntmps3
  go_wp2_with fail
  refine (awake_any w).mono ?_
  rintro er w1 ⟨rfl, hb1⟩
  have HB1 := Lib.hid hb1
  clear hb1
  go_wp2_with fail
  refine (HRI.out w1).mono ?_
  rintro er wz ⟨rfl, rfl⟩
  go_wp2_with fail
  refine (HOU.out w1).mono ?_
  rintro er wz ⟨rfl, rfl⟩
  go_wp2_with fail
  go_ret
  exact ⟨rfl, HB1.out⟩
theorem lawLays_any (kind h leaf : Int) (w : World) : Calls Try.prog 3 #[.int .i64 kind, .int .i64 h, .int .i64 leaf] w fun e w' => e = .returned (.bool true) ∧ Below w.heap.size w w' := by
  by_cases h1 : h < 1
  · exact lays_no_noh1 kind h leaf h1 w
  by_cases h2 : 16 < h
  · exact lays_no_noh2 kind h leaf h2 w
  obtain ⟨hn, rfl⟩ : ∃ n : Nat, h = (n : Int) := ⟨h.toNat, by omega⟩
  by_cases hk : kind < 1 ∨ 4 < kind
  · by_cases hl : leaf < 0
    · exact lays_no_neg kind hn leaf (by omega) hk hl w
    · obtain ⟨lf, rfl⟩ : ∃ n : Nat, leaf = (n : Int) := ⟨leaf.toNat, by omega⟩
      by_cases hb : 2 ^ (hn - 1) ≤ lf
      · exact lays_no_big kind hn lf (by omega) hk hb w
      · exact lays_no_yes kind hn lf (by omega) hk (by omega) w
  · obtain ⟨kn, rfl⟩ : ∃ n : Nat, kind = (n : Int) := ⟨kind.toNat, by omega⟩
    by_cases h10 : 10 < hn
    · exact lays_skip (kn : Int) (hn : Int) leaf w (by omega) (by omega)
    by_cases hl : leaf < 0
    · exact lays_yes_neg kn hn leaf (by omega) (by omega) hl w
    · obtain ⟨lf, rfl⟩ : ∃ n : Nat, leaf = (n : Int) := ⟨leaf.toNat, by omega⟩
      by_cases hb : 2 ^ (hn - 1) ≤ lf
      · exact lays_yes_big kn hn lf (by omega) (by omega) hb w
      · exact lays_yes_yes kn hn lf (by omega) (by omega) (by omega) w
end Go.Proofs.Ytmlgbmfjnbhamaa
