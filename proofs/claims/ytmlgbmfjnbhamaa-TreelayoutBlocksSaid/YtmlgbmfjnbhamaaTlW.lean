/- Law Blocks, whole. -/
import Derived.Test.YtmlgbmfjnbhamaaTlV
namespace Go.Proofs.Ytmlgbmfjnbhamaa
open Go.RowKit
set_option maxRecDepth 100000
set_option maxHeartbeats 8000000 in
theorem lb_ps (A1 A2 : Option Addr) (c1 c2 n m k0 j0 : Nat) (L M : List Int) (sz : Int) (w : World) (hn : L.length = n) (hm : M.length = m) (hnl : n ≤ 100) (hml : m ≤ 100) (h1 : IntsAt (· < w.heap.size) w A1 L) (h2 : IntsAt (· < w.heap.size) w A2 M) (hk : InvK L k0) (hj : j0 ≤ m) (hR : ∀ (j : Nat) (v : Int), j < j0 → M[j]? = some v → 0 ≤ v ∧ v < (n : Int)) (hbad : ∀ v, M[j0]? = some v → v < 0 ∨ (n : Int) ≤ v) (hp : k0 = n) (hs : sz ≤ 0) : Calls Try.prog 4 #[.slice A1 n c1, .slice A2 m c2, .int .i64 sz] w fun e w' => e = .returned (.bool true) ∧ Below w.heap.size w w' := by
  obtain ⟨w0, hw0⟩ : ∃ w0, w0 = w.alloc (.cells #[.slice A1 n c1] 23) := ⟨_, rfl⟩
  have hx0 : w0.heap[w.heap.size]? = some (.cells #[.slice A1 n c1] 23 (0, 0)) := by rw [hw0]; exact bdNew w _
  have hz0 : w0.heap.size = w.heap.size + 1 := by rw [hw0]; simp
  have hb0 : Below w.heap.size w w0 := by rw [hw0]; exact (Below.refl _ _).alloc (Nat.le_refl _) _
  have HB0 : Hid (Below w0.heap.size w0 w0) := Lib.hid (Below.refl _ _)
  have HXB := Lib.hid (show ∀ W, Below w0.heap.size w0 W → W.heap[w.heap.size]? = some (.cells #[.slice A1 n c1] 23 (0, 0)) from fun W hb => (hb.block w.heap.size (by omega)).trans hx0)
  have HX := Lib.hid (show ∀ W, Below w0.heap.size w0 W → W.cell? ⟨w.heap.size, 0, none⟩ = some (.slice A1 n c1) from fun W hb => (bk1 (HXB.out W hb)).1)
  have HBW := Lib.hid (show ∀ W, Below w0.heap.size w0 W → Below w.heap.size w W from fun W hb => hb0.trans (hb.mono (by omega)))
  have HI1 := Lib.hid (show ∀ W, Below w0.heap.size w0 W → IntsAt (· < W.heap.size) W A1 L from fun W hb => (h1.below (HBW.out W hb)).more fun b hb' => by have := (HBW.out W hb).size; omega)
  have HI2 := Lib.hid (show ∀ W, Below w0.heap.size w0 W → IntsAt (· < W.heap.size) W A2 M from fun W hb => (h2.below (HBW.out W hb)).more fun b hb' => by have := (HBW.out W hb).size; omega)
  have HA := Lib.hid (awake_any w0)
  have HIN := Lib.hid (show ∀ W, Below w0.heap.size w0 W → Calls Try.prog 18 #[.slice A1 n c1] W (InvP n L k0 W) from fun W hb => inverse_any A1 c1 n k0 L W hn (by omega) (HI1.out W hb) hk)
  have HRI := Lib.hid (show ∀ W, Below w0.heap.size w0 W → Calls Try.prog 20 #[.slice A1 n c1] W (RInvP n L k0 W) from fun W hb => refInverse_any A1 c1 n k0 L W hn (by omega) (HI1.out W hb) hk)
  have HBL := Lib.hid (fun W (_ : Below w0.heap.size w0 W) => blocks_size A1 A2 c1 c2 n m sz W hs)
  have d9 : decide (sz < 1) = true := decide_eq_true (by omega)
  subst hp
  have HLN := Lib.hid (show (invR L k0).length = k0 by rw [invR_len, hn])
  have HW0 := Lib.hid hw0
  clear hw0 hx0 hb0 h1 h2 hn hm hk hR hbad
  go_enter Try.func4, Try.ntmps4
  go_wp2_with fail
  rw [← HW0.out]
  refine HA.out.mono ?_
  rintro er w1 ⟨rfl, hb1⟩
  have HB1 : Hid (Below w0.heap.size w0 w1) := Lib.hid (HB0.out.trans (hb1.mono HB0.out.size))
  have x1 := HX.out w1 HB1.out
  clear hb1
  go_wp2_with fail
  refine (HIN.out w1 HB1.out).mono ?_
  rintro er w2 ⟨⟨_, g2, rfl, hr2⟩ | ⟨hlt, _⟩, hb2⟩
  case inr => exact absurd hlt (Nat.lt_irrefl _)
  have HR2 := Lib.hid hr2
  clear hr2
  have HB2 : Hid (Below w0.heap.size w0 w2) := Lib.hid (HB1.out.trans (hb2.mono HB1.out.size))
  have x2 := HX.out w2 HB2.out
  clear hb2
  go_wp2_with fail
  refine (HBL.out w2 HB2.out).mono ?_
  rintro er wz ⟨rfl, rfl⟩
  go_wp2_with fail
  refine (HRI.out w2 HB2.out).mono ?_
  rintro er w3 ⟨⟨_, g3, rfl, hr3⟩ | ⟨hlt, _⟩, hb3⟩
  case inr => exact absurd hlt (Nat.lt_irrefl _)
  have HRx := Lib.hid (HR2.out.below hb3)
  have HRy := Lib.hid hr3
  clear hr3
  have HB3 : Hid (Below w0.heap.size w0 w3) := Lib.hid (HB2.out.trans (hb3.mono HB2.out.size))
  have x3 := HX.out w3 HB3.out
  clear hb3
  go_wp2_with fail
  refine (eq_same HLN.out (by omega) HRx.out HRy.out).mono ?_
  rintro er w4 ⟨rfl, hb4⟩
  have HB4 : Hid (Below w0.heap.size w0 w4) := Lib.hid (HB3.out.trans (hb4.mono HB3.out.size))
  have x4 := HX.out w4 HB4.out
  clear hb4
  go_wp2_with fail
  go_ret
  exact ⟨rfl, HBW.out w4 HB4.out⟩
set_option maxHeartbeats 8000000 in
theorem lb_ns (A1 A2 : Option Addr) (c1 c2 n m k0 j0 : Nat) (L M : List Int) (sz : Int) (w : World) (hn : L.length = n) (hm : M.length = m) (hnl : n ≤ 100) (hml : m ≤ 100) (h1 : IntsAt (· < w.heap.size) w A1 L) (h2 : IntsAt (· < w.heap.size) w A2 M) (hk : InvK L k0) (hj : j0 ≤ m) (hR : ∀ (j : Nat) (v : Int), j < j0 → M[j]? = some v → 0 ≤ v ∧ v < (n : Int)) (hbad : ∀ v, M[j0]? = some v → v < 0 ∨ (n : Int) ≤ v) (hp : k0 < n) (hs : sz ≤ 0) : Calls Try.prog 4 #[.slice A1 n c1, .slice A2 m c2, .int .i64 sz] w fun e w' => e = .returned (.bool true) ∧ Below w.heap.size w w' := by
  obtain ⟨w0, hw0⟩ : ∃ w0, w0 = w.alloc (.cells #[.slice A1 n c1] 23) := ⟨_, rfl⟩
  have hx0 : w0.heap[w.heap.size]? = some (.cells #[.slice A1 n c1] 23 (0, 0)) := by rw [hw0]; exact bdNew w _
  have hz0 : w0.heap.size = w.heap.size + 1 := by rw [hw0]; simp
  have hb0 : Below w.heap.size w w0 := by rw [hw0]; exact (Below.refl _ _).alloc (Nat.le_refl _) _
  have HB0 : Hid (Below w0.heap.size w0 w0) := Lib.hid (Below.refl _ _)
  have HXB := Lib.hid (show ∀ W, Below w0.heap.size w0 W → W.heap[w.heap.size]? = some (.cells #[.slice A1 n c1] 23 (0, 0)) from fun W hb => (hb.block w.heap.size (by omega)).trans hx0)
  have HX := Lib.hid (show ∀ W, Below w0.heap.size w0 W → W.cell? ⟨w.heap.size, 0, none⟩ = some (.slice A1 n c1) from fun W hb => (bk1 (HXB.out W hb)).1)
  have HBW := Lib.hid (show ∀ W, Below w0.heap.size w0 W → Below w.heap.size w W from fun W hb => hb0.trans (hb.mono (by omega)))
  have HI1 := Lib.hid (show ∀ W, Below w0.heap.size w0 W → IntsAt (· < W.heap.size) W A1 L from fun W hb => (h1.below (HBW.out W hb)).more fun b hb' => by have := (HBW.out W hb).size; omega)
  have HI2 := Lib.hid (show ∀ W, Below w0.heap.size w0 W → IntsAt (· < W.heap.size) W A2 M from fun W hb => (h2.below (HBW.out W hb)).more fun b hb' => by have := (HBW.out W hb).size; omega)
  have HA := Lib.hid (awake_any w0)
  have HIN := Lib.hid (show ∀ W, Below w0.heap.size w0 W → Calls Try.prog 18 #[.slice A1 n c1] W (InvP n L k0 W) from fun W hb => inverse_any A1 c1 n k0 L W hn (by omega) (HI1.out W hb) hk)
  have HRI := Lib.hid (show ∀ W, Below w0.heap.size w0 W → Calls Try.prog 20 #[.slice A1 n c1] W (RInvP n L k0 W) from fun W hb => refInverse_any A1 c1 n k0 L W hn (by omega) (HI1.out W hb) hk)
  have HBL := Lib.hid (fun W (_ : Below w0.heap.size w0 W) => blocks_size A1 A2 c1 c2 n m sz W hs)
  have d9 : decide (sz < 1) = true := decide_eq_true (by omega)
  have HW0 := Lib.hid hw0
  clear hw0 hx0 hb0 h1 h2 hn hm hk hR hbad
  go_enter Try.func4, Try.ntmps4
  go_wp2_with fail
  rw [← HW0.out]
  refine HA.out.mono ?_
  rintro er w1 ⟨rfl, hb1⟩
  have HB1 : Hid (Below w0.heap.size w0 w1) := Lib.hid (HB0.out.trans (hb1.mono HB0.out.size))
  have x1 := HX.out w1 HB1.out
  clear hb1
  go_wp2_with fail
  refine (HIN.out w1 HB1.out).mono ?_
  rintro er w2 ⟨⟨he, _⟩ | ⟨_, rfl⟩, hb2⟩
  case inl => exact absurd hp (by omega)
  have HB2 : Hid (Below w0.heap.size w0 w2) := Lib.hid (HB1.out.trans (hb2.mono HB1.out.size))
  have x2 := HX.out w2 HB2.out
  clear hb2
  go_wp2_with fail
  refine (HBL.out w2 HB2.out).mono ?_
  rintro er wz ⟨rfl, rfl⟩
  go_wp2_with fail
  refine (HRI.out w2 HB2.out).mono ?_
  rintro er w3 ⟨⟨he, _⟩ | ⟨_, rfl⟩, hb3⟩
  case inl => exact absurd hp (by omega)
  have HB3 : Hid (Below w0.heap.size w0 w3) := Lib.hid (HB2.out.trans (hb3.mono HB2.out.size))
  have x3 := HX.out w3 HB3.out
  clear hb3
  go_wp2_with fail
  go_ret
  exact ⟨rfl, HBW.out w3 HB3.out⟩
set_option maxHeartbeats 8000000 in
theorem lb_nn (A1 A2 : Option Addr) (c1 c2 n m k0 j0 : Nat) (L M : List Int) (sz : Int) (w : World) (hn : L.length = n) (hm : M.length = m) (hnl : n ≤ 100) (hml : m ≤ 100) (h1 : IntsAt (· < w.heap.size) w A1 L) (h2 : IntsAt (· < w.heap.size) w A2 M) (hk : InvK L k0) (hj : j0 ≤ m) (hR : ∀ (j : Nat) (v : Int), j < j0 → M[j]? = some v → 0 ≤ v ∧ v < (n : Int)) (hbad : ∀ v, M[j0]? = some v → v < 0 ∨ (n : Int) ≤ v) (hp : k0 < n) (hs : 1 ≤ sz) : Calls Try.prog 4 #[.slice A1 n c1, .slice A2 m c2, .int .i64 sz] w fun e w' => e = .returned (.bool true) ∧ Below w.heap.size w w' := by
  obtain ⟨w0, hw0⟩ : ∃ w0, w0 = w.alloc (.cells #[.slice A1 n c1] 23) := ⟨_, rfl⟩
  have hx0 : w0.heap[w.heap.size]? = some (.cells #[.slice A1 n c1] 23 (0, 0)) := by rw [hw0]; exact bdNew w _
  have hz0 : w0.heap.size = w.heap.size + 1 := by rw [hw0]; simp
  have hb0 : Below w.heap.size w w0 := by rw [hw0]; exact (Below.refl _ _).alloc (Nat.le_refl _) _
  have HB0 : Hid (Below w0.heap.size w0 w0) := Lib.hid (Below.refl _ _)
  have HXB := Lib.hid (show ∀ W, Below w0.heap.size w0 W → W.heap[w.heap.size]? = some (.cells #[.slice A1 n c1] 23 (0, 0)) from fun W hb => (hb.block w.heap.size (by omega)).trans hx0)
  have HX := Lib.hid (show ∀ W, Below w0.heap.size w0 W → W.cell? ⟨w.heap.size, 0, none⟩ = some (.slice A1 n c1) from fun W hb => (bk1 (HXB.out W hb)).1)
  have HBW := Lib.hid (show ∀ W, Below w0.heap.size w0 W → Below w.heap.size w W from fun W hb => hb0.trans (hb.mono (by omega)))
  have HI1 := Lib.hid (show ∀ W, Below w0.heap.size w0 W → IntsAt (· < W.heap.size) W A1 L from fun W hb => (h1.below (HBW.out W hb)).more fun b hb' => by have := (HBW.out W hb).size; omega)
  have HI2 := Lib.hid (show ∀ W, Below w0.heap.size w0 W → IntsAt (· < W.heap.size) W A2 M from fun W hb => (h2.below (HBW.out W hb)).more fun b hb' => by have := (HBW.out W hb).size; omega)
  have HA := Lib.hid (awake_any w0)
  have HIN := Lib.hid (show ∀ W, Below w0.heap.size w0 W → Calls Try.prog 18 #[.slice A1 n c1] W (InvP n L k0 W) from fun W hb => inverse_any A1 c1 n k0 L W hn (by omega) (HI1.out W hb) hk)
  have HRI := Lib.hid (show ∀ W, Below w0.heap.size w0 W → Calls Try.prog 20 #[.slice A1 n c1] W (RInvP n L k0 W) from fun W hb => refInverse_any A1 c1 n k0 L W hn (by omega) (HI1.out W hb) hk)
  have HBL := Lib.hid (fun W (hb : Below w0.heap.size w0 W) => blocks_perm A1 A2 c1 c2 n m k0 L sz W hn (by omega) (HI1.out W hb) hk hp hs)
  have d9 : decide (sz < 1) = false := decide_eq_false (by omega)
  have HW0 := Lib.hid hw0
  clear hw0 hx0 hb0 h1 h2 hn hm hk hR hbad
  go_enter Try.func4, Try.ntmps4
  go_wp2_with fail
  rw [← HW0.out]
  refine HA.out.mono ?_
  rintro er w1 ⟨rfl, hb1⟩
  have HB1 : Hid (Below w0.heap.size w0 w1) := Lib.hid (HB0.out.trans (hb1.mono HB0.out.size))
  have x1 := HX.out w1 HB1.out
  clear hb1
  go_wp2_with fail
  refine (HIN.out w1 HB1.out).mono ?_
  rintro er w2 ⟨⟨he, _⟩ | ⟨_, rfl⟩, hb2⟩
  case inl => exact absurd hp (by omega)
  have HB2 : Hid (Below w0.heap.size w0 w2) := Lib.hid (HB1.out.trans (hb2.mono HB1.out.size))
  have x2 := HX.out w2 HB2.out
  clear hb2
  go_wp2_with fail
  refine (HBL.out w2 HB2.out).mono ?_
  rintro er w3 ⟨rfl, hb3⟩
  have HB3 : Hid (Below w0.heap.size w0 w3) := Lib.hid (HB2.out.trans (hb3.mono HB2.out.size))
  have x3 := HX.out w3 HB3.out
  clear hb3
  go_wp2_with fail
  refine (HRI.out w3 HB3.out).mono ?_
  rintro er w4 ⟨⟨he, _⟩ | ⟨_, rfl⟩, hb4⟩
  case inl => exact absurd hp (by omega)
  have HB4 : Hid (Below w0.heap.size w0 w4) := Lib.hid (HB3.out.trans (hb4.mono HB3.out.size))
  have x4 := HX.out w4 HB4.out
  clear hb4
  go_wp2_with fail
  go_ret
  exact ⟨rfl, HBW.out w4 HB4.out⟩
set_option maxHeartbeats 8000000 in
theorem lb_out (A1 A2 : Option Addr) (c1 c2 n m k0 j0 : Nat) (L M : List Int) (sz : Int) (w : World) (hn : L.length = n) (hm : M.length = m) (hnl : n ≤ 100) (hml : m ≤ 100) (h1 : IntsAt (· < w.heap.size) w A1 L) (h2 : IntsAt (· < w.heap.size) w A2 M) (hk : InvK L k0) (hj : j0 ≤ m) (hR : ∀ (j : Nat) (v : Int), j < j0 → M[j]? = some v → 0 ≤ v ∧ v < (n : Int)) (hbad : ∀ v, M[j0]? = some v → v < 0 ∨ (n : Int) ≤ v) (hp : k0 = n) (hs : 1 ≤ sz) (hr : j0 < m) : Calls Try.prog 4 #[.slice A1 n c1, .slice A2 m c2, .int .i64 sz] w fun e w' => e = .returned (.bool true) ∧ Below w.heap.size w w' := by
  obtain ⟨w0, hw0⟩ : ∃ w0, w0 = w.alloc (.cells #[.slice A1 n c1] 23) := ⟨_, rfl⟩
  have hx0 : w0.heap[w.heap.size]? = some (.cells #[.slice A1 n c1] 23 (0, 0)) := by rw [hw0]; exact bdNew w _
  have hz0 : w0.heap.size = w.heap.size + 1 := by rw [hw0]; simp
  have hb0 : Below w.heap.size w w0 := by rw [hw0]; exact (Below.refl _ _).alloc (Nat.le_refl _) _
  have HB0 : Hid (Below w0.heap.size w0 w0) := Lib.hid (Below.refl _ _)
  have HXB := Lib.hid (show ∀ W, Below w0.heap.size w0 W → W.heap[w.heap.size]? = some (.cells #[.slice A1 n c1] 23 (0, 0)) from fun W hb => (hb.block w.heap.size (by omega)).trans hx0)
  have HX := Lib.hid (show ∀ W, Below w0.heap.size w0 W → W.cell? ⟨w.heap.size, 0, none⟩ = some (.slice A1 n c1) from fun W hb => (bk1 (HXB.out W hb)).1)
  have HBW := Lib.hid (show ∀ W, Below w0.heap.size w0 W → Below w.heap.size w W from fun W hb => hb0.trans (hb.mono (by omega)))
  have HI1 := Lib.hid (show ∀ W, Below w0.heap.size w0 W → IntsAt (· < W.heap.size) W A1 L from fun W hb => (h1.below (HBW.out W hb)).more fun b hb' => by have := (HBW.out W hb).size; omega)
  have HI2 := Lib.hid (show ∀ W, Below w0.heap.size w0 W → IntsAt (· < W.heap.size) W A2 M from fun W hb => (h2.below (HBW.out W hb)).more fun b hb' => by have := (HBW.out W hb).size; omega)
  have HA := Lib.hid (awake_any w0)
  have HIN := Lib.hid (show ∀ W, Below w0.heap.size w0 W → Calls Try.prog 18 #[.slice A1 n c1] W (InvP n L k0 W) from fun W hb => inverse_any A1 c1 n k0 L W hn (by omega) (HI1.out W hb) hk)
  have HRI := Lib.hid (show ∀ W, Below w0.heap.size w0 W → Calls Try.prog 20 #[.slice A1 n c1] W (RInvP n L k0 W) from fun W hb => refInverse_any A1 c1 n k0 L W hn (by omega) (HI1.out W hb) hk)
  subst hp
  have HBL := Lib.hid (fun W (hb : Below w0.heap.size w0 W) => blocks_out A1 A2 c1 c2 k0 m j0 L M sz W hn hm (by omega) (by omega) (HI1.out W hb) (HI2.out W hb) hk hs hr hR hbad)
  have d9 : decide (sz < 1) = false := decide_eq_false (by omega)
  have HCF := Lib.hid (fun W (hb : Below w0.heap.size w0 W) => containsF_any A1 A2 w.heap.size k0 c1 c2 m j0 M W hm (by omega) (HI2.out W hb) (HXB.out W hb) hj hR hbad true (by simp; omega))
  have HLN := Lib.hid (show (invR L k0).length = k0 by rw [invR_len, hn])
  have HW0 := Lib.hid hw0
  clear hw0 hx0 hb0 h1 h2 hn hm hk hR hbad
  go_enter Try.func4, Try.ntmps4
  go_wp2_with fail
  rw [← HW0.out]
  refine HA.out.mono ?_
  rintro er w1 ⟨rfl, hb1⟩
  have HB1 : Hid (Below w0.heap.size w0 w1) := Lib.hid (HB0.out.trans (hb1.mono HB0.out.size))
  have x1 := HX.out w1 HB1.out
  clear hb1
  go_wp2_with fail
  refine (HIN.out w1 HB1.out).mono ?_
  rintro er w2 ⟨⟨_, g2, rfl, hr2⟩ | ⟨hlt, _⟩, hb2⟩
  case inr => exact absurd hlt (Nat.lt_irrefl _)
  have HR2 := Lib.hid hr2
  clear hr2
  have HB2 : Hid (Below w0.heap.size w0 w2) := Lib.hid (HB1.out.trans (hb2.mono HB1.out.size))
  have x2 := HX.out w2 HB2.out
  clear hb2
  go_wp2_with fail
  refine (HBL.out w2 HB2.out).mono ?_
  rintro er w3 ⟨rfl, hb3⟩
  have HR3 := Lib.hid (HR2.out.below hb3)
  have HB3 : Hid (Below w0.heap.size w0 w3) := Lib.hid (HB2.out.trans (hb3.mono HB2.out.size))
  have x3 := HX.out w3 HB3.out
  clear hb3
  go_wp2_with fail
  refine (HRI.out w3 HB3.out).mono ?_
  rintro er w4 ⟨⟨_, g4, rfl, hr4⟩ | ⟨hlt, _⟩, hb4⟩
  case inr => exact absurd hlt (Nat.lt_irrefl _)
  have HRx := Lib.hid (HR3.out.below hb4)
  have HRy := Lib.hid hr4
  clear hr4
  have HB4 : Hid (Below w0.heap.size w0 w4) := Lib.hid (HB3.out.trans (hb4.mono HB3.out.size))
  have x4 := HX.out w4 HB4.out
  clear hb4
  go_wp2_with fail
  refine (eq_same HLN.out (by omega) HRx.out HRy.out).mono ?_
  rintro er w5 ⟨rfl, hb5⟩
  have HB5 : Hid (Below w0.heap.size w0 w5) := Lib.hid (HB4.out.trans (hb5.mono HB4.out.size))
  have x5 := HX.out w5 HB5.out
  clear hb5
  go_wp2_with fail
  refine (HCF.out w5 HB5.out).mono ?_
  rintro er wz ⟨rfl, rfl⟩
  go_wp2_with fail
  go_ret
  exact ⟨rfl, HBW.out w5 HB5.out⟩
set_option maxHeartbeats 8000000 in
theorem lb_yes (A1 A2 : Option Addr) (c1 c2 n m k0 j0 : Nat) (L M : List Int) (sz : Int) (w : World) (hn : L.length = n) (hm : M.length = m) (hnl : n ≤ 100) (hml : m ≤ 100) (h1 : IntsAt (· < w.heap.size) w A1 L) (h2 : IntsAt (· < w.heap.size) w A2 M) (hk : InvK L k0) (hj : j0 ≤ m) (hR : ∀ (j : Nat) (v : Int), j < j0 → M[j]? = some v → 0 ≤ v ∧ v < (n : Int)) (hbad : ∀ v, M[j0]? = some v → v < 0 ∨ (n : Int) ≤ v) (hp : k0 = n) (hs : 1 ≤ sz) (hr : j0 = m) : Calls Try.prog 4 #[.slice A1 n c1, .slice A2 m c2, .int .i64 sz] w fun e w' => e = .returned (.bool true) ∧ Below w.heap.size w w' := by
  obtain ⟨w0, hw0⟩ : ∃ w0, w0 = w.alloc (.cells #[.slice A1 n c1] 23) := ⟨_, rfl⟩
  have hx0 : w0.heap[w.heap.size]? = some (.cells #[.slice A1 n c1] 23 (0, 0)) := by rw [hw0]; exact bdNew w _
  have hz0 : w0.heap.size = w.heap.size + 1 := by rw [hw0]; simp
  have hb0 : Below w.heap.size w w0 := by rw [hw0]; exact (Below.refl _ _).alloc (Nat.le_refl _) _
  have HB0 : Hid (Below w0.heap.size w0 w0) := Lib.hid (Below.refl _ _)
  have HXB := Lib.hid (show ∀ W, Below w0.heap.size w0 W → W.heap[w.heap.size]? = some (.cells #[.slice A1 n c1] 23 (0, 0)) from fun W hb => (hb.block w.heap.size (by omega)).trans hx0)
  have HX := Lib.hid (show ∀ W, Below w0.heap.size w0 W → W.cell? ⟨w.heap.size, 0, none⟩ = some (.slice A1 n c1) from fun W hb => (bk1 (HXB.out W hb)).1)
  have HBW := Lib.hid (show ∀ W, Below w0.heap.size w0 W → Below w.heap.size w W from fun W hb => hb0.trans (hb.mono (by omega)))
  have HI1 := Lib.hid (show ∀ W, Below w0.heap.size w0 W → IntsAt (· < W.heap.size) W A1 L from fun W hb => (h1.below (HBW.out W hb)).more fun b hb' => by have := (HBW.out W hb).size; omega)
  have HI2 := Lib.hid (show ∀ W, Below w0.heap.size w0 W → IntsAt (· < W.heap.size) W A2 M from fun W hb => (h2.below (HBW.out W hb)).more fun b hb' => by have := (HBW.out W hb).size; omega)
  have HA := Lib.hid (awake_any w0)
  have HIN := Lib.hid (show ∀ W, Below w0.heap.size w0 W → Calls Try.prog 18 #[.slice A1 n c1] W (InvP n L k0 W) from fun W hb => inverse_any A1 c1 n k0 L W hn (by omega) (HI1.out W hb) hk)
  have HRI := Lib.hid (show ∀ W, Below w0.heap.size w0 W → Calls Try.prog 20 #[.slice A1 n c1] W (RInvP n L k0 W) from fun W hb => refInverse_any A1 c1 n k0 L W hn (by omega) (HI1.out W hb) hk)
  subst hp
  have hR' : ∀ (j : Nat) (v : Int), M[j]? = some v → 0 ≤ v ∧ v < (k0 : Int) := fun j v hv => hR j v (by have := (List.getElem?_eq_some_iff.1 hv).1; omega) hv
  have HBL := Lib.hid (fun W (hb : Below w0.heap.size w0 W) => blocks_yes A1 A2 c1 c2 k0 m L M sz W hn hm (by omega) (by omega) (HI1.out W hb) (HI2.out W hb) hk hs hR')
  have HRB := Lib.hid (fun W (hb : Below w0.heap.size w0 W) => refBlocks_any A1 A2 c1 c2 k0 m L M sz W hn hm (by omega) (by omega) (HI1.out W hb) (HI2.out W hb) hk hs hR')
  have hdl : (disA (blks L M sz)).length ≤ 100 := Nat.le_trans (disA_le _) (by unfold blks; rw [List.length_map]; omega)
  obtain ⟨dl, hdl0⟩ : ∃ dl, dl = (disA (blks L M sz)).length := ⟨_, rfl⟩
  rw [← hdl0] at HBL HRB hdl
  clear hdl0 hR'
  have d9 : decide (sz < 1) = false := decide_eq_false (by omega)
  have HCF := Lib.hid (fun W (hb : Below w0.heap.size w0 W) => containsF_any A1 A2 w.heap.size k0 c1 c2 m j0 M W hm (by omega) (HI2.out W hb) (HXB.out W hb) hj hR hbad false (by simp; omega))
  have HLN := Lib.hid (show (invR L k0).length = k0 by rw [invR_len, hn])
  have HW0 := Lib.hid hw0
  clear hw0 hx0 hb0 h1 h2 hn hm hk hR hbad
  go_enter Try.func4, Try.ntmps4
  go_wp2_with fail
  rw [← HW0.out]
  refine HA.out.mono ?_
  rintro er w1 ⟨rfl, hb1⟩
  have HB1 : Hid (Below w0.heap.size w0 w1) := Lib.hid (HB0.out.trans (hb1.mono HB0.out.size))
  have x1 := HX.out w1 HB1.out
  clear hb1
  go_wp2_with fail
  refine (HIN.out w1 HB1.out).mono ?_
  rintro er w2 ⟨⟨_, g2, rfl, hr2⟩ | ⟨hlt, _⟩, hb2⟩
  case inr => exact absurd hlt (Nat.lt_irrefl _)
  have HR2 := Lib.hid hr2
  clear hr2
  have HB2 : Hid (Below w0.heap.size w0 w2) := Lib.hid (HB1.out.trans (hb2.mono HB1.out.size))
  have x2 := HX.out w2 HB2.out
  clear hb2
  go_wp2_with fail
  refine (HBL.out w2 HB2.out).mono ?_
  rintro er w3 ⟨rfl, hb3⟩
  have HR3 := Lib.hid (HR2.out.below hb3)
  have HB3 : Hid (Below w0.heap.size w0 w3) := Lib.hid (HB2.out.trans (hb3.mono HB2.out.size))
  have x3 := HX.out w3 HB3.out
  clear hb3
  go_wp2_with fail
  refine (HRI.out w3 HB3.out).mono ?_
  rintro er w4 ⟨⟨_, g4, rfl, hr4⟩ | ⟨hlt, _⟩, hb4⟩
  case inr => exact absurd hlt (Nat.lt_irrefl _)
  have HRx := Lib.hid (HR3.out.below hb4)
  have HRy := Lib.hid hr4
  clear hr4
  have HB4 : Hid (Below w0.heap.size w0 w4) := Lib.hid (HB3.out.trans (hb4.mono HB3.out.size))
  have x4 := HX.out w4 HB4.out
  clear hb4
  go_wp2_with fail
  refine (eq_same HLN.out (by omega) HRx.out HRy.out).mono ?_
  rintro er w5 ⟨rfl, hb5⟩
  have HB5 : Hid (Below w0.heap.size w0 w5) := Lib.hid (HB4.out.trans (hb5.mono HB4.out.size))
  have x5 := HX.out w5 HB5.out
  clear hb5
  go_wp2_with fail
  refine (HCF.out w5 HB5.out).mono ?_
  rintro er wz ⟨rfl, rfl⟩
  go_wp2_with fail
  refine (HRB.out w5 HB5.out).mono ?_
  rintro er w6 ⟨rfl, hb6⟩
  have HB6 : Hid (Below w0.heap.size w0 w6) := Lib.hid (HB5.out.trans (hb6.mono HB5.out.size))
  have x6 := HX.out w6 HB6.out
  clear hb6
  go_wp2_with fail
  go_ret
  exact ⟨rfl, HBW.out w6 HB6.out⟩
theorem lb_big (A1 A2 : Option Addr) (c1 c2 n m : Nat) (sz : Int) (w : World) (hb : 100 < n ∨ 100 < m) : Calls Try.prog 4 #[.slice A1 n c1, .slice A2 m c2, .int .i64 sz] w fun e w' => e = .returned (.bool true) ∧ Below w.heap.size w w' := by
  obtain ⟨w0, hw0⟩ : ∃ w0, w0 = w.alloc (.cells #[.slice A1 n c1] 23) := ⟨_, rfl⟩
  have hx0 : w0.heap[w.heap.size]? = some (.cells #[.slice A1 n c1] 23 (0, 0)) := by rw [hw0]; exact bdNew w _
  have hz0 : w0.heap.size = w.heap.size + 1 := by rw [hw0]; simp
  have hb0 : Hid (Below w.heap.size w w0) := Lib.hid (by rw [hw0]; exact (Below.refl _ _).alloc (Nat.le_refl _) _)
  have HX := Lib.hid (show ∀ W, Below w0.heap.size w0 W → W.cell? ⟨w.heap.size, 0, none⟩ = some (.slice A1 n c1) from fun W hb => (bk1 ((hb.block w.heap.size (by omega)).trans hx0)).1)
  have HA := Lib.hid (awake_any w0)
  have HW0 := Lib.hid hw0
  clear hw0 hx0
  by_cases h1 : 100 < n
  · have d1 : decide ((100 : Int) < (n : Int)) = true := decide_eq_true (by omega)
    have d1n : decide (100 < n) = true := decide_eq_true h1
    clear hb
    go_enter Try.func4, Try.ntmps4
    go_wp2_with fail
    rw [← HW0.out]
    refine HA.out.mono ?_
    rintro er w1 ⟨rfl, hb1⟩
    have HB1 := Lib.hid hb1
    have x1 := HX.out w1 hb1
    clear hb1
    go_wp2_with fail
    go_ret
    exact ⟨rfl, hb0.out.trans (HB1.out.mono (by omega))⟩
  · have d1 : decide ((100 : Int) < (n : Int)) = false := decide_eq_false (by omega)
    have d1n : decide (100 < n) = false := decide_eq_false h1
    have d2 : decide ((100 : Int) < (m : Int)) = true := decide_eq_true (by omega)
    have d2n : decide (100 < m) = true := decide_eq_true (by omega)
    clear hb
    go_enter Try.func4, Try.ntmps4
    go_wp2_with fail
    rw [← HW0.out]
    refine HA.out.mono ?_
    rintro er w1 ⟨rfl, hb1⟩
    have HB1 := Lib.hid hb1
    have x1 := HX.out w1 hb1
    clear hb1
    go_wp2_with fail
    go_ret
    exact ⟨rfl, hb0.out.trans (HB1.out.mono (by omega))⟩
/-- How far the nodes of a list are in range. -/
theorem rng_ex (M : List Int) (n : Nat) : ∃ j0, j0 ≤ M.length ∧ (∀ (j : Nat) (v : Int), j < j0 → M[j]? = some v → 0 ≤ v ∧ v < (n : Int)) ∧ ∀ v, M[j0]? = some v → v < 0 ∨ (n : Int) ≤ v := by
  induction M with
  | nil => exact ⟨0, Nat.le_refl _, fun j v hj => by omega, fun v hv => by simp at hv⟩
  | cons a M ih =>
    obtain ⟨j0, h1, h2, h3⟩ := ih
    by_cases ha : 0 ≤ a ∧ a < (n : Int)
    · refine ⟨j0 + 1, by simp; omega, fun j v hj hv => ?_, fun v hv => h3 v (by simpa using hv)⟩
      cases j with
      | zero => simp at hv; subst hv; exact ha
      | succ j => exact h2 j v (by omega) (by simpa using hv)
    · exact ⟨0, by omega, fun j v hj => by omega, fun v hv => by simp at hv; subst hv; omega⟩
theorem lawBlocks_any (A1 A2 : Option Addr) (c1 c2 n m : Nat) (L M : List Int) (sz : Int) (w : World) (hn : L.length = n) (hm : M.length = m) (h1 : IntsAt (· < w.heap.size) w A1 L) (h2 : IntsAt (· < w.heap.size) w A2 M) : Calls Try.prog 4 #[.slice A1 n c1, .slice A2 m c2, .int .i64 sz] w fun e w' => e = .returned (.bool true) ∧ Below w.heap.size w w' := by
  by_cases hbig : 100 < n ∨ 100 < m
  · exact lb_big A1 A2 c1 c2 n m sz w hbig
  obtain ⟨k0, hk⟩ := invK_ex L
  obtain ⟨j0, hj, hR, hbad⟩ := rng_ex M n
  have hkn := hk.le
  rcases Nat.lt_or_ge k0 n with hp | hp
  · by_cases hs : 1 ≤ sz
    · exact lb_nn A1 A2 c1 c2 n m k0 j0 L M sz w hn hm (by omega) (by omega) h1 h2 hk (by omega) hR hbad hp hs
    · exact lb_ns A1 A2 c1 c2 n m k0 j0 L M sz w hn hm (by omega) (by omega) h1 h2 hk (by omega) hR hbad hp (by omega)
  · by_cases hs : 1 ≤ sz
    · by_cases hr : j0 < m
      · exact lb_out A1 A2 c1 c2 n m k0 j0 L M sz w hn hm (by omega) (by omega) h1 h2 hk (by omega) hR hbad (by omega) hs hr
      · exact lb_yes A1 A2 c1 c2 n m k0 j0 L M sz w hn hm (by omega) (by omega) h1 h2 hk (by omega) hR hbad (by omega) hs (by omega)
    · exact lb_ps A1 A2 c1 c2 n m k0 j0 L M sz w hn hm (by omega) (by omega) h1 h2 hk (by omega) hR hbad (by omega) (by omega)
end Go.Proofs.Ytmlgbmfjnbhamaa
