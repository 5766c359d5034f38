/- RatioMakes: the law's walk. -/
import Derived.Test.YtmebdieflllgcaaDoorRatW
namespace Go.Proofs.YtmebdieflllgcaaDoor
open Go.RowKit
set_option maxRecDepth 100000

theorem mkR_ok {n d x y z : Int} (h : mkR n d = (x, y, z)) (hz : z = 0) : vldB x y = true := by
  rcases mkR_or n d with ⟨x', y', e, v⟩ | ⟨z', e, h5⟩
  · rw [e] at h
    have h1 := congrArg Prod.fst h
    have h2 := congrArg (fun p => p.2.1) h
    dsimp only at h1 h2
    rw [h1, h2] at v
    exact vldB_true.2 v
  · rw [e] at h
    have h1 := congrArg (fun p => p.2.2) h
    dsimp only at h1
    omega
theorem mkR_bad {n d x y z : Int} (h : mkR n d = (x, y, z)) (hz : z ≠ 0) : x = 0 ∧ y = 0 := by
  rcases mkR_or n d with ⟨x', y', e, v⟩ | ⟨z', e, h5⟩
  · rw [e] at h
    have h1 := congrArg (fun p => p.2.2) h
    dsimp only at h1
    omega
  · rw [e] at h
    have h1 := congrArg Prod.fst h
    have h2 := congrArg (fun p => p.2.1) h
    dsimp only at h1 h2
    exact ⟨h1.symm, h2.symm⟩
/-- The boxes of the law: two equal results, the fraction as it was given. -/
structure Mk3 (w w' : World) (p q r : Nat) (x y n d : Int) : Prop where
  below : Below w.heap.size w w'
  a0 : w'.heap[p]? = some (.cells #[.int .i64 x, .int .i64 y] 24 (0, 0))
  a1 : w'.heap[q]? = some (.cells #[.int .i64 x, .int .i64 y] 24 (0, 0))
  a2 : w'.heap[r]? = some (.cells #[.int .i64 n, .int .i64 d] 24 (0, 0))
theorem Mk3.on {w w1 w2 : World} {p q r : Nat} {x y n d : Int} (h : Mk3 w w1 p q r x y n d) (hb : Below w1.heap.size w1 w2) : Mk3 w w2 p q r x y n d :=
  ⟨h.below.trans (hb.mono h.below.size), bdAt h.a0 hb, bdAt h.a1 hb, bdAt h.a2 hb⟩
theorem Mk3.dr {w w1 : World} {p q r : Nat} {x y n d : Int} (h : Mk3 w w1 p q r x y n d) : Mk3 w w1.drew p q r x y n d := ⟨h.below.drew, h.a0, h.a1, h.a2⟩
/-- With the cells that the loads read. -/
theorem Mk3.mc {w W : World} {p q r : Nat} {x y n d : Int} (h : Mk3 w W p q r x y n d) : (((W.cell? ⟨p, 0, none⟩ = some (.int .i64 x) ∧ W.cell? ⟨p, 1, none⟩ = some (.int .i64 y)) ∧ (W.cell? ⟨q, 0, none⟩ = some (.int .i64 x) ∧ W.cell? ⟨q, 1, none⟩ = some (.int .i64 y)) ∧ (W.cell? ⟨r, 0, none⟩ = some (.int .i64 n) ∧ W.cell? ⟨r, 1, none⟩ = some (.int .i64 d))) ∧ Mk3 w W p q r x y n d) :=
  ⟨⟨(bk2 h.a0).1, (bk2 h.a1).1, (bk2 h.a2).1⟩, h⟩
theorem Mk3S {w W V : World} {p q r : Nat} {x y n d : Int} (hb : Below W.heap.size W V) (h : (((W.cell? ⟨p, 0, none⟩ = some (.int .i64 x) ∧ W.cell? ⟨p, 1, none⟩ = some (.int .i64 y)) ∧ (W.cell? ⟨q, 0, none⟩ = some (.int .i64 x) ∧ W.cell? ⟨q, 1, none⟩ = some (.int .i64 y)) ∧ (W.cell? ⟨r, 0, none⟩ = some (.int .i64 n) ∧ W.cell? ⟨r, 1, none⟩ = some (.int .i64 d))) ∧ Mk3 w W p q r x y n d)) : (((V.cell? ⟨p, 0, none⟩ = some (.int .i64 x) ∧ V.cell? ⟨p, 1, none⟩ = some (.int .i64 y)) ∧ (V.cell? ⟨q, 0, none⟩ = some (.int .i64 x) ∧ V.cell? ⟨q, 1, none⟩ = some (.int .i64 y)) ∧ (V.cell? ⟨r, 0, none⟩ = some (.int .i64 n) ∧ V.cell? ⟨r, 1, none⟩ = some (.int .i64 d))) ∧ Mk3 w V p q r x y n d) := (h.2.on hb).mc
theorem Mk3B {w W : World} {p q r : Nat} {x y n d : Int} (h : (((W.cell? ⟨p, 0, none⟩ = some (.int .i64 x) ∧ W.cell? ⟨p, 1, none⟩ = some (.int .i64 y)) ∧ (W.cell? ⟨q, 0, none⟩ = some (.int .i64 x) ∧ W.cell? ⟨q, 1, none⟩ = some (.int .i64 y)) ∧ (W.cell? ⟨r, 0, none⟩ = some (.int .i64 n) ∧ W.cell? ⟨r, 1, none⟩ = some (.int .i64 d))) ∧ Mk3 w W p q r x y n d)) : Below w.heap.size w W := h.2.below

set_option maxHeartbeats 8000000 in
theorem ratioMakes_ok (n d x y : Int) (h1 : -9223372036854775808 ≤ n) (h2 : n ≤ 9223372036854775807) (h3 : -9223372036854775808 ≤ d) (h4 : d ≤ 9223372036854775807) (w : World) (hp : Pw w) (hr : mkR n d = (x, y, 0)) :
    Calls Tryd.prog 3 #[.int .i64 n, .int .i64 d] w fun e w' => e = .returned (.bool true) ∧ Below w.heap.size w w' := by
  have HP := Lib.hid hp
  have hv := mkR_ok hr rfl
  have HV := Lib.hid hv
  have HR := Lib.hid hr
  clear hp hr hv
  go_enter Tryd.func3, Tryd.ntmps3
  go_wp2_with fail
  refine (awake04_any _ HP.out).mono ?_
  rintro e w1 ⟨rfl, hb1⟩
  have K1 := Lib.hid hb1
  clear hb1
  go_wp2_with fail
  refine (Make_is n d x y 0 h1 h2 h3 h4 _ HR.out).mono ?_
  rintro e w2 ⟨rfl, hb2⟩
  have K2 := Lib.hid ((K1.out.trans (hb2.mono K1.out.size)).alloc (by have := K1.out.size; have := hb2.size; omega) (.cells #[.int .i64 x, .int .i64 y] 24))
  have A2 := Lib.hid (bdNew w2 (.cells #[.int .i64 x, .int .i64 y] 24))
  clear hb2
  go_wp2_with fail
  refine (refMake_is n d x y 0 h1 h2 h3 h4 _ HR.out).mono ?_
  rintro e w3 ⟨rfl, hb3⟩
  have K3 := Lib.hid ((K2.out.trans (hb3.mono K2.out.size)).alloc (by have := K2.out.size; have := hb3.size; omega) (.cells #[.int .i64 x, .int .i64 y] 24))
  have A3 := Lib.hid (bdOld (p := .cells #[.int .i64 x, .int .i64 y] 24) (bdAt A2.out hb3))
  have B3 := Lib.hid (bdNew w3 (.cells #[.int .i64 x, .int .i64 y] 24))
  clear hb3
  have K4 := Lib.hid (K3.out.alloc K3.out.size (.cells #[.int .i64 n, .int .i64 d] 24))
  have A4 := Lib.hid (bdOld (p := .cells #[.int .i64 n, .int .i64 d] 24) A3.out)
  have B4 := Lib.hid (bdOld (p := .cells #[.int .i64 n, .int .i64 d] 24) B3.out)
  have C4' := bdNew (w3.alloc (.cells #[.int .i64 x, .int .i64 y] 24)) (.cells #[.int .i64 n, .int .i64 d] 24)
  simp only [World.size_alloc] at C4'
  have C4 := Lib.hid C4'
  have HM := Lib.hid (Mk3.mk K4.out A4.out B4.out C4.out)
  clear C4'
  go_wp2_with fail
  have hxy : vldB x y = true := HV.out
  go_region_held3 (fun W => ((W.cell? ⟨w2.heap.size, 0, none⟩ = some (.int .i64 x) ∧ W.cell? ⟨w2.heap.size, 1, none⟩ = some (.int .i64 y)) ∧ (W.cell? ⟨w3.heap.size, 0, none⟩ = some (.int .i64 x) ∧ W.cell? ⟨w3.heap.size, 1, none⟩ = some (.int .i64 y)) ∧ (W.cell? ⟨w3.heap.size + 1, 0, none⟩ = some (.int .i64 n) ∧ W.cell? ⟨w3.heap.size + 1, 1, none⟩ = some (.int .i64 d))) ∧ Mk3 w W w2.heap.size w3.heap.size (w3.heap.size + 1) x y n d)
    (first | exact HM.out.dr.mc | assumption | exact Mk3S hbx (by assumption))
    (first
      | (go_at_call 15; refine (Valid_any _ _ _).mono ?_; rintro e wx ⟨rfl, hbx⟩)
      | (go_at_call 16; refine (refValid_any _ _ _).mono ?_; rintro e wx ⟨rfl, hbx⟩))
  go_wp2
  go_ret
  exact ⟨rfl, Mk3B (by assumption)⟩
set_option maxHeartbeats 8000000 in
theorem ratioMakes_bad (n d z : Int) (hz : z ≠ 0) (h1 : -9223372036854775808 ≤ n) (h2 : n ≤ 9223372036854775807) (h3 : -9223372036854775808 ≤ d) (h4 : d ≤ 9223372036854775807) (w : World) (hp : Pw w) (hr : mkR n d = (0, 0, z)) :
    Calls Tryd.prog 3 #[.int .i64 n, .int .i64 d] w fun e w' => e = .returned (.bool true) ∧ Below w.heap.size w w' := by
  have HP := Lib.hid hp
  have fz : (z != 0) = true := by simpa using hz
  have HR := Lib.hid hr
  clear hp hr hz
  go_enter Tryd.func3, Tryd.ntmps3
  go_wp2_with fail
  refine (awake04_any _ HP.out).mono ?_
  rintro e w1 ⟨rfl, hb1⟩
  have K1 := Lib.hid hb1
  clear hb1
  go_wp2_with fail
  refine (Make_is n d 0 0 z h1 h2 h3 h4 _ HR.out).mono ?_
  rintro e w2 ⟨rfl, hb2⟩
  have K2 := Lib.hid ((K1.out.trans (hb2.mono K1.out.size)).alloc (by have := K1.out.size; have := hb2.size; omega) (.cells #[.int .i64 0, .int .i64 0] 24))
  have A2 := Lib.hid (bdNew w2 (.cells #[.int .i64 0, .int .i64 0] 24))
  clear hb2
  go_wp2_with fail
  refine (refMake_is n d 0 0 z h1 h2 h3 h4 _ HR.out).mono ?_
  rintro e w3 ⟨rfl, hb3⟩
  have K3 := Lib.hid ((K2.out.trans (hb3.mono K2.out.size)).alloc (by have := K2.out.size; have := hb3.size; omega) (.cells #[.int .i64 0, .int .i64 0] 24))
  have A3 := Lib.hid (bdOld (p := .cells #[.int .i64 0, .int .i64 0] 24) (bdAt A2.out hb3))
  have B3 := Lib.hid (bdNew w3 (.cells #[.int .i64 0, .int .i64 0] 24))
  clear hb3
  have K4 := Lib.hid (K3.out.alloc K3.out.size (.cells #[.int .i64 n, .int .i64 d] 24))
  have A4 := Lib.hid (bdOld (p := .cells #[.int .i64 n, .int .i64 d] 24) A3.out)
  have B4 := Lib.hid (bdOld (p := .cells #[.int .i64 n, .int .i64 d] 24) B3.out)
  have C4' := bdNew (w3.alloc (.cells #[.int .i64 0, .int .i64 0] 24)) (.cells #[.int .i64 n, .int .i64 d] 24)
  simp only [World.size_alloc] at C4'
  have C4 := Lib.hid C4'
  have HM := Lib.hid (Mk3.mk K4.out A4.out B4.out C4.out)
  clear C4'
  go_wp2_with fail
  refine wp_region_held_drew (S := fun W => ((W.cell? ⟨w2.heap.size, 0, none⟩ = some (.int .i64 0) ∧ W.cell? ⟨w2.heap.size, 1, none⟩ = some (.int .i64 0)) ∧ (W.cell? ⟨w3.heap.size, 0, none⟩ = some (.int .i64 0) ∧ W.cell? ⟨w3.heap.size, 1, none⟩ = some (.int .i64 0)) ∧ (W.cell? ⟨w3.heap.size + 1, 0, none⟩ = some (.int .i64 n) ∧ W.cell? ⟨w3.heap.size + 1, 1, none⟩ = some (.int .i64 d))) ∧ Mk3 w W w2.heap.size w3.heap.size (w3.heap.size + 1) 0 0 n d) (by kernel_rfl) (by exact HM.out.dr.mc) (fun hHeld => ?_)
  refine wpAnyH_take (i := 0) (oi := ⟨some 27, _, _, _, _, _⟩) (v := ?_) rfl (by kernel_rfl) (by kernel_rfl) (by kernel_rfl) (fun _ _ _ h => h) (Or.inl ⟨by rfl, ?_⟩) (by assumption) ?_
  rotate_left
  · (intro w hSw; (try dsimp only at hSw); go_simp; (try with_reducible rfl))
  (try simp only [Act.put, List.setIfInBounds_toArray, List.set_cons_zero, List.set_cons_succ])
  refine wpAnyH_take (i := 1) (oi := ⟨some 28, _, _, _, _, _⟩) (v := ?_) rfl (by kernel_rfl) (by kernel_rfl) (by kernel_rfl) (fun _ _ _ h => h) (Or.inl ⟨by rfl, ?_⟩) (by assumption) ?_
  rotate_left
  · (intro w hSw; (try dsimp only at hSw); go_simp; (try with_reducible rfl))
  (try simp only [Act.put, List.setIfInBounds_toArray, List.set_cons_zero, List.set_cons_succ])
  refine wpAnyH_take (i := 2) (oi := ⟨some 29, _, _, _, _, _⟩) (v := ?_) rfl (by kernel_rfl) (by kernel_rfl) (by kernel_rfl) (fun _ _ _ h => h) (Or.inl ⟨by rfl, ?_⟩) (by assumption) ?_
  rotate_left
  · (intro w hSw; (try dsimp only at hSw); go_simp; (try with_reducible rfl))
  (try simp only [Act.put, List.setIfInBounds_toArray, List.set_cons_zero, List.set_cons_succ])
  refine wpAnyH_take (i := 3) (oi := ⟨some 30, _, _, _, _, _⟩) (v := ?_) rfl (by kernel_rfl) (by kernel_rfl) (by kernel_rfl) (fun _ _ _ h => h) (Or.inl ⟨by rfl, ?_⟩) (by assumption) ?_
  rotate_left
  · (intro w hSw; (try dsimp only at hSw); go_simp; (try with_reducible rfl))
  (try simp only [Act.put, List.setIfInBounds_toArray, List.set_cons_zero, List.set_cons_succ])
  refine wpAnyH_take (i := 4) (oi := ⟨some 31, _, _, _, _, _⟩) (v := ?_) rfl (by kernel_rfl) (by kernel_rfl) (by kernel_rfl) (fun _ _ _ h => h) (Or.inl ⟨by rfl, ?_⟩) (by assumption) ?_
  rotate_left
  · (intro w hSw; (try dsimp only at hSw); go_simp; (try with_reducible rfl))
  (try simp only [Act.put, List.setIfInBounds_toArray, List.set_cons_zero, List.set_cons_succ])
  refine wpAnyH_take (i := 5) (oi := ⟨some 32, _, _, _, _, _⟩) (v := ?_) rfl (by kernel_rfl) (by kernel_rfl) (by kernel_rfl) (fun _ _ _ h => h) (Or.inl ⟨by rfl, ?_⟩) (by assumption) ?_
  rotate_left
  · (intro w hSw; (try dsimp only at hSw); go_simp; (try with_reducible rfl))
  (try simp only [Act.put, List.setIfInBounds_toArray, List.set_cons_zero, List.set_cons_succ])
  refine wpAnyH_take (i := 6) (oi := ⟨some 33, _, _, _, _, _⟩) (v := ?_) rfl (by kernel_rfl) (by kernel_rfl) (by kernel_rfl) (fun _ _ _ h => h) (Or.inl ⟨by rfl, ?_⟩) (by assumption) ?_
  rotate_left
  · (intro w hSw; (try dsimp only at hSw); go_simp; (try with_reducible rfl))
  (try simp only [Act.put, List.setIfInBounds_toArray, List.set_cons_zero, List.set_cons_succ])
  refine wpAnyH_take (i := 7) (oi := ⟨some 34, _, _, _, _, _⟩) (v := ?_) rfl (by kernel_rfl) (by kernel_rfl) (by kernel_rfl) (fun _ _ _ h => h) (Or.inl ⟨by rfl, ?_⟩) (by assumption) ?_
  rotate_left
  · (intro w hSw; (try dsimp only at hSw); go_simp; (try with_reducible rfl))
  (try simp only [Act.put, List.setIfInBounds_toArray, List.set_cons_zero, List.set_cons_succ])
  refine wpAnyH_take (i := 8) (oi := ⟨some 35, _, _, _, _, _⟩) (v := ?_) rfl (by kernel_rfl) (by kernel_rfl) (by kernel_rfl) (fun _ _ _ h => h) (Or.inl ⟨by rfl, ?_⟩) (by assumption) ?_
  rotate_left
  · (intro w hSw; (try dsimp only at hSw); go_simp; (try with_reducible rfl))
  (try simp only [Act.put, List.setIfInBounds_toArray, List.set_cons_zero, List.set_cons_succ])
  refine wpAnyH_take (i := 9) (oi := ⟨some 36, _, _, _, _, _⟩) (v := ?_) rfl (by kernel_rfl) (by kernel_rfl) (by kernel_rfl) (fun _ _ _ h => h) (Or.inl ⟨by rfl, ?_⟩) (by assumption) ?_
  rotate_left
  · (intro w hSw; (try dsimp only at hSw); go_simp; (try with_reducible rfl))
  (try simp only [Act.put, List.setIfInBounds_toArray, List.set_cons_zero, List.set_cons_succ])
  refine wpAnyH_take (i := 11) (oi := ⟨some 38, _, _, _, _, _⟩) (v := ?_) rfl (by kernel_rfl) (by kernel_rfl) (by kernel_rfl) (fun _ _ _ h => h) (Or.inl ⟨by rfl, ?_⟩) (by assumption) ?_
  rotate_left
  · (intro w hSw; (try dsimp only at hSw); go_simp; (try with_reducible rfl))
  (try simp only [Act.put, List.setIfInBounds_toArray, List.set_cons_zero, List.set_cons_succ])
  refine wpAnyH_ready (rs := [10]) (by kernel_rfl) (by simp) ?_
  refine AllReadyH.cons rfl (fun K hK => ?_) AllReadyH.nil
  go_simp
  (first | (go_at_call 15; refine (Valid_any _ _ _).mono ?_; rintro e wx ⟨rfl, hbx⟩) | (go_at_call 16; refine (refValid_any _ _ _).mono ?_; rintro e wx ⟨rfl, hbx⟩))
  refine hK.out _ _ (by exact Mk3S hbx (by assumption)) (fun hHeld => ?_)
  clear hK K
  (try simp only [Act.put, List.setIfInBounds_toArray, List.set_cons_zero, List.set_cons_succ])
  refine wpAnyH_ready (rs := [12]) (by kernel_rfl) (by simp) ?_
  refine AllReadyH.cons rfl (fun K hK => ?_) AllReadyH.nil
  go_simp
  (first | (go_at_call 15; refine (Valid_any _ _ _).mono ?_; rintro e wx ⟨rfl, hbx⟩) | (go_at_call 16; refine (refValid_any _ _ _).mono ?_; rintro e wx ⟨rfl, hbx⟩))
  refine hK.out _ _ (by exact Mk3S hbx (by assumption)) (fun hHeld => ?_)
  clear hK K
  (try simp only [Act.put, List.setIfInBounds_toArray, List.set_cons_zero, List.set_cons_succ])
  refine wpAnyH_take (i := 13) (oi := ⟨some 40, _, _, _, _, _⟩) (v := ?_) rfl (by kernel_rfl) (by kernel_rfl) (by kernel_rfl) (fun _ _ _ h => h) (Or.inl ⟨by rfl, ?_⟩) (by assumption) ?_
  rotate_left
  · (intro w hSw; (try dsimp only at hSw); go_simp; (try with_reducible rfl))
  (try simp only [Act.put, List.setIfInBounds_toArray, List.set_cons_zero, List.set_cons_succ])
  refine wpAnyH_take (i := 14) (oi := ⟨some 41, _, _, _, _, _⟩) (v := ?_) rfl (by kernel_rfl) (by kernel_rfl) (by kernel_rfl) (fun _ _ _ h => h) (Or.inl ⟨by rfl, ?_⟩) (by assumption) ?_
  rotate_left
  · (intro w hSw; (try dsimp only at hSw); go_simp; (try with_reducible rfl))
  (try simp only [Act.put, List.setIfInBounds_toArray, List.set_cons_zero, List.set_cons_succ])
  refine wpAnyH_take (i := 15) (oi := ⟨some 42, _, _, _, _, _⟩) (v := ?_) rfl (by kernel_rfl) (by kernel_rfl) (by kernel_rfl) (fun _ _ _ h => h) (Or.inl ⟨by rfl, ?_⟩) (by assumption) ?_
  rotate_left
  · (intro w hSw; (try dsimp only at hSw); go_simp; (try with_reducible rfl))
  (try simp only [Act.put, List.setIfInBounds_toArray, List.set_cons_zero, List.set_cons_succ])
  refine wpAnyH_take (i := 16) (oi := ⟨some 43, _, _, _, _, _⟩) (v := ?_) rfl (by kernel_rfl) (by kernel_rfl) (by kernel_rfl) (fun _ _ _ h => h) (Or.inl ⟨by rfl, ?_⟩) (by assumption) ?_
  rotate_left
  · (intro w hSw; (try dsimp only at hSw); go_simp; (try with_reducible rfl))
  (try simp only [Act.put, List.setIfInBounds_toArray, List.set_cons_zero, List.set_cons_succ])
  refine wpAnyH_take (i := 17) (oi := ⟨some 44, _, _, _, _, _⟩) (v := ?_) rfl (by kernel_rfl) (by kernel_rfl) (by kernel_rfl) (fun _ _ _ h => h) (Or.inl ⟨by rfl, ?_⟩) (by assumption) ?_
  rotate_left
  · (intro w hSw; (try dsimp only at hSw); go_simp; (try with_reducible rfl))
  (try simp only [Act.put, List.setIfInBounds_toArray, List.set_cons_zero, List.set_cons_succ])
  refine wpAnyH_take (i := 18) (oi := ⟨some 45, _, _, _, _, _⟩) (v := ?_) rfl (by kernel_rfl) (by kernel_rfl) (by kernel_rfl) (fun _ _ _ h => h) (Or.inl ⟨by rfl, ?_⟩) (by assumption) ?_
  rotate_left
  · (intro w hSw; (try dsimp only at hSw); go_simp; (try with_reducible rfl))
  (try simp only [Act.put, List.setIfInBounds_toArray, List.set_cons_zero, List.set_cons_succ])
  refine wpAnyH_take (i := 19) (oi := ⟨some 46, _, _, _, _, _⟩) (v := undef) rfl (by kernel_rfl) (by kernel_rfl) (by kernel_rfl) (fun _ _ _ h => h) (Or.inr ⟨by kernel_rfl, rfl⟩) (by assumption) ?_
  (try simp only [Act.put, List.setIfInBounds_toArray, List.set_cons_zero, List.set_cons_succ])
  refine wpAnyH_take (i := 20) (oi := ⟨some 47, _, _, _, _, _⟩) (v := undef) rfl (by kernel_rfl) (by kernel_rfl) (by kernel_rfl) (fun _ _ _ h => h) (Or.inr ⟨by kernel_rfl, rfl⟩) (by assumption) ?_
  (try simp only [Act.put, List.setIfInBounds_toArray, List.set_cons_zero, List.set_cons_succ])
  refine wpAnyH_take (i := 21) (oi := ⟨some 48, _, _, _, _, _⟩) (v := ?_) rfl (by kernel_rfl) (by kernel_rfl) (by kernel_rfl) (fun _ _ _ h => h) (Or.inl ⟨by rfl, ?_⟩) (by assumption) ?_
  rotate_left
  · (intro w hSw; (try dsimp only at hSw); go_simp; (try with_reducible rfl))
  (try simp only [Act.put, List.setIfInBounds_toArray, List.set_cons_zero, List.set_cons_succ])
  refine wpAnyH_take (i := 22) (oi := ⟨some 49, _, _, _, _, _⟩) (v := ?_) rfl (by kernel_rfl) (by kernel_rfl) (by kernel_rfl) (fun _ _ _ h => h) (Or.inl ⟨by rfl, ?_⟩) (by assumption) ?_
  rotate_left
  · (intro w hSw; (try dsimp only at hSw); go_simp; (try with_reducible rfl))
  (try simp only [Act.put, List.setIfInBounds_toArray, List.set_cons_zero, List.set_cons_succ])
  refine wpAnyH_take (i := 23) (oi := ⟨some 4, _, _, _, _, _⟩) (v := ?_) rfl (by kernel_rfl) (by kernel_rfl) (by kernel_rfl) (fun _ _ _ h => h) (Or.inl ⟨by rfl, ?_⟩) (by assumption) ?_
  rotate_left
  · (intro w hSw; (try dsimp only at hSw); go_simp; (try with_reducible rfl))
  (try simp only [Act.put, List.setIfInBounds_toArray, List.set_cons_zero, List.set_cons_succ])
  refine wpAnyH_done (by kernel_rfl) ?_ _
  go_wp2
  go_ret
  exact ⟨rfl, Mk3B (by assumption)⟩
theorem ratioMakes_any (n d : Int) (h1 : -9223372036854775808 ≤ n) (h2 : n ≤ 9223372036854775807) (h3 : -9223372036854775808 ≤ d) (h4 : d ≤ 9223372036854775807) (w : World) (hp : Pw w) :
    Calls Tryd.prog 3 #[.int .i64 n, .int .i64 d] w fun e w' => e = .returned (.bool true) ∧ Below w.heap.size w w' := by
  obtain ⟨x, y, z, hr⟩ : ∃ x y z, mkR n d = (x, y, z) := ⟨_, _, _, rfl⟩
  by_cases hz : z = 0
  · subst hz
    exact ratioMakes_ok n d x y h1 h2 h3 h4 w hp hr
  · obtain ⟨rfl, rfl⟩ := mkR_bad hr hz
    exact ratioMakes_bad n d z hz h1 h2 h3 h4 w hp hr
end Go.Proofs.YtmebdieflllgcaaDoor
