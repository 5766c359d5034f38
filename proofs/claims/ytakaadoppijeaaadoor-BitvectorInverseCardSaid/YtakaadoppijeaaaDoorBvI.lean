/- Walks: Select, Next, Prev. -/
import Derived.Test.YtakaadoppijeaaaDoorBvH
namespace Go.Proofs.YtakaadoppijeaaaDoor
open Go.RowKit
set_option maxRecDepth 100000
theorem BV.drewN {x wb bb : Nat} {l : List Bool} {w : World} (h : BV x wb bb l w) (q : Nat) : BV x wb bb l (w.drewN q) := ⟨h.box, h.words, h.before⟩
theorem BV.below {x wb bb : Nat} {l : List Bool} {w w' : World} (h : BV x wb bb l w) (hb : Below w.heap.size w w') : BV x wb bb l w' :=
  ⟨bdAt h.box hb, fun j hj => (hb.cell (p := ⟨wb, j, none⟩) (World.block_lt_of_cell? _ _ (h.words j hj))).trans (h.words j hj), fun j hj => (hb.cell (p := ⟨bb, j, none⟩) (World.block_lt_of_cell? _ _ (h.before j hj))).trans (h.before j hj)⟩
theorem TabAt.below {w w' : World} (h : TabAt w) (hb : Below w.heap.size w w') : TabAt w' := fun j hj => (hb.cell (p := ⟨_, j, none⟩) (World.block_lt_of_cell? _ _ (h j hj))).trans (h j hj)
theorem TabAt.drewN {w : World} (h : TabAt w) (q : Nat) : TabAt (w.drewN q) := h
theorem bdQ (w : World) (q : Nat) : Below w.heap.size w (w.drewN q) := bdN (Below.refl _ _) q
set_option maxHeartbeats 1000000 in
theorem bv_select_out (x wb bb : Nat) (k : Int) (b : Bool) (l : List Bool) (w : World) (_h : BV x wb bb l w) (hk : k < 0) :
    Calls Tryd.prog 21 #[.pointer (some ⟨x, 0, none⟩), .bool b, .int .i64 k] w fun e w' => e = .returned (.tuple #[.int .i64 0, .int .i64 2]) ∧ w = w' := by
  have hd : decide (k < 0) = true := decide_eq_true hk
  go_enter Tryd.func21, Tryd.ntmps21
  go_wp2_with fail
  go_ret2
  exact ⟨rfl, rfl⟩
set_option maxHeartbeats 1000000 in
theorem bv_select_none (x wb bb k : Nat) (b : Bool) (l : List Bool) (w : World) (h : BV x wb bb l w) (hl : l.length ≤ 2000000) (hk : rkB l b l.length ≤ k) :
    Calls Tryd.prog 21 #[.pointer (some ⟨x, 0, none⟩), .bool b, .int .i64 k] w fun e w' => e = .returned (.tuple #[.int .i64 0, .int .i64 12]) ∧ Below w.heap.size w w' := by
  obtain ⟨⟨c0, c1, c2⟩, _, _, _⟩ := bk3 h.box
  have HR := Lib.hid (rank_any x wb bb l.length b l w h hl (Nat.le_refl _))
  generalize rkB l b l.length = r at HR hk
  have hd : decide (r ≤ k) = true := decide_eq_true hk
  have hdI : decide ((r : Int) ≤ (k : Int)) = true := decide_eq_true (by omega)
  clear h hk
  go_enter Tryd.func21, Tryd.ntmps21
  go_wp2_with fail
  refine HR.out.mono ?_
  rintro e w1 ⟨rfl, q, rfl⟩
  go_wp2_with fail
  go_ret2
  exact ⟨rfl, bdQ _ _⟩
set_option maxHeartbeats 1000000 in
theorem bv_select_in (x wb bb k i : Nat) (b : Bool) (l : List Bool) (w : World) (h : BV x wb bb l w) (hT : TabAt w) (hl : l.length ≤ 2000000) (hi : IsSel l b k i) :
    Calls Tryd.prog 21 #[.pointer (some ⟨x, 0, none⟩), .bool b, .int .i64 k] w fun e w' => e = .returned (.tuple #[.int .i64 i, .int .i64 0]) ∧ Below w.heap.size w w' := by
  obtain ⟨⟨c0, c1, c2⟩, _, _, _⟩ := bk3 h.box
  have HR := Lib.hid (rank_any x wb bb l.length b l w h hl (Nat.le_refl _))
  have hk := hi.count
  generalize rkB l b l.length = r at HR hk
  have hd : decide (r ≤ k) = false := decide_eq_false (by omega)
  have hdI : decide ((r : Int) ≤ (k : Int)) = false := decide_eq_false (by omega)
  have HS := Lib.hid (fun q => selected_any x wb bb k i b l (w.drewN q) (h.drewN q) (hT.drewN q) hl hi)
  clear h hk hT hi
  go_enter Tryd.func21, Tryd.ntmps21
  go_wp2_with fail
  refine HR.out.mono ?_
  rintro e w1 ⟨rfl, q, rfl⟩
  go_wp2_with fail
  refine (HS.out q).mono ?_
  rintro e w2 ⟨rfl, hb⟩
  go_wp2_with fail
  go_ret2
  exact ⟨rfl, (bdQ _ _).trans hb⟩
set_option maxHeartbeats 1000000 in
theorem bv_next_out (x wb bb : Nat) (b : Bool) (i : Int) (l : List Bool) (w : World) (h : BV x wb bb l w) (hi : i < 0 ∨ l.length < i) :
    Calls Tryd.prog 24 #[.pointer (some ⟨x, 0, none⟩), .bool b, .int .i64 i] w fun e w' => e = .returned (.tuple #[.int .i64 0, .int .i64 2]) ∧ Below w.heap.size w w' := by
  have HC := Lib.hid (bv_checkEnd x wb bb i l w h)
  rw [if_pos hi] at HC
  clear h
  go_enter Tryd.func24, Tryd.ntmps24
  go_wp2_with fail
  refine HC.out.mono ?_
  rintro e w1 ⟨rfl, rfl⟩
  go_wp2_with fail
  go_ret2
  exact ⟨rfl, Below.refl _ _⟩
set_option maxHeartbeats 1000000 in
theorem bv_next_none (x wb bb i : Nat) (b : Bool) (l : List Bool) (w : World) (h : BV x wb bb l w) (hl : l.length ≤ 2000000) (hi : i ≤ l.length) (hk : rkB l b l.length ≤ rkB l b i) :
    Calls Tryd.prog 24 #[.pointer (some ⟨x, 0, none⟩), .bool b, .int .i64 i] w fun e w' => e = .returned (.tuple #[.int .i64 0, .int .i64 12]) ∧ Below w.heap.size w w' := by
  have HC := Lib.hid (bv_checkEnd x wb bb i l w h)
  rw [if_neg (by omega)] at HC
  have HR := Lib.hid (rank_any x wb bb i b l w h hl hi)
  have HS := Lib.hid (fun q => bv_select_none x wb bb _ b l (w.drewN q) (h.drewN q) hl hk)
  generalize rkB l b i = r at HR HS hk
  clear h hk
  go_enter Tryd.func24, Tryd.ntmps24
  go_wp2_with fail
  refine HC.out.mono ?_
  rintro e w1 ⟨rfl, rfl⟩
  go_wp2_with fail
  refine HR.out.mono ?_
  rintro e w1 ⟨rfl, q, rfl⟩
  go_wp2_with fail
  refine (HS.out q).mono ?_
  rintro e w2 ⟨rfl, hb⟩
  go_wp2_with fail
  go_ret2
  exact ⟨rfl, (bdQ _ _).trans hb⟩
set_option maxHeartbeats 1000000 in
theorem bv_next_in (x wb bb i j : Nat) (b : Bool) (l : List Bool) (w : World) (h : BV x wb bb l w) (hT : TabAt w) (hl : l.length ≤ 2000000) (hi : i ≤ l.length) (hj : IsSel l b (rkB l b i) j) :
    Calls Tryd.prog 24 #[.pointer (some ⟨x, 0, none⟩), .bool b, .int .i64 i] w fun e w' => e = .returned (.tuple #[.int .i64 j, .int .i64 0]) ∧ Below w.heap.size w w' := by
  have HC := Lib.hid (bv_checkEnd x wb bb i l w h)
  rw [if_neg (by omega)] at HC
  have HR := Lib.hid (rank_any x wb bb i b l w h hl hi)
  have HS := Lib.hid (fun q => bv_select_in x wb bb _ j b l (w.drewN q) (h.drewN q) (hT.drewN q) hl hj)
  clear hj
  generalize rkB l b i = r at HR HS
  clear h hT
  go_enter Tryd.func24, Tryd.ntmps24
  go_wp2_with fail
  refine HC.out.mono ?_
  rintro e w1 ⟨rfl, rfl⟩
  go_wp2_with fail
  refine HR.out.mono ?_
  rintro e w1 ⟨rfl, q, rfl⟩
  go_wp2_with fail
  refine (HS.out q).mono ?_
  rintro e w2 ⟨rfl, hb⟩
  go_wp2_with fail
  go_ret2
  exact ⟨rfl, (bdQ _ _).trans hb⟩
set_option maxHeartbeats 1000000 in
theorem bv_prev_out (x wb bb : Nat) (b : Bool) (i : Int) (l : List Bool) (w : World) (h : BV x wb bb l w) (hi : i < 0 ∨ l.length < i) :
    Calls Tryd.prog 25 #[.pointer (some ⟨x, 0, none⟩), .bool b, .int .i64 i] w fun e w' => e = .returned (.tuple #[.int .i64 0, .int .i64 2]) ∧ Below w.heap.size w w' := by
  have HC := Lib.hid (bv_checkEnd x wb bb i l w h)
  rw [if_pos hi] at HC
  clear h
  go_enter Tryd.func25, Tryd.ntmps25
  go_wp2_with fail
  refine HC.out.mono ?_
  rintro e w1 ⟨rfl, rfl⟩
  go_wp2_with fail
  go_ret2
  exact ⟨rfl, Below.refl _ _⟩
set_option maxHeartbeats 1000000 in
theorem bv_prev_none (x wb bb i : Nat) (b : Bool) (l : List Bool) (w : World) (h : BV x wb bb l w) (hl : l.length ≤ 2000000) (hi : i ≤ l.length) (hk : rkB l b i = 0) :
    Calls Tryd.prog 25 #[.pointer (some ⟨x, 0, none⟩), .bool b, .int .i64 i] w fun e w' => e = .returned (.tuple #[.int .i64 0, .int .i64 12]) ∧ Below w.heap.size w w' := by
  have HC := Lib.hid (bv_checkEnd x wb bb i l w h)
  rw [if_neg (by omega)] at HC
  have HR := Lib.hid (rank_any x wb bb i b l w h hl hi)
  rw [hk] at HR
  clear h hk
  go_enter Tryd.func25, Tryd.ntmps25
  go_wp2_with fail
  refine HC.out.mono ?_
  rintro e w1 ⟨rfl, rfl⟩
  go_wp2_with fail
  refine HR.out.mono ?_
  rintro e w1 ⟨rfl, q, rfl⟩
  go_wp2_with fail
  go_ret2
  exact ⟨rfl, bdQ _ _⟩
set_option maxHeartbeats 1000000 in
theorem bv_prev_in (x wb bb i j k : Nat) (b : Bool) (l : List Bool) (w : World) (h : BV x wb bb l w) (hT : TabAt w) (hl : l.length ≤ 2000000) (hi : i ≤ l.length) (hk : rkB l b i = k + 1) (hj : IsSel l b k j) :
    Calls Tryd.prog 25 #[.pointer (some ⟨x, 0, none⟩), .bool b, .int .i64 i] w fun e w' => e = .returned (.tuple #[.int .i64 j, .int .i64 0]) ∧ Below w.heap.size w w' := by
  have HC := Lib.hid (bv_checkEnd x wb bb i l w h)
  rw [if_neg (by omega)] at HC
  have HR := Lib.hid (rank_any x wb bb i b l w h hl hi)
  have hki : k + 1 ≤ 2000000 := by have := rkB_le l b i; omega
  obtain ⟨r, hr⟩ : ∃ r, r = rkB l b i := ⟨_, rfl⟩
  rw [← hr] at HR hk
  have hkI : (r : Int) - 1 = (k : Int) := by omega
  have hr0 : ((r : Int) == 0) = false := by simp; omega
  have hr1 : r ≤ 2000000 := by omega
  have hr2 : 1 ≤ r := by omega
  have HS := Lib.hid (fun q => selected_any x wb bb k j b l (w.drewN q) (h.drewN q) (hT.drewN q) hl hj)
  clear hj hk hr h hT
  go_enter Tryd.func25, Tryd.ntmps25
  go_wp2_with fail
  refine HC.out.mono ?_
  rintro e w1 ⟨rfl, rfl⟩
  go_wp2_with fail
  refine HR.out.mono ?_
  rintro e w1 ⟨rfl, q, rfl⟩
  go_wp2_with fail
  refine (HS.out q).mono ?_
  rintro e w2 ⟨rfl, hb⟩
  go_wp2_with fail
  go_ret2
  exact ⟨rfl, (bdQ _ _).trans hb⟩
end Go.Proofs.YtakaadoppijeaaaDoor
