/- Walks: Len, Ones, Get, checkEnd, Rank. -/
import Derived.Test.YtakaadoppijeaaaDoorBvC
namespace Go.Proofs.YtakaadoppijeaaaDoor
open Go.RowKit
set_option maxRecDepth 100000
theorem bv_len (x wb bb : Nat) (l : List Bool) (w : World) (h : BV x wb bb l w) :
    Calls Tryd.prog 11 #[.pointer (some ⟨x, 0, none⟩)] w fun e w' => e = .returned (.int .i64 l.length) ∧ w = w' := by
  obtain ⟨⟨c0, c1, c2⟩, _, _, _⟩ := bk3 h.box
  clear h
  go_enter Tryd.func11, Tryd.ntmps11
  go_wp2_with fail
  go_ret
  exact ⟨rfl, rfl⟩
theorem bv_ones (x wb bb : Nat) (l : List Bool) (w : World) (h : BV x wb bb l w) (hl : l.length ≤ 2000000) :
    Calls Tryd.prog 12 #[.pointer (some ⟨x, 0, none⟩)] w fun e w' => e = .returned (.int .i64 (rkB l true l.length)) ∧ ∃ q, w' = w.drewN q := by
  obtain ⟨⟨c0, c1, c2⟩, _, _, _⟩ := bk3 h.box
  have HR := Lib.hid (rank_any x wb bb l.length true l w h hl (Nat.le_refl _))
  clear h
  go_enter Tryd.func12, Tryd.ntmps12
  go_wp2_with fail
  refine HR.out.mono ?_
  rintro e w1 ⟨rfl, hw⟩
  go_wp2_with fail
  go_ret
  exact ⟨rfl, hw⟩
set_option maxHeartbeats 1000000 in
theorem bv_checkEnd (x wb bb : Nat) (i : Int) (l : List Bool) (w : World) (h : BV x wb bb l w) :
    Calls Tryd.prog 36 #[.pointer (some ⟨x, 0, none⟩), .int .i64 i] w fun e w' => e = .returned (.int .i64 (if i < 0 ∨ l.length < i then 2 else 0)) ∧ w = w' := by
  obtain ⟨⟨c0, c1, c2⟩, _, _, _⟩ := bk3 h.box
  clear h
  by_cases h0 : i < 0
  · have hd : decide (i < 0) = true := decide_eq_true h0
    go_enter Tryd.func36, Tryd.ntmps36
    go_wp2_with fail
    go_ret
    exact ⟨rfl, rfl⟩
  have hd : decide (i < 0) = false := decide_eq_false h0
  by_cases h1 : (l.length : Int) < i
  · have hd2 : decide ((l.length : Int) < i) = true := decide_eq_true h1
    go_enter Tryd.func36, Tryd.ntmps36
    go_wp2_with fail
    go_ret
    exact ⟨rfl, rfl⟩
  · have hd2 : decide ((l.length : Int) < i) = false := decide_eq_false h1
    go_enter Tryd.func36, Tryd.ntmps36
    go_wp2_with fail
    go_ret
    exact ⟨rfl, rfl⟩
set_option maxHeartbeats 1000000 in
theorem bv_rank_out (x wb bb : Nat) (b : Bool) (i : Int) (l : List Bool) (w : World) (h : BV x wb bb l w) (hi : i < 0 ∨ l.length < i) :
    Calls Tryd.prog 20 #[.pointer (some ⟨x, 0, none⟩), .bool b, .int .i64 i] w fun e w' => e = .returned (.tuple #[.int .i64 0, .int .i64 2]) ∧ w = w' := by
  have HC := Lib.hid (bv_checkEnd x wb bb i l w h)
  rw [if_pos hi] at HC
  clear h
  go_enter Tryd.func20, Tryd.ntmps20
  go_wp2_with fail
  refine HC.out.mono ?_
  rintro e w1 ⟨rfl, rfl⟩
  go_wp2_with fail
  go_ret2
  exact ⟨rfl, rfl⟩
set_option maxHeartbeats 1000000 in
theorem bv_rank_in (x wb bb i : Nat) (b : Bool) (l : List Bool) (w : World) (h : BV x wb bb l w) (hl : l.length ≤ 2000000) (hi : i ≤ l.length) :
    Calls Tryd.prog 20 #[.pointer (some ⟨x, 0, none⟩), .bool b, .int .i64 i] w fun e w' => e = .returned (.tuple #[.int .i64 (rkB l b i), .int .i64 0]) ∧ ∃ q, w' = w.drewN q := by
  have HC := Lib.hid (bv_checkEnd x wb bb i l w h)
  rw [if_neg (by omega)] at HC
  have HR := Lib.hid (rank_any x wb bb i b l w h hl hi)
  clear h
  go_enter Tryd.func20, Tryd.ntmps20
  go_wp2_with fail
  refine HC.out.mono ?_
  rintro e w1 ⟨rfl, rfl⟩
  go_wp2_with fail
  refine HR.out.mono ?_
  rintro e w1 ⟨rfl, hw⟩
  go_wp2_with fail
  go_ret2
  exact ⟨rfl, hw⟩
end Go.Proofs.YtakaadoppijeaaaDoor
