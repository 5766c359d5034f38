/- Walks: awake of the statements on ratio. -/
import Derived.Test.YtmebdieflllgcaaDoorRatG
namespace Go.Proofs.YtmebdieflllgcaaDoor
open Go.RowKit
set_option maxRecDepth 100000

theorem aw_mk1 : mkR 6 (-4) = (-3, 2, 0) := by decide +kernel
theorem aw_mk2 : mkR 1 1073741825 = (0, 0, 5) := by decide +kernel
theorem aw_fl : flF (-3) 2 = (-2, 0) := by decide +kernel
theorem aw_ce : ceF (-3) 2 = (-1, 0) := by decide +kernel
theorem aw_add : addR 1 2 1 3 = (5, 6, 0) := by decide +kernel
theorem aw_log : clogF 9 = (4, 0) := by decide +kernel
theorem aw_vld : vldB (-3) 2 = true := by decide +kernel
theorem aw_tx : txF (-3) 2 = .tuple #[.string ⟨#[45, 51, 47, 50]⟩, .int .i64 0] := by
  have d3 : Lib.decDigits 3 = [51] := by rw [Lib.decDigits, dif_pos (by omega)]; rfl
  have d2 : Lib.decDigits 2 = [50] := by rw [Lib.decDigits, dif_pos (by omega)]; rfl
  have e1 : Lib.itoa (-3) = [45, 51] := by unfold Lib.itoa; rw [if_pos (by omega)]; show 45 :: Lib.decDigits 3 = _; rw [d3]
  have e2 : Lib.itoa 2 = [50] := by unfold Lib.itoa; rw [if_neg (by omega)]; exact d2
  unfold txF
  rw [aw_vld, if_pos rfl]
  unfold txtL
  rw [if_neg (by omega), e1, e2]
  rfl
theorem awMake1 (w : World) : Calls Tryd.prog 13 #[.int .i64 6, .int .i64 (-4)] w fun e w' => e = .returned (.tuple #[.agg #[.int .i64 (-3), .int .i64 2], .int .i64 0]) ∧ Below w.heap.size w w' :=
  Make_is 6 (-4) (-3) 2 0 (by omega) (by omega) (by omega) (by omega) w aw_mk1
theorem awMake2 (w : World) : Calls Tryd.prog 13 #[.int .i64 1, .int .i64 1073741825] w fun e w' => e = .returned (.tuple #[.agg #[.int .i64 0, .int .i64 0], .int .i64 5]) ∧ Below w.heap.size w w' :=
  Make_is 1 1073741825 0 0 5 (by omega) (by omega) (by omega) (by omega) w aw_mk2
theorem awFloor (w : World) : Calls Tryd.prog 26 #[.agg #[.int .i64 (-3), .int .i64 2]] w fun e w' => e = .returned (.tuple #[.int .i64 (-2), .int .i64 0]) ∧ Below w.heap.size w w' := by
  have := Floor_any (-3) 2 w
  rw [aw_fl] at this
  exact this
theorem awCeil (w : World) : Calls Tryd.prog 27 #[.agg #[.int .i64 (-3), .int .i64 2]] w fun e w' => e = .returned (.tuple #[.int .i64 (-1), .int .i64 0]) ∧ Below w.heap.size w w' := by
  have := Ceil_any (-3) 2 w
  rw [aw_ce] at this
  exact this
theorem awText (w : World) (hp : Pw w) : Calls Tryd.prog 33 #[.agg #[.int .i64 (-3), .int .i64 2]] w fun e w' => e = .returned (.tuple #[.string ⟨#[45, 51, 47, 50]⟩, .int .i64 0]) ∧ Below w.heap.size w w' := by
  have := Text_any (-3) 2 w hp
  rw [aw_tx] at this
  exact this
theorem awAdd (w : World) : Calls Tryd.prog 17 #[.agg #[.int .i64 1, .int .i64 2], .agg #[.int .i64 1, .int .i64 3]] w fun e w' => e = .returned (.tuple #[.agg #[.int .i64 5, .int .i64 6], .int .i64 0]) ∧ Below w.heap.size w w' := by
  have := Add_any 1 2 1 3 w
  rw [aw_add] at this
  exact this
theorem awLog (w : World) : Calls Tryd.prog 38 #[.int .i64 9] w fun e w' => e = .returned (.tuple #[.int .i64 4, .int .i64 0]) ∧ w = w' := by
  have := CeilLog_any 9 w
  rw [aw_log] at this
  exact this
theorem awRoot (w : World) : Calls Tryd.prog 40 #[.int .i64 15] w fun e w' => e = .returned (.tuple #[.int .i64 3, .int .i64 0]) ∧ w = w' := by
  refine (Root_ok 15 w (by omega)).mono ?_
  rintro e w' ⟨r, rfl, h1, h2, _, rfl⟩
  obtain rfl : r = 3 := rt_uniq h1 h2 (by omega) (by omega)
  exact ⟨rfl, rfl⟩


set_option maxHeartbeats 8000000 in
theorem awake04_any (w : World) (hp : Pw w) : Calls Tryd.prog 12 #[] w fun e w' => e = .returned (.bool true) ∧ Below w.heap.size w w' := by
  have HP := Lib.hid hp
  clear hp
  go_enter Tryd.func12, Tryd.ntmps12
  go_wp2_with fail
  refine (awMake1 _).mono ?_
  rintro e w1 ⟨rfl, hb1⟩
  have K1 := Lib.hid hb1
  have A1 := Lib.hid (bdNew w1 (.cells #[.int .i64 (-3), .int .i64 2] 24))
  have Z1 := Lib.hid ((K1.out).alloc K1.out.size (.cells #[.int .i64 (-3), .int .i64 2] 24))
  clear hb1
  go_wp2_with fail
  refine (awFloor _).mono ?_
  rintro e w2 ⟨rfl, hb2⟩
  have A2 := Lib.hid (bdAt A1.out hb2)
  have Z2 := Lib.hid (Z1.out.trans (hb2.mono Z1.out.size))
  have l2 := bdLt A2.out
  obtain ⟨⟨x0, x1⟩, _⟩ := bk2 A2.out
  clear hb2
  go_wp2_with fail
  clear x0 x1
  refine (awCeil _).mono ?_
  rintro e w3 ⟨rfl, hb3⟩
  have A3 := Lib.hid (bdAt A2.out hb3)
  have Z3 := Lib.hid (Z2.out.trans (hb3.mono Z2.out.size))
  have l3 := bdLt A3.out
  obtain ⟨⟨x0, x1⟩, _⟩ := bk2 A3.out
  clear hb3
  go_wp2_with fail
  clear x0 x1
  refine (awText _ (HP.out.on Z3.out)).mono ?_
  rintro e w4 ⟨rfl, hb4⟩
  have A4 := Lib.hid (bdAt A3.out hb4)
  have Z4 := Lib.hid (Z3.out.trans (hb4.mono Z3.out.size))
  clear hb4
  go_wp2_with fail
  refine (awAdd _).mono ?_
  rintro e w5 ⟨rfl, hb5⟩
  have A5 := Lib.hid (bdOld (p := .cells #[.int .i64 5, .int .i64 6] 24) (bdAt A4.out hb5))
  have Z5' := Lib.hid (Z4.out.trans (hb5.mono Z4.out.size))
  have Z5 := Lib.hid (Z5'.out.alloc Z5'.out.size (.cells #[.int .i64 5, .int .i64 6] 24))
  have B5 := Lib.hid (bdNew w5 (.cells #[.int .i64 5, .int .i64 6] 24))
  clear hb5
  go_wp2_with fail
  refine (awMake2 _).mono ?_
  rintro e w6 ⟨rfl, hb6⟩
  have A6 := Lib.hid (bdOld (p := .cells #[.int .i64 0, .int .i64 0] 24) (bdAt A5.out hb6))
  have B6 := Lib.hid (bdOld (p := .cells #[.int .i64 0, .int .i64 0] 24) (bdAt B5.out hb6))
  have Z6' := Lib.hid (Z5.out.trans (hb6.mono Z5.out.size))
  have Z6 := Lib.hid (Z6'.out.alloc Z6'.out.size (.cells #[.int .i64 0, .int .i64 0] 24))
  clear hb6
  go_wp2_with fail
  refine (awLog _).mono ?_
  rintro e w7 ⟨rfl, rfl⟩
  go_wp2_with fail
  refine (awRoot _).mono ?_
  rintro e w7 ⟨rfl, rfl⟩
  obtain ⟨⟨x0, x1⟩, _⟩ := bk2 A6.out
  obtain ⟨⟨y0, y1⟩, _⟩ := bk2 B6.out
  go_wp2_with fail
  go_ret
  exact ⟨rfl, Z6.out⟩
end Go.Proofs.YtmebdieflllgcaaDoor
