/- RatioLogs: the law's walk. -/
import Derived.Test.YtmebdieflllgcaaDoorRatW
import Derived.Test.YtmebdieflllgcaaDoorHeld
namespace Go.Proofs.YtmebdieflllgcaaDoor
open Go.RowKit
set_option maxRecDepth 100000

set_option maxHeartbeats 8000000 in
theorem ratioLogs_ok (m : Nat) (w : World) (hp : Pw w) (h2 : m ≤ 1099511627776) : Calls Tryd.prog 10 #[.int .i64 (m : Int)] w fun r w' => r = .returned (.bool true) ∧ Below w.heap.size w w' := by
  obtain ⟨a, e, ha⟩ : ∃ a e, logF m = (a, e) := ⟨_, _, rfl⟩
  obtain ⟨b, g, hg⟩ : ∃ b g, clogF m = (b, g) := ⟨_, _, rfl⟩
  have h1 := fun W => FloorLog_any m W
  have h3 := fun W => refFloorLog_any m W
  have h4 := fun W => CeilLog_any m W
  have h5 := fun W => refCeilLog_any m W
  rw [ha] at h1 h3
  rw [hg] at h4 h5
  have C1 := Lib.hid h1
  have C2 := Lib.hid h3
  have C3 := Lib.hid h4
  have C4 := Lib.hid h5
  have HP := Lib.hid hp
  clear h1 h3 h4 h5 ha hg hp
  go_enter Tryd.func10, Tryd.ntmps10
  go_wp2_with fail
  refine (awake04_any _ HP.out).mono ?_
  rintro r w0 ⟨rfl, hb⟩
  have B0 := Lib.hid hb
  clear hb
  go_wp2_with fail
  refine (C1.out _).mono ?_
  rintro r wx ⟨rfl, rfl⟩
  go_wp2_with fail
  refine (C2.out _).mono ?_
  rintro r wx ⟨rfl, rfl⟩
  go_wp2_with fail
  refine (C3.out _).mono ?_
  rintro r wx ⟨rfl, rfl⟩
  go_wp2_with fail
  refine (C4.out _).mono ?_
  rintro r wx ⟨rfl, rfl⟩
  go_wp2_with fail
  refine (Root_ok m _ h2).mono ?_
  rintro r wx ⟨q1, rfl, u1, u2, _, rfl⟩
  go_wp2_with fail
  refine (refRoot_ok m _ h2).mono ?_
  rintro r wx ⟨q2, rfl, v1, v2, _, rfl⟩
  obtain rfl := rt_uniq u1 u2 v1 v2
  clear u1 u2 v1 v2
  go_wp2_with fail
  go_ret
  exact ⟨rfl, B0.out⟩

set_option maxHeartbeats 8000000 in
theorem ratioLogs_bad (n : Int) (w : World) (hp : Pw w) (h : n < 0 ∨ 1099511627776 < n) : Calls Tryd.prog 10 #[.int .i64 n] w fun r w' => r = .returned (.bool true) ∧ Below w.heap.size w w' := by
  obtain ⟨a, e, ha⟩ : ∃ a e, logF n = (a, e) := ⟨_, _, rfl⟩
  obtain ⟨b, g, hg⟩ : ∃ b g, clogF n = (b, g) := ⟨_, _, rfl⟩
  have h1 := fun W => FloorLog_any n W
  have h3 := fun W => refFloorLog_any n W
  have h4 := fun W => CeilLog_any n W
  have h5 := fun W => refCeilLog_any n W
  rw [ha] at h1 h3
  rw [hg] at h4 h5
  have C1 := Lib.hid h1
  have C2 := Lib.hid h3
  have C3 := Lib.hid h4
  have C4 := Lib.hid h5
  have HP := Lib.hid hp
  clear h1 h3 h4 h5 ha hg hp
  go_enter Tryd.func10, Tryd.ntmps10
  go_wp2_with fail
  refine (awake04_any _ HP.out).mono ?_
  rintro r w0 ⟨rfl, hb⟩
  have B0 := Lib.hid hb
  clear hb
  go_wp2_with fail
  refine (C1.out _).mono ?_
  rintro r wx ⟨rfl, rfl⟩
  go_wp2_with fail
  refine (C2.out _).mono ?_
  rintro r wx ⟨rfl, rfl⟩
  go_wp2_with fail
  refine (C3.out _).mono ?_
  rintro r wx ⟨rfl, rfl⟩
  go_wp2_with fail
  refine (C4.out _).mono ?_
  rintro r wx ⟨rfl, rfl⟩
  have HH := Lib.hid h
  clear h
  go_wp2_with fail
  refine (Root_bad n _ HH.out).mono ?_
  rintro r wx ⟨rfl, rfl⟩
  go_wp2_with fail
  refine (refRoot_bad n _ HH.out).mono ?_
  rintro r wx ⟨rfl, rfl⟩
  go_wp2_with fail
  go_ret
  exact ⟨rfl, B0.out⟩
theorem ratioLogs_any (n : Int) (w : World) (hp : Pw w) : Calls Tryd.prog 10 #[.int .i64 n] w fun r w' => r = .returned (.bool true) ∧ Below w.heap.size w w' := by
  by_cases h : n < 0 ∨ 1099511627776 < n
  · exact ratioLogs_bad n w hp h
  · obtain ⟨m, rfl⟩ : ∃ m : Nat, n = (m : Int) := ⟨n.toNat, by omega⟩
    exact ratioLogs_ok m w hp (by omega)
end Go.Proofs.YtmebdieflllgcaaDoor
