/- Walks: Make of the program. -/
import Derived.Test.YtmebdieflllgcaaDoorRatA
namespace Go.Proofs.YtmebdieflllgcaaDoor
open Go.RowKit
set_option maxRecDepth 100000

/-- What a function gives that returns a fraction and an error. -/
def frR (r : Int × Int × Int) : Value := .tuple #[.agg #[.int .i64 r.1, .int .i64 r.2.1], .int .i64 r.2.2]
theorem make_facts {n d : Int} (hd : d ≠ 0) : (1 : Int) ≤ (Nat.gcd n.natAbs d.natAbs : Int) ∧ ((n.natAbs / Int.gcd n d : Nat) : Int) = (n.natAbs : Int) / (Nat.gcd n.natAbs d.natAbs : Int) ∧ ((d.natAbs / Int.gcd n d : Nat) : Int) = (d.natAbs : Int) / (Nat.gcd n.natAbs d.natAbs : Int) := by
  have : 0 < Nat.gcd n.natAbs d.natAbs := Nat.gcd_pos_of_pos_right _ (by omega)
  exact ⟨by omega, by simp [Int.gcd], by simp [Int.gcd]⟩

set_option maxHeartbeats 4000000 in
theorem Make_zero (n d : Int) (hd : d = 0) (w : World) :
    Calls Tryd.prog 13 #[.int .i64 n, .int .i64 d] w fun e w' => e = .returned (frR (mkR n d)) ∧ Below w.heap.size w w' := by
  subst hd
  rw [mkR_zero]
  unfold frR
  go_enter Tryd.func13, Tryd.ntmps13
  go_wp2_with fail
  exact bodyPost_ret (v := .tuple #[.agg #[.int .i64 0, .int .i64 0], .int .i64 18]) (by simp [results, Tryd.results13, go_sem]) rfl ⟨rfl, (Below.refl _ _).alloc (Nat.le_refl _) _⟩
/-- The way to the end: the numbers in lowest terms under names. -/
theorem make_names {n d : Int} (hd : d ≠ 0) : ∃ a b : Nat, a ≤ n.natAbs ∧ b ≤ d.natAbs ∧
    (1 : Int) ≤ (Nat.gcd n.natAbs d.natAbs : Int) ∧ (n.natAbs : Int) / (Nat.gcd n.natAbs d.natAbs : Int) = (a : Int) ∧ (d.natAbs : Int) / (Nat.gcd n.natAbs d.natAbs : Int) = (b : Int) ∧
    mkR n d = if a ≤ 1073741824 ∧ b ≤ 1073741824 then (if (n < 0) ↔ (d < 0) then (a : Int) else -(a : Int), (b : Int), 0) else (0, 0, 5) := by
  have hg : 0 < Nat.gcd n.natAbs d.natAbs := Nat.gcd_pos_of_pos_right _ (by omega)
  exact ⟨n.natAbs / Int.gcd n d, d.natAbs / Int.gcd n d, Nat.div_le_self _ _, Nat.div_le_self _ _, by omega, by simp [Int.gcd], by simp [Int.gcd], mkR_cases hd⟩
set_option maxHeartbeats 4000000 in
theorem Make_ne (n d : Int) (hd : d ≠ 0) (h1 : -9223372036854775808 ≤ n) (h2 : n ≤ 9223372036854775807) (h3 : -9223372036854775808 ≤ d) (h4 : d ≤ 9223372036854775807) (w : World) :
    Calls Tryd.prog 13 #[.int .i64 n, .int .i64 d] w fun e w' => e = .returned (frR (mkR n d)) ∧ Below w.heap.size w w' := by
  have f0 : (d == 0) = false := by simpa using hd
  obtain ⟨a, b, ha, hb, g1, e1, e2, HC⟩ := make_names (n := n) hd
  have hA : n.natAbs ≤ 9223372036854775808 := by omega
  have hB : d.natAbs ≤ 9223372036854775808 := by omega
  have wa : IntKind.u64.wrap (a : Int) = (a : Int) := IntWalk.u64_in _ (by omega)
  have wb : IntKind.u64.wrap (b : Int) = (b : Int) := IntWalk.u64_in _ (by omega)
  rw [HC]
  have E1 := Lib.hid e1
  have E2 := Lib.hid e2
  have WA := Lib.hid wa
  have WB := Lib.hid wb
  clear e1 e2 HC wa wb
  by_cases hbig : a ≤ 1073741824 ∧ b ≤ 1073741824
  · rw [if_pos hbig]
    obtain ⟨b1, b2⟩ := hbig
    by_cases s1 : n < 0 <;> by_cases s2 : d < 0
    all_goals
      first
        | rw [if_pos (show (n < 0) ↔ (d < 0) from ⟨fun _ => s2, fun _ => s1⟩)]
        | rw [if_pos (show (n < 0) ↔ (d < 0) from ⟨fun h => absurd h s1, fun h => absurd h s2⟩)]
        | rw [if_neg (show ¬ ((n < 0) ↔ (d < 0)) from fun h => s2 (h.1 s1))]
        | rw [if_neg (show ¬ ((n < 0) ↔ (d < 0)) from fun h => s1 (h.2 s2))]
      unfold frR
      go_enter Tryd.func13, Tryd.ntmps13
      go_wp2_with fail
      refine (mag_any n h1 h2 _).mono ?_
      rintro e w1 ⟨rfl, rfl⟩
      go_wp2_with fail
      refine (mag_any d h3 h4 _).mono ?_
      rintro e w1 ⟨rfl, rfl⟩
      go_wp2_with fail
      refine (gcd_any n.natAbs d.natAbs (by omega) (by omega) _).mono ?_
      rintro e w1 ⟨rfl, q, rfl⟩
      have e1 := E1.out
      have e2 := E2.out
      have wa := WA.out
      have wb := WB.out
      go_wp2_with fail
      go_quiet (fail)
      clear e1 e2 wa wb
      go_wp2_with fail
    all_goals
      first
        | (exfalso; simp at *; omega)
        | (refine bodyPost_ret (v := .tuple #[.agg #[.int .i64 (a : Int), .int .i64 (b : Int)], .int .i64 0]) ?_ rfl ⟨rfl, ((bdN ((Below.refl _ _).alloc (Nat.le_refl _) _) _).setCell (Nat.le_refl _) _).setCell (Nat.le_refl _) _⟩; (simp [results, Tryd.results13, go_sem]; done))
        | (refine bodyPost_ret (v := .tuple #[.agg #[.int .i64 (-(a : Int)), .int .i64 (b : Int)], .int .i64 0]) ?_ rfl ⟨rfl, ((bdN ((Below.refl _ _).alloc (Nat.le_refl _) _) _).setCell (Nat.le_refl _) _).setCell (Nat.le_refl _) _⟩; (simp [results, Tryd.results13, go_sem]; done))
  · rw [if_neg hbig]
    have HBG := Lib.hid hbig
    clear hbig
    by_cases b1 : a ≤ 1073741824
    · have b2 : 1073741824 < b := by
        have := HBG.out
        omega
      unfold frR
      go_enter Tryd.func13, Tryd.ntmps13
      go_wp2_with fail
      refine (mag_any n h1 h2 _).mono ?_
      rintro e w1 ⟨rfl, rfl⟩
      go_wp2_with fail
      refine (mag_any d h3 h4 _).mono ?_
      rintro e w1 ⟨rfl, rfl⟩
      go_wp2_with fail
      refine (gcd_any n.natAbs d.natAbs (by omega) (by omega) _).mono ?_
      rintro e w1 ⟨rfl, q, rfl⟩
      have e1 := E1.out
      have e2 := E2.out
      have wa := WA.out
      have wb := WB.out
      go_wp2_with fail
      go_quiet (fail)
      clear e1 e2 wa wb
      go_wp2_with fail
      exact bodyPost_ret (v := .tuple #[.agg #[.int .i64 0, .int .i64 0], .int .i64 5]) (by simp [results, Tryd.results13, go_sem]) rfl ⟨rfl, ((bdN ((Below.refl _ _).alloc (Nat.le_refl _) _) _).setCell (Nat.le_refl _) _).setCell (Nat.le_refl _) _⟩
    · unfold frR
      go_enter Tryd.func13, Tryd.ntmps13
      go_wp2_with fail
      refine (mag_any n h1 h2 _).mono ?_
      rintro e w1 ⟨rfl, rfl⟩
      go_wp2_with fail
      refine (mag_any d h3 h4 _).mono ?_
      rintro e w1 ⟨rfl, rfl⟩
      go_wp2_with fail
      refine (gcd_any n.natAbs d.natAbs (by omega) (by omega) _).mono ?_
      rintro e w1 ⟨rfl, q, rfl⟩
      have e1 := E1.out
      have e2 := E2.out
      have wa := WA.out
      have wb := WB.out
      go_wp2_with fail
      go_quiet (fail)
      clear e1 e2 wa wb
      go_wp2_with fail
      exact bodyPost_ret (v := .tuple #[.agg #[.int .i64 0, .int .i64 0], .int .i64 5]) (by simp [results, Tryd.results13, go_sem]) rfl ⟨rfl, ((bdN ((Below.refl _ _).alloc (Nat.le_refl _) _) _).setCell (Nat.le_refl _) _).setCell (Nat.le_refl _) _⟩
theorem Make_any (n d : Int) (h1 : -9223372036854775808 ≤ n) (h2 : n ≤ 9223372036854775807) (h3 : -9223372036854775808 ≤ d) (h4 : d ≤ 9223372036854775807) (w : World) :
    Calls Tryd.prog 13 #[.int .i64 n, .int .i64 d] w fun e w' => e = .returned (frR (mkR n d)) ∧ Below w.heap.size w w' := by
  by_cases hd : d = 0
  · exact Make_zero n d hd w
  · exact Make_ne n d hd h1 h2 h3 h4 w
end Go.Proofs.YtmebdieflllgcaaDoor
