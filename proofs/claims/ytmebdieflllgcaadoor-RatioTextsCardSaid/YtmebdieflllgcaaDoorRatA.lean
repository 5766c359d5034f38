/- Walks: magnitude, greatestDivisor, Valid, Make of the program. -/
import Derived.Test.YtmebdieflllgcaaDoorBase
import Derived.Test.YtmebdieflllgcaaDoorRatP
namespace Go.Proofs.YtmebdieflllgcaaDoor
open Go.RowKit
set_option maxRecDepth 100000

theorem u64_neg {n : Int} (h1 : -9223372036854775808 ≤ n) (h : n < 0) : IntKind.u64.wrap (-IntKind.u64.wrap n) = (n.natAbs : Int) := by
  rw [IntKind.wrap_u64, IntKind.wrap_u64]; omega

set_option maxHeartbeats 1000000 in
theorem mag_any (n : Int) (h1 : -9223372036854775808 ≤ n) (h2 : n ≤ 9223372036854775807) (w : World) : Calls Tryd.prog 42 #[.int .i64 n] w fun e w' => e = .returned (.int .u64 (n.natAbs : Int)) ∧ w = w' := by
  by_cases h : n < 0
  · have HE := Lib.hid (u64_neg h1 h)
    go_enter Tryd.func42, Tryd.ntmps42
    go_wp2_with fail
    go_ret
    exact ⟨retI HE.out, rfl⟩
  · have HE := Lib.hid (show n = (n.natAbs : Int) by omega)
    go_enter Tryd.func42, Tryd.ntmps42
    go_wp2_with fail
    go_ret
    exact ⟨retI HE.out, rfl⟩

set_option maxHeartbeats 1000000 in
theorem gcd_any (a b : Nat) (ha : a ≤ 18446744073709551615) (hb : b ≤ 18446744073709551615) (w : World) : Calls Tryd.prog 43 #[.int .u64 (a : Int), .int .u64 (b : Int)] w fun e w' => e = .returned (.int .u64 (Nat.gcd a b : Int)) ∧ ∃ n, w' = w.drewN n := by
  go_enter Tryd.func43, Tryd.ntmps43
  go_wp2_with fail
  go_loopw [0, 1] (fun x y wr => ∃ p q n : Nat, x = .int .u64 (p : Int) ∧ y = .int .u64 (q : Int) ∧ p ≤ 18446744073709551615 ∧ q ≤ 18446744073709551615 ∧ Nat.gcd p q = Nat.gcd a b ∧ wr = w.drewN n) (fun _ y _ => (intOf y).toNat)
  case atStart => exact ⟨a, b, 0, rfl, rfl, ha, hb, rfl, rfl⟩
  case round =>
    obtain ⟨p, q, n, rfl, rfl, hp, hq, hg, rfl⟩ := hrel
    have HG := Lib.hid hg
    clear hg
    by_cases hz : q = 0
    · subst hz
      go_wp2_with fail
      go_ret
      exact ⟨retI (by rw [← HG.out, Nat.gcd_zero_right]), n, rfl⟩
    · have h1 : (1 : Int) ≤ (q : Int) := by omega
      have hb1 : ((q : Int) != 0) = true := by simp; omega
      have e1 : ((p : Int) % (q : Int)) = ((p % q : Nat) : Int) := by simp
      have HE := Lib.hid e1
      have hr0 : (0 : Int) ≤ (p : Int) % (q : Int) := Int.emod_nonneg _ (by omega)
      have hr1 : (p : Int) % (q : Int) < (q : Int) := Int.emod_lt_of_pos _ (by omega)
      clear e1
      go_wp2_with fail
      go_quiet (fail)
      go_wp2_with fail
      go_roundw
      case rel => exact ⟨q, p % q, n + nq, rfl, by rw [HE.out], hq, by have := Nat.mod_lt p (show q > 0 by omega); omega, by rw [← HG.out, Nat.gcd_comm p q, Nat.gcd_rec q p, Nat.gcd_comm], by first | rfl | rw [World.drewN_drewN]⟩
      case measure => simp [intOf]; omega

def boxF (n d : Int) : Obj := .cells #[.int .i64 n, .int .i64 d] 24
set_option maxHeartbeats 2000000 in
theorem valid_no (n d : Int) (w : World) (h : d < 1 ∨ 1073741824 < d ∨ n < -1073741824 ∨ 1073741824 < n) :
    Calls Tryd.prog 15 #[.agg #[.int .i64 n, .int .i64 d]] w fun e w' => e = .returned (.bool false) ∧ Below w.heap.size w w' := by
  by_cases g1 : d < 1
  · have f1 : decide ((1 : Int) ≤ d) = false := by simp; omega
    clear h
    go_enter Tryd.func15, Tryd.ntmps15
    go_wp2_with fail
    go_quiet (fail)
    go_wp2_with fail
    go_ret
    exact ⟨rfl, bdN ((Below.refl _ _).alloc (Nat.le_refl _) _) _⟩
  · have f1 : decide ((1 : Int) ≤ d) = true := by simp; omega
    by_cases g2 : 1073741824 < d
    · have f2 : decide (d ≤ (1073741824 : Int)) = false := by simp; omega
      clear h
      go_enter Tryd.func15, Tryd.ntmps15
      go_wp2_with fail
      go_quiet (fail)
      go_wp2_with fail
      go_ret
      exact ⟨rfl, bdN ((Below.refl _ _).alloc (Nat.le_refl _) _) _⟩
    · have f2 : decide (d ≤ (1073741824 : Int)) = true := by simp; omega
      by_cases g3 : n < -1073741824
      · have f3 : decide ((-1073741824 : Int) ≤ n) = false := by simp; omega
        clear h
        go_enter Tryd.func15, Tryd.ntmps15
        go_wp2_with fail
        go_quiet (fail)
        go_wp2_with fail
        go_ret
        exact ⟨rfl, bdN ((Below.refl _ _).alloc (Nat.le_refl _) _) _⟩
      · have f3 : decide ((-1073741824 : Int) ≤ n) = true := by simp; omega
        have f4 : decide (n ≤ (1073741824 : Int)) = false := by simp; omega
        clear h
        go_enter Tryd.func15, Tryd.ntmps15
        go_wp2_with fail
        go_quiet (fail)
        go_wp2_with fail
        go_ret
        exact ⟨rfl, bdN ((Below.refl _ _).alloc (Nat.le_refl _) _) _⟩

set_option maxHeartbeats 2000000 in
theorem valid_yes (n d : Int) (w : World) (h1 : 1 ≤ d) (h2 : d ≤ 1073741824) (h3 : -1073741824 ≤ n) (h4 : n ≤ 1073741824) :
    Calls Tryd.prog 15 #[.agg #[.int .i64 n, .int .i64 d]] w fun e w' => e = .returned (.bool ((Nat.gcd n.natAbs d.natAbs : Int) == 1)) ∧ Below w.heap.size w w' := by
  have f1 : decide ((1 : Int) ≤ d) = true := by simp; omega
  have f2 : decide (d ≤ (1073741824 : Int)) = true := by simp; omega
  have f3 : decide ((-1073741824 : Int) ≤ n) = true := by simp; omega
  have f4 : decide (n ≤ (1073741824 : Int)) = true := by simp; omega
  go_enter Tryd.func15, Tryd.ntmps15
  go_wp2_with fail
  go_quiet ((first | (go_at_call 42; exact Calls.quiet_of_same ((mag_any _ (by omega) (by omega) _).mono fun e w' h => ⟨h.1, h.2.symm⟩)) | (go_at_call 43; exact Calls.quiet_of (gcd_any _ _ (by omega) (by omega) _))))
  go_wp2_with fail
  go_ret
  exact ⟨rfl, bdN ((Below.refl _ _).alloc (Nat.le_refl _) _) _⟩

theorem Valid_any (n d : Int) (w : World) : Calls Tryd.prog 15 #[.agg #[.int .i64 n, .int .i64 d]] w fun e w' => e = .returned (.bool (vldB n d)) ∧ Below w.heap.size w w' := by
  by_cases h : d < 1 ∨ 1073741824 < d ∨ n < -1073741824 ∨ 1073741824 < n
  · rw [vldB_false.2 (fun ⟨a, b, c, e, _⟩ => by omega)]
    exact valid_no n d w h
  · refine (valid_yes n d w (by omega) (by omega) (by omega) (by omega)).mono ?_
    rintro e w' ⟨rfl, hb⟩
    refine ⟨retB ?_, hb⟩
    unfold vldB
    rw [Bool.eq_iff_iff, beq_iff_eq, decide_eq_true_iff]
    unfold vF
    constructor
    · intro h5
      exact ⟨by omega, by omega, by omega, by omega, by unfold Int.gcd; omega⟩
    · rintro ⟨_, _, _, _, h5⟩
      unfold Int.gcd at h5
      omega
end Go.Proofs.YtmebdieflllgcaaDoor
