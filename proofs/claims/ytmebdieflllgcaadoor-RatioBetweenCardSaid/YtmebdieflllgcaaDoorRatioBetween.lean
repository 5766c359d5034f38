/- RatioBetween: the law's walk. -/
import Derived.Test.YtmebdieflllgcaaDoorRatW
import Derived.Test.YtmebdieflllgcaaDoorHeld
namespace Go.Proofs.YtmebdieflllgcaaDoor
open Go.RowKit
set_option maxRecDepth 100000

set_option maxHeartbeats 4000000 in
theorem ratioBetween_out (n : Int) (w : World) (hp : Pw w) (h : n < 1 ∨ 1099511627776 < n) : Calls Tryd.prog 11 #[.int .i64 n] w fun r w' => r = .returned (.bool true) ∧ Below w.heap.size w w' := by
  have HP := Lib.hid hp
  have HH := Lib.hid h
  clear hp h
  go_enter Tryd.func11, Tryd.ntmps11
  go_wp2_with fail
  refine (awake04_any _ HP.out).mono ?_
  rintro r w0 ⟨rfl, hb⟩
  have B0 := Lib.hid hb
  clear hb
  go_wp2_with fail
  all_goals
    first
      | (exfalso; have := HH.out; omega)
      | (go_ret; exact ⟨rfl, B0.out⟩)
/-- What the logarithms and the root of m say: of a, b and r. -/
structure Btw (m a b r : Nat) : Prop where
  ha : a ≤ 40
  hb : b = a ∨ b = a + 1
  h1 : 2 ^ a ≤ m
  h2 : m < 2 * 2 ^ a
  h3 : m ≤ 2 ^ b
  h4 : a = b ↔ 2 ^ a = m
  r1 : r * r ≤ m
  r2 : m < (r + 1) * (r + 1)
  r3 : 1 ≤ r
  r4 : r ≤ 2097152
theorem two_half {m L : Nat} (hm : m = 2 ^ L) (h0 : ¬ L = 0) : 2 ^ (L - 1) ≤ m - 1 := by
  obtain ⟨k, rfl⟩ : ∃ k, L = k + 1 := ⟨L - 1, by omega⟩
  rw [Nat.pow_succ] at hm
  have := Nat.two_pow_pos k
  rw [Nat.add_sub_cancel]
  omega
theorem btw_of {m r : Nat} (h1 : 1 ≤ m) (h2 : m ≤ 1099511627776) (r1 : r * r ≤ m) (r2 : m < (r + 1) * (r + 1)) (r4 : r ≤ 2097152) : Btw m (Lib.bitLen m - 1) (Lib.bitLen (m - 1)) r := by
  obtain ⟨a, b, c⟩ := bl_pos (show m ≠ 0 by omega) h2
  have hle := bl_le h2
  obtain ⟨L, hL⟩ : ∃ L, Lib.bitLen m = L + 1 := ⟨Lib.bitLen m - 1, by omega⟩
  rw [hL] at b c hle ⊢
  rw [Nat.add_sub_cancel] at b ⊢
  rw [Nat.pow_succ] at c
  have hr3 : 1 ≤ r := by
    rcases Nat.lt_or_ge r 1 with h | h
    · have : r = 0 := by omega
      subst this
      omega
    · exact h
  by_cases hm : m = 2 ^ L
  · have hb : Lib.bitLen (m - 1) = L := by
      by_cases h0 : L = 0
      · subst h0
        have : m - 1 = 0 := by rw [hm]
        rw [this, bl_zero]
      · exact bl_uniq (by omega) (two_half hm h0) (by have := Nat.two_pow_pos L; omega) (by omega)
    rw [hb]
    exact ⟨by omega, .inl rfl, b, by omega, by omega, ⟨fun _ => hm.symm, fun _ => rfl⟩, r1, r2, hr3, r4⟩
  · have hb : Lib.bitLen (m - 1) = L + 1 := bl_uniq (by omega) (by rw [Nat.add_sub_cancel]; omega) (by rw [Nat.pow_succ]; omega) (by omega)
    rw [hb]
    exact ⟨by omega, .inr rfl, b, by omega, by rw [Nat.pow_succ]; omega, ⟨fun h => by omega, fun h => absurd h.symm hm⟩, r1, r2, hr3, r4⟩
theorem btw_sq {m q : Nat} (h1 : 1 ≤ m) (u1 : q * q ≤ m) (u2 : m < (q + 1) * (q + 1)) (u3 : q ≤ 2097152) : (1 : Int) ≤ (q : Int) ∧ (q : Int) ≤ 2097152 ∧ 0 ≤ (q : Int) * (q : Int) ∧ (q : Int) * (q : Int) ≤ 4398046511104 ∧ (q : Int) * (q : Int) ≤ (m : Int) ∧
    0 ≤ ((q : Int) + 1) * ((q : Int) + 1) ∧ ((q : Int) + 1) * ((q : Int) + 1) ≤ 4398050705409 ∧ (m : Int) < ((q : Int) + 1) * ((q : Int) + 1) := by
  have e1 : (q : Int) * (q : Int) = ((q * q : Nat) : Int) := by simp
  have e2 : ((q : Int) + 1) * ((q : Int) + 1) = (((q + 1) * (q + 1) : Nat) : Int) := by simp
  have m1 := Nat.mul_le_mul u3 u3
  have m2 := Nat.mul_le_mul (show q + 1 ≤ 2097153 by omega) (show q + 1 ≤ 2097153 by omega)
  have hq : 1 ≤ q := by
    rcases Nat.lt_or_ge q 1 with h | h
    · have : q = 0 := by omega
      subst this
      omega
    · exact h
  rw [e1, e2]
  omega
set_option maxHeartbeats 8000000 in
theorem ratioBetween_one (n a q QQ RR : Int) (w : World) (hp : Pw w) (h1 : 1 ≤ n) (h2 : n ≤ 1099511627776)
    (k1 : ∀ W, Calls Tryd.prog 36 #[.int .i64 n] W fun e w' => e = .returned (.tuple #[.int .i64 a, .int .i64 0]) ∧ W = w')
    (k2 : ∀ W, Calls Tryd.prog 38 #[.int .i64 n] W fun e w' => e = .returned (.tuple #[.int .i64 a, .int .i64 0]) ∧ W = w')
    (k3 : ∀ W, Calls Tryd.prog 40 #[.int .i64 n] W fun e w' => e = .returned (.tuple #[.int .i64 q, .int .i64 0]) ∧ W = w')
    (a0 : 0 ≤ a) (ha : a ≤ 40) (q1 : 1 ≤ q) (q2 : q ≤ 2097152) (hQ : q * q = QQ) (hR : (q + 1) * (q + 1) = RR) (r1 : QQ ≤ n) (r2 : n < RR) (r3 : 0 ≤ QQ) (r4 : RR ≤ 4398050705409)
    (hP : (2 : Int) ^ a.toNat = n) :
    Calls Tryd.prog 11 #[.int .i64 n] w fun r w' => r = .returned (.bool true) ∧ Below w.heap.size w w' := by
  have C1 := Lib.hid k1
  have C2 := Lib.hid k2
  have C3 := Lib.hid k3
  have HPP := Lib.hid hP
  have HQ := Lib.hid hQ
  have HR := Lib.hid hR
  have HP := Lib.hid hp
  clear k1 k2 k3 hp hP hQ hR
  go_enter Tryd.func11, Tryd.ntmps11
  go_wp2_with fail
  refine (awake04_any _ HP.out).mono ?_
  rintro r w0 ⟨rfl, hb⟩
  have B0 := Lib.hid hb
  clear hb
  go_wp2_with fail
  refine (C1.out _).mono ?_
  rintro r wx ⟨rfl, rfl⟩
  go_wp2_with fail
  refine (C2.out _).mono ?_
  rintro r wx ⟨rfl, rfl⟩
  go_wp2_with fail
  refine (C3.out _).mono ?_
  rintro r wx ⟨rfl, rfl⟩
  have hpp := HPP.out
  have hqq := HQ.out
  have hrr := HR.out
  go_wp2_with fail
  go_ret
  exact ⟨rfl, B0.out⟩
set_option maxHeartbeats 8000000 in
theorem ratioBetween_more (n a b q P S QQ RR : Int) (w : World) (hp : Pw w) (h1 : 1 ≤ n) (h2 : n ≤ 1099511627776)
    (k1 : ∀ W, Calls Tryd.prog 36 #[.int .i64 n] W fun e w' => e = .returned (.tuple #[.int .i64 a, .int .i64 0]) ∧ W = w')
    (k2 : ∀ W, Calls Tryd.prog 38 #[.int .i64 n] W fun e w' => e = .returned (.tuple #[.int .i64 b, .int .i64 0]) ∧ W = w')
    (k3 : ∀ W, Calls Tryd.prog 40 #[.int .i64 n] W fun e w' => e = .returned (.tuple #[.int .i64 q, .int .i64 0]) ∧ W = w')
    (a0 : 0 ≤ a) (ha : a ≤ 40) (q1 : 1 ≤ q) (q2 : q ≤ 2097152) (hQ : q * q = QQ) (hR : (q + 1) * (q + 1) = RR) (r1 : QQ ≤ n) (r2 : n < RR) (r3 : 0 ≤ QQ) (r4 : RR ≤ 4398050705409)
    (hb1 : a + 1 ≤ b) (hb2 : b ≤ a + 1) (hP : (2 : Int) ^ a.toNat = P) (hS : (2 : Int) ^ b.toNat = S) (p0 : 1 ≤ P) (p1 : P < n) (p2 : n < 2 * P) (p3 : n ≤ S) (p4 : S ≤ 2199023255552) :
    Calls Tryd.prog 11 #[.int .i64 n] w fun r w' => r = .returned (.bool true) ∧ Below w.heap.size w w' := by
  have f1 : (a == b) = false := by simp; omega
  have f2 : (P == n) = false := by simp; omega
  have HS := Lib.hid hS
  clear hS
  have C1 := Lib.hid k1
  have C2 := Lib.hid k2
  have C3 := Lib.hid k3
  have HPP := Lib.hid hP
  have HQ := Lib.hid hQ
  have HR := Lib.hid hR
  have HP := Lib.hid hp
  clear k1 k2 k3 hp hP hQ hR
  go_enter Tryd.func11, Tryd.ntmps11
  go_wp2_with fail
  refine (awake04_any _ HP.out).mono ?_
  rintro r w0 ⟨rfl, hb⟩
  have B0 := Lib.hid hb
  clear hb
  go_wp2_with fail
  refine (C1.out _).mono ?_
  rintro r wx ⟨rfl, rfl⟩
  go_wp2_with fail
  refine (C2.out _).mono ?_
  rintro r wx ⟨rfl, rfl⟩
  go_wp2_with fail
  refine (C3.out _).mono ?_
  rintro r wx ⟨rfl, rfl⟩
  have hpp := HPP.out
  have hqq := HQ.out
  have hrr := HR.out
  have hss := HS.out
  go_wp2_with fail
  go_ret
  exact ⟨rfl, B0.out⟩
theorem sqrt_ex : ∀ m : Nat, m ≤ 1099511627776 → ∃ r, r * r ≤ m ∧ m < (r + 1) * (r + 1) ∧ r ≤ 2097152 := by
  intro m
  induction m with
  | zero => intro _; exact ⟨0, by omega, by omega, by omega⟩
  | succ m ih =>
    intro h
    obtain ⟨r, h1, h2, h3⟩ := ih (by omega)
    by_cases hc : m + 1 < (r + 1) * (r + 1)
    · exact ⟨r, by omega, hc, h3⟩
    · have hlt : r + 1 ≤ 2097152 := by
        rcases Nat.lt_or_ge 2097152 (r + 1) with hh | hh
        · have := Nat.mul_le_mul hh hh
          omega
        · exact hh
      refine ⟨r + 1, by omega, ?_, hlt⟩
      have : (r + 1 + 1) * (r + 1 + 1) = (r + 1) * (r + 1) + 2 * (r + 1) + 1 := by
        rw [Nat.add_mul, Nat.mul_add]; omega
      omega
theorem ratioBetween_any (n : Int) (w : World) (hp : Pw w) : Calls Tryd.prog 11 #[.int .i64 n] w fun r w' => r = .returned (.bool true) ∧ Below w.heap.size w w' := by
  by_cases h : n < 1 ∨ 1099511627776 < n
  · exact ratioBetween_out n w hp h
  · obtain ⟨m, rfl⟩ : ∃ m : Nat, n = (m : Int) := ⟨n.toNat, by omega⟩
    have h1 : 1 ≤ m := by omega
    have h2 : m ≤ 1099511627776 := by omega
    have e1 : logF m = (((Lib.bitLen m - 1 : Nat) : Int), 0) := by
      have := (bl_pos (show m ≠ 0 by omega) h2).1
      unfold logF; rw [if_neg (by omega), Int.toNat_natCast]; congr 1; omega
    have e2 : clogF m = ((Lib.bitLen (m - 1) : Int), 0) := by unfold clogF; rw [if_neg (by omega), Int.toNat_natCast]
    have k1 := fun W => FloorLog_any m W
    have k2 := fun W => CeilLog_any m W
    rw [e1] at k1
    rw [e2] at k2
    obtain ⟨r, hr1, hr2, hr3⟩ : ∃ r, r * r ≤ m ∧ m < (r + 1) * (r + 1) ∧ r ≤ 2097152 := sqrt_ex m h2
    have k3 : ∀ W, Calls Tryd.prog 40 #[.int .i64 (m : Int)] W fun e w' => e = .returned (.tuple #[.int .i64 (r : Int), .int .i64 0]) ∧ W = w' := fun W => (Root_ok m W h2).mono fun e w' ⟨r', he, u1, u2, _, hw⟩ => by
      obtain rfl := rt_uniq u1 u2 hr1 hr2
      exact ⟨he, hw⟩
    have B := btw_of h1 h2 hr1 hr2 hr3
    obtain ⟨q1, q2, q3, q4, q5, q6, q7, q8⟩ := btw_sq h1 hr1 hr2 hr3
    clear e1 e2
    generalize Lib.bitLen m - 1 = a at k1 B
    generalize Lib.bitLen (m - 1) = b at k2 B
    rcases B.hb with hb | hb
    · subst hb
      have hP : (2 : Int) ^ (b : Int).toNat = (m : Int) := by
        have := B.h4.1 rfl
        rw [← this]; simp
      exact ratioBetween_one m b r _ _ w hp (by omega) (by omega) k1 k2 k3 (by omega) (by have := B.ha; omega) q1 q2 rfl rfl q5 q8 q3 q7 hP
    · have hne : 2 ^ a ≠ m := fun h => by have := B.h4.2 h; omega
      have c1 := B.h1
      have c2 := B.h2
      have c3 := B.h3
      have hS : (2 : Int) ^ (b : Int).toNat = ((2 ^ b : Nat) : Int) := by simp
      have hA : (2 : Int) ^ (a : Int).toNat = ((2 ^ a : Nat) : Int) := by simp
      have h24 : 2 ^ b = 2 * 2 ^ a := by rw [hb, Nat.pow_succ]; omega
      have hpos := Nat.two_pow_pos a
      have ha := B.ha
      generalize 2 ^ a = P at *
      generalize 2 ^ b = S at *
      exact ratioBetween_more m a b r (P : Int) (S : Int) _ _ w hp (by omega) (by omega) k1 k2 k3 (by omega) (by omega) q1 q2 rfl rfl q5 q8 q3 q7 (by omega) (by omega) hA hS (by omega) (by omega) (by omega) (by omega) (by omega)
end Go.Proofs.YtmebdieflllgcaaDoor
