/- Logarithms and roots: of the program and of the reference. -/
import Derived.Lib.ItoaNum
import Derived.Shelf.Strconv.Itoa0
import Derived.Test.YtmebdieflllgcaaDoorShNum
namespace Go.Proofs.YtmebdieflllgcaaDoor
open Go.RowKit
set_option maxRecDepth 100000

/-! ### plain -/
theorem bl_uniq {x k : Nat} (hk : 1 ≤ k) (h1 : 2 ^ (k - 1) ≤ x) (h2 : x < 2 ^ k) (h3 : x < 18446744073709551616) : Lib.bitLen x = k := by
  have h0 : x ≠ 0 := by have := Nat.two_pow_pos (k - 1); omega
  obtain ⟨a, b, c⟩ := Lib.bitLenAux_bounds 64 x (by simpa using h3) h0
  unfold Lib.bitLen
  generalize Lib.bitLenAux 64 x = L at a b c
  have e1 : k - 1 < L := (Nat.pow_lt_pow_iff_right (a := 2) (by omega)).1 (by omega)
  have e2 : L - 1 < k := (Nat.pow_lt_pow_iff_right (a := 2) (by omega)).1 (by omega)
  omega
theorem bl_zero : Lib.bitLen 0 = 0 := by decide +kernel
theorem bl_one : Lib.bitLen 1 = 1 := by decide +kernel
theorem bl_max : Lib.bitLen 1099511627776 = 41 := by decide +kernel
theorem bl_le {x : Nat} (h : x ≤ 1099511627776) : Lib.bitLen x ≤ 41 := Lib.bitLen_le x 41 (by omega) (by omega)
theorem bl_pos {x : Nat} (h0 : x ≠ 0) (h : x ≤ 1099511627776) : 1 ≤ Lib.bitLen x ∧ 2 ^ (Lib.bitLen x - 1) ≤ x ∧ x < 2 ^ Lib.bitLen x := Lib.bitLenAux_bounds 64 x (by omega) h0
theorem vI {a b : Int} (h : a = b) : Value.int .i64 a = Value.int .i64 b := by rw [h]
theorem rt_uniq {n r s : Nat} (h1 : r * r ≤ n) (h2 : n < (r + 1) * (r + 1)) (h3 : s * s ≤ n) (h4 : n < (s + 1) * (s + 1)) : r = s := by
  rcases Nat.lt_trichotomy r s with h | h | h
  · have := Nat.mul_le_mul (show r + 1 ≤ s by omega) (show r + 1 ≤ s by omega); omega
  · exact h
  · have := Nat.mul_le_mul (show s + 1 ≤ r by omega) (show s + 1 ≤ r by omega); omega

/-! ### the binary logarithm -/
set_option maxHeartbeats 1000000 in
theorem len64_any (x : Int) (w : World) (h0 : 0 ≤ x) (h1 : x ≤ 1099511627776) : Calls Tryd.prog 51 #[.int .u64 x] w fun e w' => e = .returned (.int .i64 (Lib.bitLen x.toNat)) ∧ w = w' :=
  (Any.bits_Len64 Tryd.lays129 x w h0 (by omega)).mono fun _ _ h => ⟨h.1, h.2.symm⟩
theorem len64_max (w : World) : Calls Tryd.prog 51 #[.int .u64 1099511627776] w fun e w' => e = .returned (.int .i64 41) ∧ w = w' := by
  refine (len64_any 1099511627776 w (by omega) (by omega)).mono ?_
  rintro e w' ⟨rfl, rfl⟩
  refine ⟨retI ?_, rfl⟩
  have := bl_max
  simp [this]
def logF (n : Int) : Int × Int := if n < 1 ∨ 1099511627776 < n then (0, 2) else ((Lib.bitLen n.toNat : Int) - 1, 0)
def clogF (n : Int) : Int × Int := if n < 1 ∨ 1099511627776 < n then (0, 2) else ((Lib.bitLen (n.toNat - 1) : Int), 0)
set_option maxHeartbeats 1000000 in
theorem FloorLog_any (n : Int) (w : World) : Calls Tryd.prog 36 #[.int .i64 n] w fun e w' => e = .returned (.tuple #[.int .i64 (logF n).1, .int .i64 (logF n).2]) ∧ w = w' := by
  by_cases h : n < 1 ∨ 1099511627776 < n
  · have hs : logF n = (0, 2) := by unfold logF; rw [if_pos h]
    rw [hs]
    have HH := Lib.hid h
    clear h hs
    go_enter Tryd.func36, Tryd.ntmps36
    go_wp2_with fail
    all_goals
      first
        | (go_ret2; exact ⟨rfl, rfl⟩)
        | (exfalso; have := HH.out; omega)
  · have hs : logF n = ((Lib.bitLen n.toNat : Int) - 1, 0) := by unfold logF; rw [if_neg h]
    rw [hs]
    have h1 : 1 ≤ n := by omega
    have h2 : n ≤ 1099511627776 := by omega
    have hb := (bl_pos (x := n.toNat) (by omega) (by omega)).1
    have hb2 := bl_le (x := n.toNat) (by omega)
    clear h hs
    go_enter Tryd.func36, Tryd.ntmps36
    go_wp2_with fail
    refine (len64_any n _ (by omega) h2).mono ?_
    rintro e w' ⟨rfl, rfl⟩
    go_wp2_with fail
    go_ret2
    exact ⟨rfl, rfl⟩
set_option maxHeartbeats 1000000 in
theorem CeilLog_any (n : Int) (w : World) : Calls Tryd.prog 38 #[.int .i64 n] w fun e w' => e = .returned (.tuple #[.int .i64 (clogF n).1, .int .i64 (clogF n).2]) ∧ w = w' := by
  by_cases h : n < 1 ∨ 1099511627776 < n
  · have hs : clogF n = (0, 2) := by unfold clogF; rw [if_pos h]
    rw [hs]
    have HH := Lib.hid h
    clear h hs
    go_enter Tryd.func38, Tryd.ntmps38
    go_wp2_with fail
    all_goals
      first
        | (go_ret2; exact ⟨rfl, rfl⟩)
        | (exfalso; have := HH.out; omega)
  · have hs : clogF n = ((Lib.bitLen (n.toNat - 1) : Int), 0) := by unfold clogF; rw [if_neg h]
    rw [hs]
    have h1 : 1 ≤ n := by omega
    have h2 : n ≤ 1099511627776 := by omega
    clear h hs
    go_enter Tryd.func38, Tryd.ntmps38
    go_wp2_with fail
    refine (len64_any (n - 1) _ (by omega) (by omega)).mono ?_
    rintro e w' ⟨rfl, rfl⟩
    go_wp2_with fail
    go_ret2
    exact ⟨rfl, rfl⟩
set_option maxHeartbeats 1000000 in
theorem refLog_any (n : Nat) (w : World) (h1 : 1 ≤ n) (h2 : n ≤ 1099511627776) : Calls Tryd.prog 52 #[.int .i64 (n : Int)] w fun e w' => e = .returned (.int .i64 ((Lib.bitLen n : Int) - 1)) ∧ w = w' := by
  have hb2 := bl_le h2
  go_enter Tryd.func52, Tryd.ntmps52
  go_wp2_with fail
  go_loop [0, 3] (fun m i => ∃ p k : Nat, m = .int .i64 (p : Int) ∧ i = .int .i64 (k : Int) ∧ 1 ≤ p ∧ p ≤ 1099511627776 ∧ Lib.bitLen n = k + Lib.bitLen p) (fun m _ => (intOf m).toNat)
  case atStart => exact ⟨n, 0, rfl, rfl, h1, h2, by omega⟩
  case round =>
    obtain ⟨p, k, rfl, rfl, hp, hp2, hk⟩ := hrel
    have HK := Lib.hid hk
    have hk2 : k ≤ 41 := by omega
    clear hk
    by_cases hz : p = 1
    · subst hz
      go_wp2_with fail
      go_ret
      exact ⟨retI (by rw [HK.out, bl_one]; omega), rfl⟩
    · have h5 : 1 < p := by omega
      have hh := Lib.hid (Lib.bitLen_half p (by omega) (by omega))
      go_wp2_with fail
      go_round
      case rel => exact ⟨p / 2, k + 1, vI (by omega), vI (by omega), by omega, by omega, by rw [HK.out, hh.out]; omega⟩
      case measure => simp [intOf]; omega
set_option maxHeartbeats 1000000 in
theorem refFloorLog_any (n : Int) (w : World) : Calls Tryd.prog 37 #[.int .i64 n] w fun e w' => e = .returned (.tuple #[.int .i64 (logF n).1, .int .i64 (logF n).2]) ∧ w = w' := by
  by_cases h : n < 1 ∨ 1099511627776 < n
  · have hs : logF n = (0, 2) := by unfold logF; rw [if_pos h]
    rw [hs]
    have HH := Lib.hid h
    clear h hs
    go_enter Tryd.func37, Tryd.ntmps37
    go_wp2_with fail
    all_goals
      first
        | (go_ret2; exact ⟨rfl, rfl⟩)
        | (exfalso; have := HH.out; omega)
  · have hs : logF n = ((Lib.bitLen n.toNat : Int) - 1, 0) := by unfold logF; rw [if_neg h]
    rw [hs]
    obtain ⟨m, rfl⟩ : ∃ m : Nat, n = (m : Int) := ⟨n.toNat, by omega⟩
    rw [Int.toNat_natCast]
    have h1 : 1 ≤ m := by omega
    have h2 : m ≤ 1099511627776 := by omega
    clear h hs
    go_enter Tryd.func37, Tryd.ntmps37
    go_wp2_with fail
    refine (refLog_any m _ h1 h2).mono ?_
    rintro e w' ⟨rfl, rfl⟩
    go_wp2_with fail
    go_ret2
    exact ⟨rfl, rfl⟩
theorem clog_end {m k p : Nat} (h1 : 1 ≤ m) (h2 : m ≤ 1099511627776) (hp : p = 2 ^ k) (hge : m ≤ p) (hlt : k = 0 ∨ 2 ^ (k - 1) < m) : Lib.bitLen (m - 1) = k := by
  rcases hlt with h | h
  · subst h
    have : m - 1 = 0 := by rw [hp] at hge; omega
    rw [this, bl_zero]
  · by_cases hk : k = 0
    · subst hk
      have : m - 1 = 0 := by rw [hp] at hge; omega
      rw [this, bl_zero]
    · exact bl_uniq (by omega) (by omega) (by omega) (by omega)
set_option maxHeartbeats 1000000 in
theorem refCeilLog_any (n : Int) (w : World) : Calls Tryd.prog 39 #[.int .i64 n] w fun e w' => e = .returned (.tuple #[.int .i64 (clogF n).1, .int .i64 (clogF n).2]) ∧ w = w' := by
  by_cases h : n < 1 ∨ 1099511627776 < n
  · have hs : clogF n = (0, 2) := by unfold clogF; rw [if_pos h]
    rw [hs]
    have HH := Lib.hid h
    clear h hs
    go_enter Tryd.func39, Tryd.ntmps39
    go_wp2_with fail
    all_goals
      first
        | (go_ret2; exact ⟨rfl, rfl⟩)
        | (exfalso; have := HH.out; omega)
  · have hs : clogF n = ((Lib.bitLen (n.toNat - 1) : Int), 0) := by unfold clogF; rw [if_neg h]
    rw [hs]
    obtain ⟨m, rfl⟩ : ∃ m : Nat, n = (m : Int) := ⟨n.toNat, by omega⟩
    have h1 : 1 ≤ m := by omega
    have h2 : m ≤ 1099511627776 := by omega
    have h1I : (1 : Int) ≤ (m : Int) := by omega
    have h2I : (m : Int) ≤ 1099511627776 := by omega
    rw [Int.toNat_natCast]
    clear h hs
    go_enter Tryd.func39, Tryd.ntmps39
    go_wp2_with fail
    go_loop [4, 5] (fun i x => ∃ p k : Nat, i = .int .i64 (k : Int) ∧ x = .int .i64 (p : Int) ∧ p = 2 ^ k ∧ k ≤ 41 ∧ (k = 0 ∨ 2 ^ (k - 1) < m)) (fun _ x => 2199023255552 - (intOf x).toNat)
    case atStart => exact ⟨1, 0, rfl, rfl, rfl, by omega, .inl rfl⟩
    case round =>
      obtain ⟨p, k, rfl, rfl, hp, hk, hl⟩ := hrel
      have HP := Lib.hid hp
      have HL := Lib.hid hl
      have hp1 : 1 ≤ p := by have := Nat.two_pow_pos k; omega
      have hp2 : p ≤ 2199023255552 := by rw [hp]; exact Nat.pow_le_pow_right (by omega) hk
      clear hp hl
      by_cases hz : p < m
      · have hk3 : k ≤ 40 := by
          rcases Nat.lt_or_ge k 41 with h | h
          · omega
          · have : k = 41 := by omega
            have hpo := HP.out
            rw [this] at hpo
            omega
        go_wp2_with fail
        go_round
        case rel => exact ⟨2 * p, k + 1, vI (by omega), vI (by omega), by rw [HP.out, Nat.pow_succ]; omega, by omega, .inr (by rw [Nat.add_sub_cancel, ← HP.out]; exact hz)⟩
        case measure => simp [intOf]; omega
      · go_wp2_with fail
        go_ret2
        exact ⟨by rw [clog_end h1 h2 HP.out (by omega) HL.out]; rfl, rfl⟩

/-! ### roots -/
/-- What a root says: r. -/
def RtPost (n : Nat) (w : World) (e : Ending) (w' : World) : Prop := ∃ r : Nat, e = .returned (.tuple #[.int .i64 (r : Int), .int .i64 0]) ∧ r * r ≤ n ∧ n < (r + 1) * (r + 1) ∧ r ≤ 2097152 ∧ w = w'
/-- Where the loop stands: the root so far, the bit. -/
def RtInv (n r b s : Nat) : Prop := ((b = 0 ∧ s = 1) ∨ ∃ j, j ≤ 20 ∧ b = 2 ^ j ∧ s = 2 * b) ∧ r * r ≤ n ∧ n < (r + s) * (r + s) ∧ r + s ≤ 2097152
theorem RtInv.start {n : Nat} (h : n ≤ 1099511627776) : RtInv n 0 1048576 2097152 := ⟨.inr ⟨20, by omega, by decide, by decide⟩, by omega, by omega, by omega⟩
theorem RtInv.half {n r b s : Nat} (h : RtInv n r b s) (hb : 0 < b) : ((b / 2 = 0 ∧ b = 1) ∨ ∃ j, j ≤ 20 ∧ b / 2 = 2 ^ j ∧ b = 2 * (b / 2)) ∧ s = 2 * b := by
  rcases h.1 with ⟨h1, _⟩ | ⟨j, hj, h1, h2⟩
  · omega
  · refine ⟨?_, h2⟩
    cases j with
    | zero => exact .inl ⟨by simp [h1], h1⟩
    | succ j => exact .inr ⟨j, by omega, by rw [h1, Nat.pow_succ, Nat.mul_div_cancel _ (by omega)], by rw [h1, Nat.pow_succ]; omega⟩
theorem RtInv.take {n r b s : Nat} (h : RtInv n r b s) (hb : 0 < b) (ht : (r + b) * (r + b) ≤ n) : RtInv n (r + b) (b / 2) b := by
  obtain ⟨h1, rfl⟩ := h.half hb
  exact ⟨h1, ht, by rw [show r + b + b = r + 2 * b by omega]; exact h.2.2.1, by have := h.2.2.2; omega⟩
theorem RtInv.leave {n r b s : Nat} (h : RtInv n r b s) (hb : 0 < b) (ht : ¬ (r + b) * (r + b) ≤ n) : RtInv n r (b / 2) b := by
  obtain ⟨h1, rfl⟩ := h.half hb
  exact ⟨h1, h.2.1, by omega, by have := h.2.2.2; omega⟩
theorem RtInv.fin {n r s : Nat} (h : RtInv n r 0 s) : r * r ≤ n ∧ n < (r + 1) * (r + 1) ∧ r ≤ 2097152 := by
  rcases h.1 with ⟨_, rfl⟩ | ⟨j, _, h1, _⟩
  · exact ⟨h.2.1, h.2.2.1, by have := h.2.2.2; omega⟩
  · have := Nat.two_pow_pos j; omega
theorem rt_sq {r b : Nat} (h : r + b ≤ 2097152) : (0 : Int) ≤ ((r : Int) + (b : Int)) * ((r : Int) + (b : Int)) ∧ ((r : Int) + (b : Int)) * ((r : Int) + (b : Int)) ≤ 4398046511104 ∧ ((r : Int) + (b : Int)) * ((r : Int) + (b : Int)) = (((r + b) * (r + b) : Nat) : Int) := by
  have e : ((r : Int) + (b : Int)) * ((r : Int) + (b : Int)) = (((r + b) * (r + b) : Nat) : Int) := by simp
  have := Nat.mul_le_mul h h
  rw [e]
  omega

set_option maxHeartbeats 2000000 in
theorem Root_bad (n : Int) (w : World) (h : n < 0 ∨ 1099511627776 < n) : Calls Tryd.prog 40 #[.int .i64 n] w fun e w' => e = .returned (.tuple #[.int .i64 0, .int .i64 2]) ∧ w = w' := by
  have HH := Lib.hid h
  clear h
  go_enter Tryd.func40, Tryd.ntmps40
  go_wp2_with fail
  all_goals
    first
      | (go_ret2; exact ⟨rfl, rfl⟩)
      | (exfalso; have := HH.out; omega)
set_option maxHeartbeats 2000000 in
theorem Root_ok (m : Nat) (w : World) (h2 : m ≤ 1099511627776) : Calls Tryd.prog 40 #[.int .i64 (m : Int)] w (RtPost m w) := by
  have h2I : (m : Int) ≤ 1099511627776 := by omega
  go_enter Tryd.func40, Tryd.ntmps40
  go_wp2_with fail
  refine (len64_max _).mono ?_
  rintro e w' ⟨rfl, rfl⟩
  go_wp2_with fail
  go_loop [4, 5] (fun x y => ∃ r b s : Nat, x = .int .i64 (r : Int) ∧ y = .int .i64 (b : Int) ∧ RtInv m r b s) (fun _ y => (intOf y).toNat)
  case atStart => exact ⟨0, 1048576, 2097152, rfl, rfl, RtInv.start h2⟩
  case round =>
    obtain ⟨r, b, s, rfl, rfl, hi⟩ := hrel
    have HI := Lib.hid hi
    by_cases hz : b = 0
    · subst hz
      clear hi
      go_wp2_with fail
      go_ret2
      exact ⟨r, rfl, HI.out.fin.1, HI.out.fin.2.1, HI.out.fin.2.2, rfl⟩
    · have hb : 0 < b := by omega
      have hbI : (0 : Int) < (b : Int) := by omega
      have hrb : r + b ≤ 2097152 := by
        have h1 := (hi.half hb).2
        have h2 := hi.2.2.2
        omega
      obtain ⟨q1, q2, q3⟩ := rt_sq hrb
      have Q3 := Lib.hid q3
      have hr1 : (0 : Int) ≤ (r : Int) + (b : Int) := by omega
      have hr2 : (r : Int) + (b : Int) ≤ 2097152 := by omega
      clear hi q3
      by_cases ht : (r + b) * (r + b) ≤ m
      · have htI : ((r : Int) + (b : Int)) * ((r : Int) + (b : Int)) ≤ (m : Int) := by rw [Q3.out]; omega
        have HT := Lib.hid ht
        clear ht
        go_wp2_with fail
        go_round
        case rel => exact ⟨r + b, b / 2, b, vI (by omega), vI (by omega), HI.out.take hb HT.out⟩
        case measure => simp [intOf]; omega
      · have htI : ¬ ((r : Int) + (b : Int)) * ((r : Int) + (b : Int)) ≤ (m : Int) := by rw [Q3.out]; omega
        have HT := Lib.hid ht
        clear ht
        go_wp2_with fail
        go_round
        case rel => exact ⟨r, b / 2, b, rfl, vI (by omega), HI.out.leave hb HT.out⟩
        case measure => simp [intOf]; omega

set_option maxHeartbeats 2000000 in
theorem refRoot_bad (n : Int) (w : World) (h : n < 0 ∨ 1099511627776 < n) : Calls Tryd.prog 41 #[.int .i64 n] w fun e w' => e = .returned (.tuple #[.int .i64 0, .int .i64 2]) ∧ w = w' := by
  have HH := Lib.hid h
  clear h
  go_enter Tryd.func41, Tryd.ntmps41
  go_wp2_with fail
  all_goals
    first
      | (go_ret2; exact ⟨rfl, rfl⟩)
      | (exfalso; have := HH.out; omega)
set_option maxHeartbeats 2000000 in
theorem refRoot_ok (m : Nat) (w : World) (h2 : m ≤ 1099511627776) : Calls Tryd.prog 41 #[.int .i64 (m : Int)] w (RtPost m w) := by
  have h2I : (m : Int) ≤ 1099511627776 := by omega
  go_enter Tryd.func41, Tryd.ntmps41
  go_wp2_with fail
  go_loop [4, 5] (fun x y => ∃ r b s : Nat, x = .int .i64 (r : Int) ∧ y = .int .i64 (b : Int) ∧ RtInv m r b s) (fun _ y => (intOf y).toNat)
  case atStart => exact ⟨0, 1048576, 2097152, rfl, rfl, RtInv.start h2⟩
  case round =>
    obtain ⟨r, b, s, rfl, rfl, hi⟩ := hrel
    have HI := Lib.hid hi
    by_cases hz : b = 0
    · subst hz
      clear hi
      go_wp2_with fail
      go_ret2
      exact ⟨r, rfl, HI.out.fin.1, HI.out.fin.2.1, HI.out.fin.2.2, rfl⟩
    · have hb : 0 < b := by omega
      have hbI : (0 : Int) < (b : Int) := by omega
      have hrb : r + b ≤ 2097152 := by
        have h1 := (hi.half hb).2
        have h2 := hi.2.2.2
        omega
      obtain ⟨q1, q2, q3⟩ := rt_sq hrb
      have Q3 := Lib.hid q3
      have hr1 : (0 : Int) ≤ (r : Int) + (b : Int) := by omega
      have hr2 : (r : Int) + (b : Int) ≤ 2097152 := by omega
      clear hi q3
      by_cases ht : (r + b) * (r + b) ≤ m
      · have htI : ((r : Int) + (b : Int)) * ((r : Int) + (b : Int)) ≤ (m : Int) := by rw [Q3.out]; omega
        have HT := Lib.hid ht
        clear ht
        go_wp2_with fail
        go_round
        case rel => exact ⟨r + b, b / 2, b, vI (by omega), vI (by omega), HI.out.take hb HT.out⟩
        case measure => simp [intOf]; omega
      · have htI : ¬ ((r : Int) + (b : Int)) * ((r : Int) + (b : Int)) ≤ (m : Int) := by rw [Q3.out]; omega
        have HT := Lib.hid ht
        clear ht
        go_wp2_with fail
        go_round
        case rel => exact ⟨r, b / 2, b, rfl, vI (by omega), HI.out.leave hb HT.out⟩
        case measure => simp [intOf]; omega
end Go.Proofs.YtmebdieflllgcaaDoor
