/- The reference's digits: plain, and its walk. -/
import Derived.Test.YtmebdieflllgcaaDoorRatTa
namespace Go.Proofs.YtmebdieflllgcaaDoor
open Go.RowKit
set_option maxRecDepth 100000

/-- At most f digits are read: the number, and how many. -/
def dg : Nat → Nat → List UInt8 → Nat × Nat
  | 0, acc, _ => (acc, 0)
  | _ + 1, acc, [] => (acc, 0)
  | f + 1, acc, c :: r => if 48 ≤ c.toNat ∧ c.toNat ≤ 57 then ((dg f (acc * 10 + (c.toNat - 48)) r).1, (dg f (acc * 10 + (c.toNat - 48)) r).2 + 1) else (acc, 0)
theorem dg_zero (acc : Nat) (l : List UInt8) : dg 0 acc l = (acc, 0) := by cases l <;> rfl
theorem dg_nil (f acc : Nat) : dg f acc [] = (acc, 0) := by cases f <;> rfl
theorem dg_hit {f acc : Nat} {c : UInt8} {r : List UInt8} (h : 48 ≤ c.toNat ∧ c.toNat ≤ 57) : dg (f + 1) acc (c :: r) = ((dg f (acc * 10 + (c.toNat - 48)) r).1, (dg f (acc * 10 + (c.toNat - 48)) r).2 + 1) := by rw [dg, if_pos h]
theorem dg_miss {f acc : Nat} {c : UInt8} {r : List UInt8} (h : ¬ (48 ≤ c.toNat ∧ c.toNat ≤ 57)) : dg f acc (c :: r) = (acc, 0) := by
  cases f with
  | zero => rfl
  | succ f => rw [dg, if_neg h]
theorem dg_len : ∀ (f acc : Nat) (l : List UInt8), (dg f acc l).2 ≤ f ∧ (dg f acc l).2 ≤ l.length
  | 0, acc, l => by rw [dg_zero]; simp
  | f + 1, acc, [] => by rw [dg_nil]; simp
  | f + 1, acc, c :: r => by
    by_cases h : 48 ≤ c.toNat ∧ c.toNat ≤ 57
    · rw [dg_hit h]
      have := dg_len f (acc * 10 + (c.toNat - 48)) r
      simp only [List.length_cons]
      omega
    · rw [dg_miss h]; simp
theorem dg_val : ∀ (f acc : Nat) (l : List UInt8), (dg f acc l).1 < (acc + 1) * 10 ^ f
  | 0, acc, l => by rw [dg_zero]; simp
  | f + 1, acc, [] => by
    rw [dg_nil]
    have h1 : 1 ≤ 10 ^ (f + 1) := Nat.pow_pos (by omega)
    have h2 := Nat.mul_le_mul_left (acc + 1) h1
    show acc < _
    omega
  | f + 1, acc, c :: r => by
    by_cases h : 48 ≤ c.toNat ∧ c.toNat ≤ 57
    · rw [dg_hit h]
      have h1 := dg_val f (acc * 10 + (c.toNat - 48)) r
      have h2 : (acc * 10 + (c.toNat - 48) + 1) * 10 ^ f ≤ ((acc + 1) * 10) * 10 ^ f := Nat.mul_le_mul_right _ (by omega)
      rw [Nat.pow_succ, Nat.mul_comm (10 ^ f) 10, ← Nat.mul_assoc]
      show (dg f (acc * 10 + (c.toNat - 48)) r).1 < _
      omega
    · rw [dg_miss h]
      have h1 : 1 ≤ 10 ^ (f + 1) := Nat.pow_pos (by omega)
      have h2 := Nat.mul_le_mul_left (acc + 1) h1
      show acc < _
      omega
theorem drop_at {s : ByteArray} {k : Nat} (h : k < s.size) : s.data.toList.drop k = s[k] :: s.data.toList.drop (k + 1) := by
  rw [List.drop_eq_getElem_cons (by simpa using h)]
  rfl
theorem drop_end {s : ByteArray} {k : Nat} (h : ¬ k < s.size) : s.data.toList.drop k = [] := List.drop_eq_nil_of_le (by simpa using Nat.le_of_not_lt h)
/-- Where the loop stands. -/
def DgInv (s : ByteArray) (i k acc : Nat) : Prop := i ≤ k ∧ k ≤ i + 11 ∧ k ≤ s.size ∧ acc < 10 ^ (k - i) ∧ dg 11 0 (s.data.toList.drop i) = ((dg (i + 11 - k) acc (s.data.toList.drop k)).1, (dg (i + 11 - k) acc (s.data.toList.drop k)).2 + (k - i))
theorem DgInv.start {s : ByteArray} {i : Nat} (h : i ≤ s.size) : DgInv s i i 0 := ⟨Nat.le_refl _, by omega, h, by simp, by rw [Nat.add_sub_cancel_left, Nat.sub_self]; rfl⟩
theorem DgInv.next {s : ByteArray} {i k acc : Nat} (h : DgInv s i k acc) (hk : k < s.size) (h11 : k < i + 11) (hc : 48 ≤ s[k].toNat ∧ s[k].toNat ≤ 57) : DgInv s i (k + 1) (acc * 10 + (s[k].toNat - 48)) := by
  obtain ⟨a, b, c, d, e⟩ := h
  refine ⟨by omega, by omega, by omega, ?_, ?_⟩
  · rw [show k + 1 - i = (k - i) + 1 by omega, Nat.pow_succ]; omega
  · rw [e, drop_at hk, show i + 11 - k = (i + 11 - (k + 1)) + 1 by omega, dg_hit hc]
    congr 1
    omega
theorem DgInv.stop {s : ByteArray} {i k acc : Nat} (h : DgInv s i k acc) (hst : ¬ k < s.size ∨ ¬ k < i + 11 ∨ ∃ hk : k < s.size, ¬ (48 ≤ s[k].toNat ∧ s[k].toNat ≤ 57)) : dg 11 0 (s.data.toList.drop i) = (acc, k - i) := by
  obtain ⟨a, b, c, d, e⟩ := h
  rw [e]
  rcases hst with h | h | ⟨hk, h⟩
  · rw [drop_end h, dg_nil]; simp
  · rw [show i + 11 - k = 0 by omega, dg_zero]; simp
  · rw [drop_at hk, dg_miss h]; simp
theorem DgInv.small {s : ByteArray} {i k acc : Nat} (h : DgInv s i k acc) : acc < 100000000000 := by
  obtain ⟨a, b, c, d, e⟩ := h
  have : 10 ^ (k - i) ≤ 10 ^ 11 := Nat.pow_le_pow_right (by omega) (by omega)
  omega

set_option maxHeartbeats 4000000 in
theorem digits_any (s : ByteArray) (i : Nat) (w : World) (hi : i ≤ s.size) (hs : s.size ≤ 200) : Calls Tryd.prog 48 #[.string s, .int .i64 (i : Int)] w fun e w' => e = .returned (.tuple #[.int .i64 ((dg 11 0 (s.data.toList.drop i)).1 : Int), .int .i64 ((i + (dg 11 0 (s.data.toList.drop i)).2 : Nat) : Int)]) ∧ w = w' := by
  have HI := Lib.hid (DgInv.start hi)
  go_enter Tryd.func48, Tryd.ntmps48
  go_wp2_with fail
  go_loop [6, 7] (fun x y => ∃ k acc : Nat, x = .int .i64 (acc : Int) ∧ y = .int .i64 (k : Int) ∧ DgInv s i k acc) (fun _ y => 400 - (intOf y).toNat)
  case atStart => exact ⟨i, 0, rfl, rfl, HI.out⟩
  case round =>
    obtain ⟨k, acc, rfl, rfl, hd⟩ := hrel
    have HD := Lib.hid hd
    have hacc := hd.small
    have hk1 := hd.1
    have hk2 := hd.2.1
    have hk3 := hd.2.2.1
    clear hd
    have fin : ∀ (hst : ¬ k < s.size ∨ ¬ k < i + 11 ∨ ∃ hk : k < s.size, ¬ (48 ≤ s[k].toNat ∧ s[k].toNat ≤ 57)), Ending.returned (.tuple #[.int .i64 (acc : Int), .int .i64 (k : Int)]) = .returned (.tuple #[.int .i64 ((dg 11 0 (s.data.toList.drop i)).1 : Int), .int .i64 ((i + (dg 11 0 (s.data.toList.drop i)).2 : Nat) : Int)]) := fun hst => by
      rw [HD.out.stop hst]
      dsimp only
      rw [show i + (k - i) = k by omega]
    have FIN := Lib.hid fin
    clear fin
    by_cases hlt : k < s.size
    · by_cases h11 : k < i + 11
      · have h11I : (k : Int) < (i : Int) + 11 := by omega
        by_cases hc1 : 48 ≤ s[k].toNat
        · by_cases hc2 : s[k].toNat ≤ 57
          · have c1 : (48 : Int) ≤ (s[k].toNat : Int) := by omega
            have c2 : (s[k].toNat : Int) ≤ 57 := by omega
            have HN := Lib.hid (HD.out.next hlt h11 ⟨hc1, hc2⟩)
            clear hc1 hc2
            go_wp2_with fail
            go_round
            case rel => exact ⟨k + 1, acc * 10 + (s[k].toNat - 48), vI (by omega), vI (by omega), HN.out⟩
            case measure => simp [intOf]; omega
          · have c1 : (48 : Int) ≤ (s[k].toNat : Int) := by omega
            have c2 : (57 : Int) < (s[k].toNat : Int) := by omega
            have HF := Lib.hid (FIN.out (.inr (.inr ⟨hlt, fun h => hc2 h.2⟩)))
            clear hc1 hc2
            go_wp2_with fail
            go_ret2
            exact ⟨HF.out, rfl⟩
        · have c1 : (s[k].toNat : Int) < 48 := by omega
          have HF := Lib.hid (FIN.out (.inr (.inr ⟨hlt, fun h => hc1 h.1⟩)))
          clear hc1
          go_wp2_with fail
          go_ret2
          exact ⟨HF.out, rfl⟩
      · have h11I : ¬ (k : Int) < (i : Int) + 11 := by omega
        have HF := Lib.hid (FIN.out (.inr (.inl h11)))
        go_wp2_with fail
        go_ret2
        exact ⟨HF.out, rfl⟩
    · have HF := Lib.hid (FIN.out (.inl hlt))
      go_wp2_with fail
      go_ret2
      exact ⟨HF.out, rfl⟩
end Go.Proofs.YtmebdieflllgcaaDoor
