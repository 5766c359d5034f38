/- Plain: the ones of a word are its bits that are set. -/
import Derived.Test.YtakaadoppijeaaaDoorPop
namespace Go.Proofs.YtakaadoppijeaaaDoor
set_option maxRecDepth 100000
/-- How many of the lowest r bits are set. -/
def popN (x r : Nat) : Nat := (List.range r).countP fun i => x.testBit i
theorem popN_succ (x r : Nat) : popN x (r + 1) = popN x r + if x.testBit r then 1 else 0 := by
  unfold popN
  rw [List.range_succ, List.countP_append, List.countP_singleton]
theorem pop8_bits : ∀ b < 256, pop8 b = (List.range 8).countP fun i => b.testBit i := by decide +kernel
theorem byte_bits (x k : Nat) : pop8 (x / 2 ^ k % 256) = (List.range 8).countP fun i => x.testBit (k + i) := by
  rw [pop8_bits _ (by omega)]
  apply List.countP_congr
  intro i hi
  have hi' := List.mem_range.1 hi
  rw [show 256 = 2 ^ 8 from rfl, Nat.testBit_mod_two_pow, Nat.testBit_div_two_pow, decide_eq_true hi', Bool.true_and, Nat.add_comm i k]
theorem popN_add (x r s : Nat) : popN x (r + s) = popN x r + (List.range s).countP fun i => x.testBit (r + i) := by
  unfold popN
  rw [List.range_add, List.countP_append, List.countP_map]
  rfl
theorem popc_bits (x : Nat) : popc x = popN x 64 := by
  unfold popc
  have e : ∀ k, x / 2 ^ k / 256 = x / 2 ^ (k + 8) := fun k => by rw [Nat.div_div_eq_div_mul, show 256 = 2 ^ 8 from rfl, ← Nat.pow_add]
  have e0 : x = x / 2 ^ 0 := by simp
  have h1 : x / 256 = x / 2 ^ 8 := by rw [show 256 = 2 ^ 8 from rfl]
  rw [h1, e 8, e 16, e 24, e 32, e 40, e 48]
  have h0 := byte_bits x 0
  rw [← e0] at h0
  rw [h0, byte_bits, byte_bits, byte_bits, byte_bits, byte_bits, byte_bits, byte_bits]
  rw [show 64 = 0 + 8 + 8 + 8 + 8 + 8 + 8 + 8 + 8 from rfl]
  simp only [popN_add]
  simp [popN]
theorem popN_mod (x : Nat) {r s : Nat} (h : r ≤ s) : popN (x % 2 ^ r) s = popN x r := by
  obtain ⟨t, rfl⟩ : ∃ t, s = r + t := ⟨s - r, by omega⟩
  rw [popN_add]
  have h1 : popN (x % 2 ^ r) r = popN x r := by
    unfold popN
    apply List.countP_congr
    intro i hi
    rw [Nat.testBit_mod_two_pow, decide_eq_true (List.mem_range.1 hi), Bool.true_and]
  have h2 : ((List.range t).countP fun i => (x % 2 ^ r).testBit (r + i)) = 0 := by
    rw [List.countP_eq_zero]
    intro i _
    rw [Nat.testBit_mod_two_pow, decide_eq_false (by omega), Bool.false_and]
    exact Bool.false_ne_true
  rw [h1, h2]
  rfl
/-- The ones below a bit of a word, as the program masks them. -/
theorem popc_low (x r : Nat) (h : r ≤ 64) : popc (x &&& (2 ^ r - 1)) = popN x r := by
  rw [Nat.and_two_pow_sub_one_eq_mod, popc_bits, popN_mod x h]

/-- The word that holds the bits from 64 j on. -/
def wdN (f : Nat → Bool) : Nat → Nat
  | 0 => 0
  | k + 1 => wdN f k + if f k then 2 ^ k else 0
theorem wdN_lt (f : Nat → Bool) : ∀ k, wdN f k < 2 ^ k
  | 0 => by simp [wdN]
  | k + 1 => by
    have := wdN_lt f k
    rw [wdN, Nat.pow_succ]
    split <;> omega
theorem wdN_bit (f : Nat → Bool) : ∀ (k i : Nat), (wdN f k).testBit i = (decide (i < k) && f i)
  | 0, i => by simp [wdN]
  | k + 1, i => by
    have h := wdN_lt f k
    have ih := wdN_bit f k i
    rw [wdN]
    by_cases hk : f k
    · rw [if_pos hk, Nat.add_comm]
      have e : 2 ^ k + wdN f k = 2 ^ k * 1 + wdN f k := by omega
      rw [e, Nat.testBit_two_pow_mul_add _ h]
      by_cases hi : i < k
      · rw [if_pos hi, ih, decide_eq_true hi, decide_eq_true (by omega)]
      · rw [if_neg hi]
        by_cases hik : i = k
        · subst hik; simp [hk]
        · obtain ⟨t, ht⟩ : ∃ t, i - k = t + 1 := ⟨i - k - 1, by omega⟩
          rw [decide_eq_false (by omega), Bool.false_and, ht, Nat.testBit_succ]
          simp
    · rw [if_neg hk, Nat.add_zero, ih]
      by_cases hik : i = k
      · subst hik; simp [hk]
      · by_cases hi : i < k
        · rw [decide_eq_true hi, decide_eq_true (by omega)]
        · rw [decide_eq_false hi, decide_eq_false (by omega)]
theorem popN_wd (f : Nat → Bool) {r k : Nat} (h : r ≤ k) : popN (wdN f k) r = (List.range r).countP f := by
  unfold popN
  apply List.countP_congr
  intro i hi
  have := List.mem_range.1 hi
  rw [wdN_bit, decide_eq_true (by omega), Bool.true_and]
/-- Setting a bit that is not set. -/
theorem wdN_or (f : Nat → Bool) (k : Nat) (hk : f k = true) : wdN f k ||| 2 ^ k = wdN f (k + 1) := by
  apply Nat.eq_of_testBit_eq
  intro i
  rw [Nat.testBit_or, wdN_bit, wdN_bit, Nat.testBit_two_pow]
  by_cases hik : k = i
  · subst hik; simp [hk]
  · by_cases hi : i < k
    · simp [hi, hik, Nat.lt_succ_of_lt hi]
    · have : ¬ i < k + 1 := by omega
      simp [hi, hik, this]
theorem wdN_off (f : Nat → Bool) (k : Nat) (hk : f k = false) : wdN f k = wdN f (k + 1) := by
  rw [wdN, hk]; simp
end Go.Proofs.YtakaadoppijeaaaDoor
