/- Plain: decoding. -/
import Derived.Test.YtakaadoppijeaaaDoorBvR
namespace Go.Proofs.YtakaadoppijeaaaDoor
set_option maxRecDepth 100000
/-- The number that a code begins with. -/
def dnum (b : List Nat) : Nat := ((b.getD 0 0 * 256 + b.getD 1 0) * 256 + b.getD 2 0) * 256 + b.getD 3 0
/-- A bit of a code. -/
def dbit (b : List Nat) (i : Nat) : Bool := (b.getD (4 + i / 8) 0).testBit (7 - i % 8)
/-- The bits that are decoded. -/
def decB (b : List Nat) (n : Nat) : List Bool := (List.range n).map (dbit b)
/-- Behind the first n bits there are none. -/
def restB (b : List Nat) (n m : Nat) : Bool := (List.range m).all fun i => decide (i < n) || !dbit b i
theorem restB_iff (b : List Nat) (n m : Nat) : restB b n m = true ↔ ∀ i, i < m → n ≤ i → dbit b i = false := by
  unfold restB
  rw [List.all_eq_true]
  constructor
  · intro h i hi hn
    have := h i (List.mem_range.2 hi)
    rw [decide_eq_false (by omega)] at this
    simpa using this
  · intro h i hi
    by_cases hn : i < n
    · rw [decide_eq_true hn]; rfl
    · rw [h i (List.mem_range.1 hi) (by omega)]; simp
/-- The error of decoding. -/
def errD (b : List Nat) : Nat := if b.length < 4 then 8 else if 65536 < dnum b then 4 else if b.length - 4 < (dnum b + 7) / 8 then 8 else if (dnum b + 7) / 8 < b.length - 4 then 7 else if restB b (dnum b) (8 * (b.length - 4)) then 0 else 7
theorem errD_a {b : List Nat} (h : b.length < 4) : errD b = 8 := by unfold errD; rw [if_pos h]
theorem errD_b {b : List Nat} (h : ¬ b.length < 4) (h1 : 65536 < dnum b) : errD b = 4 := by unfold errD; rw [if_neg h, if_pos h1]
theorem errD_c {b : List Nat} (h : ¬ b.length < 4) (h1 : ¬ 65536 < dnum b) (h2 : b.length - 4 < (dnum b + 7) / 8) : errD b = 8 := by unfold errD; rw [if_neg h, if_neg h1, if_pos h2]
theorem errD_d {b : List Nat} (h : ¬ b.length < 4) (h1 : ¬ 65536 < dnum b) (h2 : ¬ b.length - 4 < (dnum b + 7) / 8) (h3 : (dnum b + 7) / 8 < b.length - 4) : errD b = 7 := by unfold errD; rw [if_neg h, if_neg h1, if_neg h2, if_pos h3]
theorem errD_e {b : List Nat} (h : ¬ b.length < 4) (h1 : ¬ 65536 < dnum b) (h2 : ¬ b.length - 4 < (dnum b + 7) / 8) (h3 : ¬ (dnum b + 7) / 8 < b.length - 4) (h4 : restB b (dnum b) (8 * (b.length - 4)) = false) : errD b = 7 := by unfold errD; rw [if_neg h, if_neg h1, if_neg h2, if_neg h3, h4]; rfl
theorem errD_f {b : List Nat} (h : ¬ b.length < 4) (h1 : ¬ 65536 < dnum b) (h2 : ¬ b.length - 4 < (dnum b + 7) / 8) (h3 : ¬ (dnum b + 7) / 8 < b.length - 4) (h4 : restB b (dnum b) (8 * (b.length - 4)) = true) : errD b = 0 := by unfold errD; rw [if_neg h, if_neg h1, if_neg h2, if_neg h3, h4]; rfl
theorem decB_len (b : List Nat) (n : Nat) : (decB b n).length = n := by simp [decB]
theorem decB_get (b : List Nat) {n i : Nat} (h : i < n) : (decB b n)[i]? = some (dbit b i) := by simp [decB, h]
theorem decB_succ (b : List Nat) (n : Nat) : decB b (n + 1) = decB b n ++ [dbit b n] := by simp [decB, List.range_succ]
/-- Behind the last whole byte. -/
theorem rest_last {b : List Nat} {n x r : Nat} (hr : r = n % 8) (hr0 : 0 < r) (hx : b.getD (4 + n / 8) 0 = x) (_hb : x < 256) : restB b n (8 * ((n + 7) / 8)) = true ↔ x * 2 ^ r % 256 = 0 := by
  rw [restB_iff]
  have e1 : ∀ i, n ≤ i → i < 8 * ((n + 7) / 8) → i / 8 = n / 8 := fun i h1 h2 => by omega
  constructor
  · intro h
    apply Nat.eq_of_testBit_eq
    intro j
    rw [show 256 = 2 ^ 8 from rfl, Nat.testBit_mod_two_pow, Nat.zero_testBit]
    by_cases hj : j < 8
    · rw [decide_eq_true hj, Bool.true_and, Nat.testBit_mul_two_pow]
      by_cases hjr : r ≤ j
      · rw [decide_eq_true hjr, Bool.true_and]
        have := h (8 * (n / 8) + (7 - (j - r))) (by omega) (by omega)
        unfold dbit at this
        rw [show (8 * (n / 8) + (7 - (j - r))) / 8 = n / 8 by omega, hx, show (8 * (n / 8) + (7 - (j - r))) % 8 = 7 - (j - r) by omega, show 7 - (7 - (j - r)) = j - r by omega] at this
        exact this
      · rw [decide_eq_false hjr, Bool.false_and]
    · rw [decide_eq_false hj, Bool.false_and]
  · intro h i hi hn
    unfold dbit
    rw [e1 i hn hi, hx]
    have h2 : (x * 2 ^ r % 256).testBit (7 - i % 8 + r) = false := by rw [h, Nat.zero_testBit]
    rw [show 256 = 2 ^ 8 from rfl, Nat.testBit_mod_two_pow, Nat.testBit_mul_two_pow, decide_eq_true (show 7 - i % 8 + r < 8 by omega), decide_eq_true (show r ≤ 7 - i % 8 + r by omega), Nat.add_sub_cancel] at h2
    simpa using h2
theorem rest_none (b : List Nat) {n m : Nat} (h : m ≤ n) : restB b n m = true := (restB_iff b n m).2 fun i hi hn => by omega
/-- A code is decoded. -/
theorem dnum_enc (l : List Bool) (h : l.length < 4294967296) : dnum (enc l) = l.length := by
  unfold dnum enc
  simp
  omega
theorem dbit_enc (l : List Bool) (i : Nat) (h : i < 8 * ((l.length + 7) / 8)) : dbit (enc l) i = (decide (i < l.length) && l.getD i false) := by
  unfold dbit
  rw [List.getD_eq_getElem?_getD, enc_get l (by omega), Option.getD_some, enB_bit, decide_eq_true (show 7 - i % 8 < 8 by omega), Bool.true_and, show 8 * (i / 8) + (7 - (7 - i % 8)) = i by omega]
theorem errD_enc (l : List Bool) (h : l.length ≤ 65536) : errD (enc l) = 0 := by
  have hn := dnum_enc l (by omega)
  have hl := enc_len l
  refine errD_f (by omega) (by omega) (by rw [hn, hl]; omega) (by rw [hn, hl]; omega) ?_
  rw [hn, hl, restB_iff]
  intro i hi hni
  rw [dbit_enc l i (by omega), decide_eq_false (by omega), Bool.false_and]
theorem decB_enc (l : List Bool) (h : l.length ≤ 65536) : decB (enc l) (dnum (enc l)) = l := by
  rw [dnum_enc l (by omega)]
  apply List.ext_getElem?
  intro i
  by_cases hi : i < l.length
  · rw [decB_get _ hi, dbit_enc l i (by omega), decide_eq_true hi, Bool.true_and, List.getD_eq_getElem?_getD, List.getElem?_eq_getElem hi, Option.getD_some]
  · rw [List.getElem?_eq_none (by rw [decB_len]; omega), List.getElem?_eq_none (by omega)]
/-- A byte's bits, highest first. -/
theorem hi_bit (x k : Nat) (_hx : x < 256) (hk : k < 8) : decide (128 ≤ x * 2 ^ k % 256) = x.testBit (7 - k) := by
  have e : (x * 2 ^ k % 256).testBit 7 = x.testBit (7 - k) := by
    rw [show 256 = 2 ^ 8 from rfl, Nat.testBit_mod_two_pow, Nat.testBit_mul_two_pow, decide_eq_true (show 7 < 8 by omega), decide_eq_true (show k ≤ 7 by omega)]
    rfl
  rw [← e, Nat.testBit_eq_decide_div_mod_eq]
  apply decide_eq_decide.2
  have : x * 2 ^ k % 256 < 256 := Nat.mod_lt _ (by decide)
  generalize x * 2 ^ k % 256 = y at this
  omega
end Go.Proofs.YtakaadoppijeaaaDoor
