/- More plain functions: numbers, symbols, valid tokens. -/
import Derived.Test.YthbcfcbonmphfaaDoorLexS
namespace Go.Proofs.YthbcfcbonmphfaaDoor

/-- The value of a word of digits, read from an accumulator; none where it is no integer. -/
def numGo : List UInt8 → Nat → Option Nat
  | [], n => some n
  | c :: l, n => if cls c.toNat = 5 then (if 10 * n + (c.toNat - 48) ≤ 1099511627776 then numGo l (10 * n + (c.toNat - 48)) else none) else none
def number (l : List UInt8) : Option Nat := if 1 < l.length ∧ l[0]? = some 48 then none else numGo l 0
theorem numGo_le : ∀ (l : List UInt8) (n m : Nat), n ≤ 1099511627776 → numGo l n = some m → m ≤ 1099511627776
  | [], n, m, h, h2 => by simp [numGo] at h2; omega
  | c :: l, n, m, h, h2 => by
    unfold numGo at h2
    split at h2
    · split at h2
      · exact numGo_le l _ m ‹_› h2
      · cases h2
    · cases h2
theorem number_le (l : List UInt8) (m : Nat) (h : number l = some m) : m ≤ 1099511627776 := by
  unfold number at h
  split at h
  · cases h
  · exact numGo_le l 0 m (by omega) h
theorem drop_cons (s : ByteArray) (k : Nat) (h : k < s.size) : s.data.toList.drop k = s[k] :: s.data.toList.drop (k + 1) :=
  List.drop_eq_getElem_cons (by simpa using h)
theorem numGo_step (s : ByteArray) (k n : Nat) (h : k < s.size) (h5 : cls (s[k].toNat : Int) = 5) (hm : 10 * n + (s[k].toNat - 48) ≤ 1099511627776) :
    numGo (s.data.toList.drop k) n = numGo (s.data.toList.drop (k + 1)) (10 * n + (s[k].toNat - 48)) := by
  rw [drop_cons s k h, numGo, if_pos h5, if_pos hm]
theorem numGo_no (s : ByteArray) (k n : Nat) (h : k < s.size) (h5 : cls (s[k].toNat : Int) ≠ 5) : numGo (s.data.toList.drop k) n = none := by
  rw [drop_cons s k h, numGo, if_neg h5]
theorem numGo_big (s : ByteArray) (k n : Nat) (h : k < s.size) (hm : 1099511627776 < 10 * n + (s[k].toNat - 48)) : numGo (s.data.toList.drop k) n = none := by
  rw [drop_cons s k h, numGo]
  split
  · rw [if_neg (by omega)]
  · rfl
theorem numGo_end (s : ByteArray) (n : Nat) : numGo (s.data.toList.drop s.size) n = some n := by
  rw [List.drop_eq_nil_of_le (by rw [size_toList]; exact Nat.le_refl _), numGo]

def pairsL : List (List UInt8) := [[61, 61], [33, 61], [60, 61], [45, 62]]
def singles : List UInt8 := [40, 41, 123, 125, 91, 93, 44, 59, 58, 46, 61, 60, 43, 45, 42, 47, 37]
/-- The length of the longest symbol at the beginning. -/
def symLen (l : List UInt8) : Nat :=
  if decide (2 ≤ l.length) && pairsL.any (fun p => l.take 2 == p) then 2 else if l[0]?.any (fun c => singles.contains c) then 1 else 0
theorem isSym_eq (l : List UInt8) : (decide (0 < symLen l) && decide (symLen l = l.length)) = isSym l := by
  match l with
  | [] => decide
  | [a] =>
    have e : isSym [a] = singles.contains a := by rw [Bool.eq_iff_iff]; simp [isSym, syms, singles]
    rw [e]
    have e2 : symLen [a] = if singles.contains a then 1 else 0 := by simp [symLen]
    rw [e2]
    cases singles.contains a <;> simp
  | [a, b] =>
    have e : isSym [a, b] = pairsL.any (fun p => [a, b] == p) := by simp [isSym, syms, pairsL]
    rw [e]
    have e2 : symLen [a, b] = if pairsL.any (fun p => [a, b] == p) then 2 else if singles.contains a then 1 else 0 := by simp [symLen]
    rw [e2]
    cases pairsL.any (fun p => [a, b] == p) <;> cases singles.contains a <;> simp
  | a :: b :: c :: l =>
    have e : isSym (a :: b :: c :: l) = false := by simp [isSym, syms]
    rw [e]
    have : symLen (a :: b :: c :: l) ≤ 2 := by unfold symLen; (repeat' split) <;> omega
    simp
    intro _
    omega
theorem symLen_le (l : List UInt8) : symLen l ≤ l.length := by
  unfold symLen
  split
  · rename_i h; simp at h; exact h.1
  · split
    · rename_i h
      cases l with
      | nil => simp at h
      | cons a l => simp
    · omega

/-- Which tokens are valid. -/
def validT (k : Int) (s : List UInt8) (n : Int) : Bool :=
  if k = 1 then isName s && n == 0 else if k = 3 then isKw s && n == 0 else if k = 4 then isSym s && n == 0
  else if k = 2 then decide (s = []) && decide (0 ≤ n) && decide (n ≤ 1099511627776) else if k = 5 then decide (s = []) && n == 0 else false
end Go.Proofs.YthbcfcbonmphfaaDoor
