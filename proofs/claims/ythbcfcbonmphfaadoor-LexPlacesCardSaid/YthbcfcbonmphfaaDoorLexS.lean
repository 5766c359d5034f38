/- The plain functions that say what the package lex and its reference compute: no program text. -/
import Derived.Lib.Strings
namespace Go.Proofs.YthbcfcbonmphfaaDoor

def cls (c : Int) : Int :=
  if c = 32 ∨ c = 9 ∨ c = 13 then 1 else if c = 10 then 2 else if c = 35 then 3 else if (65 ≤ c ∧ c ≤ 90) ∨ (97 ≤ c ∧ c ≤ 122) then 4 else if 48 ≤ c ∧ c ≤ 57 then 5 else if c = 95 then 6 else 0

theorem cls_1 (c : Int) : cls c = 1 ↔ c = 32 ∨ c = 9 ∨ c = 13 := by unfold cls; (repeat' split) <;> omega
theorem cls_2 (c : Int) : cls c = 2 ↔ c = 10 := by unfold cls; (repeat' split) <;> omega
theorem cls_3 (c : Int) : cls c = 3 ↔ c = 35 := by unfold cls; (repeat' split) <;> omega
theorem cls_4 (c : Int) : cls c = 4 ↔ (65 ≤ c ∧ c ≤ 90) ∨ (97 ≤ c ∧ c ≤ 122) := by unfold cls; (repeat' split) <;> omega
theorem cls_5 (c : Int) : cls c = 5 ↔ 48 ≤ c ∧ c ≤ 57 := by unfold cls; (repeat' split) <;> omega
theorem cls_6 (c : Int) : cls c = 6 ↔ c = 95 := by unfold cls; (repeat' split) <;> omega
theorem cls_le (c : Int) : 0 ≤ cls c ∧ cls c ≤ 6 := by unfold cls; (repeat' split) <;> omega

/-- A byte that may stand in a word. -/
def isWI (c : Int) : Bool := decide (4 ≤ cls c)
def isW (c : UInt8) : Bool := isWI c.toNat
theorem isWI_iff (c : Int) : isWI c = true ↔ cls c = 4 ∨ cls c = 5 ∨ cls c = 6 := by
  unfold isWI; have := cls_le c; simp; omega

theorem isW_yes (c : UInt8) (h : (cls (c.toNat : Int) == 4) = true ∨ (cls (c.toNat : Int) == 5) = true ∨ (cls (c.toNat : Int) == 6) = true) : isW c = true := by
  unfold isW; rw [isWI_iff]; simpa using h
theorem isW_no (c : UInt8) (h4 : (cls (c.toNat : Int) == 4) = false) (h5 : (cls (c.toNat : Int) == 5) = false) (h6 : (cls (c.toNat : Int) == 6) = false) : isW c = false := by
  rw [Bool.eq_false_iff]; unfold isW; rw [ne_eq, isWI_iff]; simp at h4 h5 h6; omega

/-- The length of the longest word at the beginning. -/
def wl (l : List UInt8) : Nat := (l.takeWhile isW).length
theorem wl_le (l : List UInt8) : wl l ≤ l.length := (List.takeWhile_sublist _).length_le
theorem takeWhile_at (p : UInt8 → Bool) : ∀ (l : List UInt8) (k : Nat), (l.take k).all p = true → (k < l.length → (l[k]?.any p) = false) → k ≤ l.length → (l.takeWhile p).length = k
  | [], k, _, _, h => by simp at h; subst h; rfl
  | c :: l, 0, _, h2, _ => by
    have := h2 (by simp)
    simp at this
    simp [List.takeWhile, this]
  | c :: l, k + 1, h1, h2, h3 => by
    simp at h1
    have ih := takeWhile_at p l k (by simpa using h1.2) (fun h => by have := h2 (by simpa using h); simpa using this) (by simpa using h3)
    simp [List.takeWhile, h1.1, ih]
theorem take_all_snoc (p : UInt8 → Bool) (s : ByteArray) (k : Nat) (h : k < s.size) (h1 : (s.data.toList.take k).all p = true) (h2 : p s[k] = true) : (s.data.toList.take (k + 1)).all p = true := by
  rw [List.take_succ_eq_append_getElem (by simpa using h), List.all_append, h1]
  have : s.data.toList[k]'(by simpa using h) = s[k] := rfl
  simp [this, h2]
theorem get_any (p : UInt8 → Bool) (s : ByteArray) (k : Nat) (h : k < s.size) : (s.data.toList[k]?.any p) = p s[k] := by
  have : s.data.toList[k]? = some s[k] := by
    rw [List.getElem?_eq_getElem (by simpa using h)]; rfl
  rw [this]; rfl
theorem size_toList (s : ByteArray) : s.data.toList.length = s.size := (Lib.size_eq s).symm
theorem wl_at (s : ByteArray) (k : Nat) (h : k < s.size) (h1 : (s.data.toList.take k).all isW = true) (h2 : isW s[k] = false) : wl s.data.toList = k :=
  takeWhile_at isW _ k h1 (fun _ => by rw [get_any isW s k h, h2]) (by rw [size_toList]; omega)
theorem wl_end (s : ByteArray) (h1 : (s.data.toList.take s.size).all isW = true) : wl s.data.toList = s.size :=
  takeWhile_at isW _ s.size h1 (fun h => by rw [size_toList] at h; omega) (by rw [size_toList]; omega)

/-- The bytes before the end of the first line. -/
def notNl (c : UInt8) : Bool := decide (cls c.toNat ≠ 2)
def cl (l : List UInt8) : Nat := (l.takeWhile notNl).length
theorem cl_le (l : List UInt8) : cl l ≤ l.length := (List.takeWhile_sublist _).length_le
theorem cl_at (s : ByteArray) (k : Nat) (h : k < s.size) (h1 : (s.data.toList.take k).all notNl = true) (h2 : notNl s[k] = false) : cl s.data.toList = k :=
  takeWhile_at notNl _ k h1 (fun _ => by rw [get_any notNl s k h, h2]) (by rw [size_toList]; omega)
theorem cl_end (s : ByteArray) (h1 : (s.data.toList.take s.size).all notNl = true) : cl s.data.toList = s.size :=
  takeWhile_at notNl _ s.size h1 (fun h => by rw [size_toList] at h; omega) (by rw [size_toList]; omega)

/-- The keywords. -/
def kws : List (List UInt8) := [[116, 121, 112, 101], [118, 97, 114], [112, 114, 111, 99], [108, 111, 99, 97, 108], [109, 101, 97, 115, 117, 114, 101], [105, 110, 118, 97, 114, 105, 97, 110, 116],
  [112, 111, 116, 101, 110, 116, 105, 97, 108], [98, 111, 117, 110, 100], [105, 102], [101, 108, 115, 101], [119, 104, 105, 108, 101], [114, 101, 116, 117, 114, 110], [110, 101, 119], [110, 105, 108],
  [116, 114, 117, 101], [102, 97, 108, 115, 101], [97, 110, 100], [111, 114], [110, 111, 116], [109, 97, 120], [109, 105, 110], [108, 111, 103], [105, 110, 116], [98, 111, 111, 108], [116, 104, 105, 115],
  [115, 111, 114, 116], [111, 112], [114, 117, 108, 101], [115, 112, 101, 99], [100, 101, 115, 99], [115, 99, 114, 105, 112, 116]]
def isKw (l : List UInt8) : Bool := kws.any fun k => l == k

/-- The symbols. -/
def syms : List (List UInt8) := [[61, 61], [33, 61], [60, 61], [45, 62], [40], [41], [123], [125], [91], [93], [44], [59], [58], [46], [61], [60], [43], [45], [42], [47], [37]]
def isSym (l : List UInt8) : Bool := syms.any fun k => l == k

def isName (l : List UInt8) : Bool := decide (0 < l.length) && decide (l.length ≤ 40) && (l[0]?.any fun c => decide (cls c.toNat = 4)) && l.all isW && !isKw l

end Go.Proofs.YthbcfcbonmphfaaDoor
