/- The plain functions that say what the package term and its reference compute: no program text. -/
import Derived.Lib.Strings
import Derived.Lib.Bytealg
/- The plain functions that say what the package lex and its reference compute: no program text. -/
namespace Go.Proofs.YthbcfcbonmphfaaGreatDoor

def cls (c : Int) : Int :=
  if c = 32 ∨ c = 9 ∨ c = 13 then 1 else if c = 10 then 2 else if c = 35 then 3 else if (65 ≤ c ∧ c ≤ 90) ∨ (97 ≤ c ∧ c ≤ 122) then 4 else if 48 ≤ c ∧ c ≤ 57 then 5 else if c = 95 then 6 else 0

theorem cls_1 (c : Int) : cls c = 1 ↔ c = 32 ∨ c = 9 ∨ c = 13 := by unfold cls; (repeat' split) <;> omega
theorem cls_2 (c : Int) : cls c = 2 ↔ c = 10 := by unfold cls; (repeat' split) <;> omega
theorem cls_3 (c : Int) : cls c = 3 ↔ c = 35 := by unfold cls; (repeat' split) <;> omega
theorem cls_4 (c : Int) : cls c = 4 ↔ (65 ≤ c ∧ c ≤ 90) ∨ (97 ≤ c ∧ c ≤ 122) := by unfold cls; (repeat' split) <;> omega
theorem cls_5 (c : Int) : cls c = 5 ↔ 48 ≤ c ∧ c ≤ 57 := by unfold cls; (repeat' split) <;> omega
theorem cls_6 (c : Int) : cls c = 6 ↔ c = 95 := by unfold cls; (repeat' split) <;> omega
theorem cls_le (c : Int) : 0 ≤ cls c ∧ cls c ≤ 6 := by unfold cls; (repeat' split) <;> omega

/-- A byte that may stand in a word. -/
def isWI (c : Int) : Bool := decide (4 ≤ cls c)
def isW (c : UInt8) : Bool := isWI c.toNat
theorem isWI_iff (c : Int) : isWI c = true ↔ cls c = 4 ∨ cls c = 5 ∨ cls c = 6 := by
  unfold isWI; have := cls_le c; simp; omega

theorem isW_yes (c : UInt8) (h : (cls (c.toNat : Int) == 4) = true ∨ (cls (c.toNat : Int) == 5) = true ∨ (cls (c.toNat : Int) == 6) = true) : isW c = true := by
  unfold isW; rw [isWI_iff]; simpa using h
theorem isW_no (c : UInt8) (h4 : (cls (c.toNat : Int) == 4) = false) (h5 : (cls (c.toNat : Int) == 5) = false) (h6 : (cls (c.toNat : Int) == 6) = false) : isW c = false := by
  rw [Bool.eq_false_iff]; unfold isW; rw [ne_eq, isWI_iff]; simp at h4 h5 h6; omega

/-- The length of the longest word at the beginning. -/
def wl (l : List UInt8) : Nat := (l.takeWhile isW).length
theorem wl_le (l : List UInt8) : wl l ≤ l.length := (List.takeWhile_sublist _).length_le
theorem takeWhile_at (p : UInt8 → Bool) : ∀ (l : List UInt8) (k : Nat), (l.take k).all p = true → (k < l.length → (l[k]?.any p) = false) → k ≤ l.length → (l.takeWhile p).length = k
  | [], k, _, _, h => by simp at h; subst h; rfl
  | c :: l, 0, _, h2, _ => by
    have := h2 (by simp)
    simp at this
    simp [List.takeWhile, this]
  | c :: l, k + 1, h1, h2, h3 => by
    simp at h1
    have ih := takeWhile_at p l k (by simpa using h1.2) (fun h => by have := h2 (by simpa using h); simpa using this) (by simpa using h3)
    simp [List.takeWhile, h1.1, ih]
theorem take_all_snoc (p : UInt8 → Bool) (s : ByteArray) (k : Nat) (h : k < s.size) (h1 : (s.data.toList.take k).all p = true) (h2 : p s[k] = true) : (s.data.toList.take (k + 1)).all p = true := by
  rw [List.take_succ_eq_append_getElem (by simpa using h), List.all_append, h1]
  have : s.data.toList[k]'(by simpa using h) = s[k] := rfl
  simp [this, h2]
theorem get_any (p : UInt8 → Bool) (s : ByteArray) (k : Nat) (h : k < s.size) : (s.data.toList[k]?.any p) = p s[k] := by
  have : s.data.toList[k]? = some s[k] := by
    rw [List.getElem?_eq_getElem (by simpa using h)]; rfl
  rw [this]; rfl
theorem size_toList (s : ByteArray) : s.data.toList.length = s.size := (Lib.size_eq s).symm
theorem wl_at (s : ByteArray) (k : Nat) (h : k < s.size) (h1 : (s.data.toList.take k).all isW = true) (h2 : isW s[k] = false) : wl s.data.toList = k :=
  takeWhile_at isW _ k h1 (fun _ => by rw [get_any isW s k h, h2]) (by rw [size_toList]; omega)
theorem wl_end (s : ByteArray) (h1 : (s.data.toList.take s.size).all isW = true) : wl s.data.toList = s.size :=
  takeWhile_at isW _ s.size h1 (fun h => by rw [size_toList] at h; omega) (by rw [size_toList]; omega)

/-- The bytes before the end of the first line. -/
def notNl (c : UInt8) : Bool := decide (cls c.toNat ≠ 2)
def cl (l : List UInt8) : Nat := (l.takeWhile notNl).length
theorem cl_le (l : List UInt8) : cl l ≤ l.length := (List.takeWhile_sublist _).length_le
theorem cl_at (s : ByteArray) (k : Nat) (h : k < s.size) (h1 : (s.data.toList.take k).all notNl = true) (h2 : notNl s[k] = false) : cl s.data.toList = k :=
  takeWhile_at notNl _ k h1 (fun _ => by rw [get_any notNl s k h, h2]) (by rw [size_toList]; omega)
theorem cl_end (s : ByteArray) (h1 : (s.data.toList.take s.size).all notNl = true) : cl s.data.toList = s.size :=
  takeWhile_at notNl _ s.size h1 (fun h => by rw [size_toList] at h; omega) (by rw [size_toList]; omega)

/-- The keywords. -/
def kws : List (List UInt8) := [[116, 121, 112, 101], [118, 97, 114], [112, 114, 111, 99], [108, 111, 99, 97, 108], [109, 101, 97, 115, 117, 114, 101], [105, 110, 118, 97, 114, 105, 97, 110, 116],
  [112, 111, 116, 101, 110, 116, 105, 97, 108], [98, 111, 117, 110, 100], [105, 102], [101, 108, 115, 101], [119, 104, 105, 108, 101], [114, 101, 116, 117, 114, 110], [110, 101, 119], [110, 105, 108],
  [116, 114, 117, 101], [102, 97, 108, 115, 101], [97, 110, 100], [111, 114], [110, 111, 116], [109, 97, 120], [109, 105, 110], [108, 111, 103], [105, 110, 116], [98, 111, 111, 108], [116, 104, 105, 115],
  [115, 111, 114, 116], [111, 112], [114, 117, 108, 101], [115, 112, 101, 99], [100, 101, 115, 99], [115, 99, 114, 105, 112, 116]]
def isKw (l : List UInt8) : Bool := kws.any fun k => l == k

/-- The symbols. -/
def syms : List (List UInt8) := [[61, 61], [33, 61], [60, 61], [45, 62], [40], [41], [123], [125], [91], [93], [44], [59], [58], [46], [61], [60], [43], [45], [42], [47], [37]]
def isSym (l : List UInt8) : Bool := syms.any fun k => l == k

def isName (l : List UInt8) : Bool := decide (0 < l.length) && decide (l.length ≤ 40) && (l[0]?.any fun c => decide (cls c.toNat = 4)) && l.all isW && !isKw l

end Go.Proofs.YthbcfcbonmphfaaGreatDoor

/- More plain functions: numbers, symbols, valid tokens. -/
namespace Go.Proofs.YthbcfcbonmphfaaGreatDoor

/-- The value of a word of digits, read from an accumulator; none where it is no integer. -/
def numGo : List UInt8 → Nat → Option Nat
  | [], n => some n
  | c :: l, n => if cls c.toNat = 5 then (if 10 * n + (c.toNat - 48) ≤ 1099511627776 then numGo l (10 * n + (c.toNat - 48)) else none) else none
def number (l : List UInt8) : Option Nat := if 1 < l.length ∧ l[0]? = some 48 then none else numGo l 0
theorem numGo_le : ∀ (l : List UInt8) (n m : Nat), n ≤ 1099511627776 → numGo l n = some m → m ≤ 1099511627776
  | [], n, m, h, h2 => by simp [numGo] at h2; omega
  | c :: l, n, m, h, h2 => by
    unfold numGo at h2
    split at h2
    · split at h2
      · exact numGo_le l _ m ‹_› h2
      · cases h2
    · cases h2
theorem number_le (l : List UInt8) (m : Nat) (h : number l = some m) : m ≤ 1099511627776 := by
  unfold number at h
  split at h
  · cases h
  · exact numGo_le l 0 m (by omega) h
theorem drop_cons (s : ByteArray) (k : Nat) (h : k < s.size) : s.data.toList.drop k = s[k] :: s.data.toList.drop (k + 1) :=
  List.drop_eq_getElem_cons (by simpa using h)
theorem numGo_step (s : ByteArray) (k n : Nat) (h : k < s.size) (h5 : cls (s[k].toNat : Int) = 5) (hm : 10 * n + (s[k].toNat - 48) ≤ 1099511627776) :
    numGo (s.data.toList.drop k) n = numGo (s.data.toList.drop (k + 1)) (10 * n + (s[k].toNat - 48)) := by
  rw [drop_cons s k h, numGo, if_pos h5, if_pos hm]
theorem numGo_no (s : ByteArray) (k n : Nat) (h : k < s.size) (h5 : cls (s[k].toNat : Int) ≠ 5) : numGo (s.data.toList.drop k) n = none := by
  rw [drop_cons s k h, numGo, if_neg h5]
theorem numGo_big (s : ByteArray) (k n : Nat) (h : k < s.size) (hm : 1099511627776 < 10 * n + (s[k].toNat - 48)) : numGo (s.data.toList.drop k) n = none := by
  rw [drop_cons s k h, numGo]
  split
  · rw [if_neg (by omega)]
  · rfl
theorem numGo_end (s : ByteArray) (n : Nat) : numGo (s.data.toList.drop s.size) n = some n := by
  rw [List.drop_eq_nil_of_le (by rw [size_toList]; exact Nat.le_refl _), numGo]

def pairsL : List (List UInt8) := [[61, 61], [33, 61], [60, 61], [45, 62]]
def singles : List UInt8 := [40, 41, 123, 125, 91, 93, 44, 59, 58, 46, 61, 60, 43, 45, 42, 47, 37]
/-- The length of the longest symbol at the beginning. -/
def symLen (l : List UInt8) : Nat :=
  if decide (2 ≤ l.length) && pairsL.any (fun p => l.take 2 == p) then 2 else if l[0]?.any (fun c => singles.contains c) then 1 else 0
theorem isSym_eq (l : List UInt8) : (decide (0 < symLen l) && decide (symLen l = l.length)) = isSym l := by
  match l with
  | [] => decide
  | [a] =>
    have e : isSym [a] = singles.contains a := by rw [Bool.eq_iff_iff]; simp [isSym, syms, singles]
    rw [e]
    have e2 : symLen [a] = if singles.contains a then 1 else 0 := by simp [symLen]
    rw [e2]
    cases singles.contains a <;> simp
  | [a, b] =>
    have e : isSym [a, b] = pairsL.any (fun p => [a, b] == p) := by simp [isSym, syms, pairsL]
    rw [e]
    have e2 : symLen [a, b] = if pairsL.any (fun p => [a, b] == p) then 2 else if singles.contains a then 1 else 0 := by simp [symLen]
    rw [e2]
    cases pairsL.any (fun p => [a, b] == p) <;> cases singles.contains a <;> simp
  | a :: b :: c :: l =>
    have e : isSym (a :: b :: c :: l) = false := by simp [isSym, syms]
    rw [e]
    have : symLen (a :: b :: c :: l) ≤ 2 := by unfold symLen; (repeat' split) <;> omega
    simp
    intro _
    omega
theorem symLen_le (l : List UInt8) : symLen l ≤ l.length := by
  unfold symLen
  split
  · rename_i h; simp at h; exact h.1
  · split
    · rename_i h
      cases l with
      | nil => simp at h
      | cons a l => simp
    · omega

/-- Which tokens are valid. -/
def validT (k : Int) (s : List UInt8) (n : Int) : Bool :=
  if k = 1 then isName s && n == 0 else if k = 3 then isKw s && n == 0 else if k = 4 then isSym s && n == 0
  else if k = 2 then decide (s = []) && decide (0 ≤ n) && decide (n ≤ 1099511627776) else if k = 5 then decide (s = []) && n == 0 else false
end Go.Proofs.YthbcfcbonmphfaaGreatDoor

/- The tokens of a text, as plain functions: no program text. -/
namespace Go.Proofs.YthbcfcbonmphfaaGreatDoor

structure Tk where
  k : Int
  t : List UInt8
  n : Int
  a : Int
  b : Int

def wordTok (l : List UInt8) : Option (Int × List UInt8 × Int) :=
  if isKw l then some (3, l, 0) else if isName l then some (1, l, 0) else (number l).map fun (m : Nat) => ((2 : Int), ([] : List UInt8), (m : Int))
/-- The token at the beginning, and its length; none: a fault. -/
def tokOf (l : List UInt8) : Option (Int × List UInt8 × Int × Nat) :=
  if l = [] then some (5, [], 0, 0)
  else if 0 < wl l then (wordTok (l.take (wl l))).map fun x => (x.1, x.2.1, x.2.2, wl l)
  else if 0 < symLen l then some (4, l.take (symLen l), 0, symLen l) else none

/-- Past blanks and comments. -/
def skipF : Nat → List UInt8 → Int → Int → List UInt8 × Int × Int
  | 0, l, a, b => (l, a, b)
  | _ + 1, [], a, b => ([], a, b)
  | f + 1, c :: l, a, b =>
    if cls c.toNat = 1 then skipF f l a (b + 1) else if cls c.toNat = 2 then skipF f l (a + 1) 1
    else if cls c.toNat = 3 then skipF f ((c :: l).drop (cl (c :: l))) a (b + cl (c :: l)) else (c :: l, a, b)
def skip (l : List UInt8) (a b : Int) : List UInt8 × Int × Int := skipF l.length l a b

theorem cl_pos (c : UInt8) (l : List UInt8) (h : cls (c.toNat : Int) = 3) : 0 < cl (c :: l) := by
  unfold cl
  rw [List.takeWhile_cons_of_pos (by unfold notNl; rw [h]; rfl)]
  simp
theorem skipF_fuel : ∀ (f g : Nat) (l : List UInt8) (a b : Int), l.length ≤ f → l.length ≤ g → skipF f l a b = skipF g l a b
  | 0, 0, _, _, _, _, _ => rfl
  | 0, g + 1, [], _, _, _, _ => rfl
  | 0, _ + 1, _ :: _, _, _, h, _ => by simp at h
  | f + 1, 0, [], _, _, _, _ => rfl
  | _ + 1, 0, _ :: _, _, _, _, h => by simp at h
  | f + 1, g + 1, [], _, _, _, _ => rfl
  | f + 1, g + 1, c :: l, a, b, h1, h2 => by
    simp only [List.length_cons] at h1 h2
    unfold skipF
    split
    · exact skipF_fuel f g l _ _ (by omega) (by omega)
    · split
      · exact skipF_fuel f g l _ _ (by omega) (by omega)
      · split
        · rename_i h3
          have := cl_pos c l h3
          exact skipF_fuel f g _ _ _ (by simp; omega) (by simp; omega)
        · rfl
theorem skip_nil (a b : Int) : skip [] a b = ([], a, b) := rfl
theorem skip_1 (c : UInt8) (l : List UInt8) (a b : Int) (h : cls (c.toNat : Int) = 1) : skip (c :: l) a b = skip l a (b + 1) := by
  unfold skip; rw [List.length_cons, skipF, if_pos h]
theorem skip_2 (c : UInt8) (l : List UInt8) (a b : Int) (h : cls (c.toNat : Int) = 2) : skip (c :: l) a b = skip l (a + 1) 1 := by
  unfold skip; rw [List.length_cons, skipF, if_neg (by omega), if_pos h]
theorem skip_3 (c : UInt8) (l : List UInt8) (a b : Int) (h : cls (c.toNat : Int) = 3) : skip (c :: l) a b = skip ((c :: l).drop (cl (c :: l))) a (b + cl (c :: l)) := by
  unfold skip; rw [List.length_cons, skipF, if_neg (by omega), if_neg (by omega), if_pos h]
  have := cl_pos c l h
  exact skipF_fuel _ _ _ _ _ (by simp; omega) (Nat.le_refl _)
theorem skip_0 (c : UInt8) (l : List UInt8) (a b : Int) (h1 : cls (c.toNat : Int) ≠ 1) (h2 : cls (c.toNat : Int) ≠ 2) (h3 : cls (c.toNat : Int) ≠ 3) : skip (c :: l) a b = (c :: l, a, b) := by
  unfold skip; rw [List.length_cons, skipF, if_neg h1, if_neg h2, if_neg h3]
theorem skipF_len : ∀ (f : Nat) (l : List UInt8) (a b : Int), (skipF f l a b).1.length ≤ l.length
  | 0, _, _, _ => Nat.le_refl _
  | _ + 1, [], _, _ => Nat.le_refl _
  | f + 1, c :: l, a, b => by
    unfold skipF
    split
    · exact Nat.le_trans (skipF_len f l _ _) (by simp)
    · split
      · exact Nat.le_trans (skipF_len f l _ _) (by simp)
      · split
        · exact Nat.le_trans (skipF_len f _ _ _) (by simp)
        · exact Nat.le_refl _
theorem skip_len (l : List UInt8) (a b : Int) : (skip l a b).1.length ≤ l.length := skipF_len _ _ _ _

def toksF : Nat → List UInt8 → Int → Int → Except (Int × Int) (List Tk)
  | 0, _, a, b => .error (a, b)
  | f + 1, l, a, b =>
    match tokOf (skip l a b).1 with
    | none => .error (skip l a b).2
    | some (k, t, n, len) =>
      if k = 5 then .ok [⟨5, [], 0, (skip l a b).2.1, (skip l a b).2.2⟩]
      else match toksF f ((skip l a b).1.drop len) (skip l a b).2.1 ((skip l a b).2.2 + len) with
        | .error p => .error p
        | .ok r => .ok (⟨k, t, n, (skip l a b).2.1, (skip l a b).2.2⟩ :: r)
def toks (l : List UInt8) (a b : Int) : Except (Int × Int) (List Tk) := toksF (l.length + 1) l a b

theorem tokOf_len (l : List UInt8) (k : Int) (t : List UInt8) (n : Int) (len : Nat) (h : tokOf l = some (k, t, n, len)) : len ≤ l.length ∧ (k ≠ 5 → 0 < len) := by
  unfold tokOf at h
  split at h
  · simp at h; obtain ⟨rfl, _, _, rfl⟩ := h; exact ⟨by omega, fun h => absurd rfl h⟩
  · split at h
    · rename_i _ hw
      simp only [Option.map_eq_some_iff] at h
      obtain ⟨x, _, hx⟩ := h
      simp at hx
      obtain ⟨_, _, _, rfl⟩ := hx
      exact ⟨wl_le l, fun _ => hw⟩
    · split at h
      · rename_i _ _ hs
        simp at h
        obtain ⟨_, _, _, rfl⟩ := h
        exact ⟨symLen_le l, fun _ => hs⟩
      · cases h
theorem toksF_fuel : ∀ (f g : Nat) (l : List UInt8) (a b : Int), l.length < f → l.length < g → toksF f l a b = toksF g l a b
  | 0, _, _, _, _, h, _ => absurd h (by omega)
  | _ + 1, 0, _, _, _, _, h => absurd h (by omega)
  | f + 1, g + 1, l, a, b, h1, h2 => by
    unfold toksF
    cases ht : tokOf (skip l a b).1 with
    | none => rfl
    | some x =>
      obtain ⟨k, t, n, len⟩ := x
      simp only
      split
      · rfl
      · rename_i hk
        have hl := tokOf_len _ _ _ _ _ ht
        have hs := skip_len l a b
        have := hl.2 hk
        rw [toksF_fuel f g _ _ _ (by simp; omega) (by simp; omega)]

/-- What was read, and what is still to come. -/
def joinT (acc : List Tk) : Except (Int × Int) (List Tk) → Except (Int × Int) (List Tk)
  | .error p => .error p
  | .ok r => .ok (acc ++ r)
theorem joinT_nil (r : Except (Int × Int) (List Tk)) : joinT [] r = r := by cases r <;> rfl
theorem joinT_join (x y : List Tk) (r : Except (Int × Int) (List Tk)) : joinT x (joinT y r) = joinT (x ++ y) r := by cases r <;> simp [joinT]
theorem toks_bad (l : List UInt8) (a b : Int) (l' : List UInt8) (a' b' : Int) (hs : skip l a b = (l', a', b')) (ht : tokOf l' = none) : toks l a b = .error (a', b') := by
  unfold toks toksF; rw [hs]; simp only; rw [ht]
theorem toks_end (l : List UInt8) (a b : Int) (l' : List UInt8) (a' b' : Int) (hs : skip l a b = (l', a', b')) (t : List UInt8) (n : Int) (len : Nat) (ht : tokOf l' = some (5, t, n, len)) : toks l a b = .ok [⟨5, [], 0, a', b'⟩] := by
  unfold toks toksF; rw [hs]; simp only; rw [ht]; simp
theorem toks_step (l : List UInt8) (a b : Int) (l' : List UInt8) (a' b' : Int) (hs : skip l a b = (l', a', b')) (k : Int) (t : List UInt8) (n : Int) (len : Nat) (hk : k ≠ 5) (ht : tokOf l' = some (k, t, n, len)) :
    toks l a b = joinT [⟨k, t, n, a', b'⟩] (toks (l'.drop len) a' (b' + len)) := by
  have hl := tokOf_len _ _ _ _ _ ht
  have h2 := skip_len l a b
  rw [hs] at h2
  have := hl.2 hk
  unfold toks
  rw [toksF, hs]; simp only; rw [ht]; simp only; rw [if_neg hk, toksF_fuel l.length ((l'.drop len).length + 1) _ _ _ (by simp at h2 ⊢; omega) (by simp)]
  cases toksF ((l'.drop len).length + 1) (l'.drop len) a' (b' + len) <;> rfl
theorem tokOf_end (l : List UInt8) (t : List UInt8) (n : Int) (len : Nat) (ht : tokOf l = some (5, t, n, len)) : l = [] := by
  unfold tokOf at ht
  split at ht
  · assumption
  · split at ht
    · simp only [Option.map_eq_some_iff] at ht
      obtain ⟨x, hx, h⟩ := ht
      unfold wordTok at hx
      split at hx
      · simp at hx; subst hx; simp at h
      · split at hx
        · simp at hx; subst hx; simp at h
        · simp only [Option.map_eq_some_iff] at hx
          obtain ⟨m, _, hm⟩ := hx
          subst hm
          simp at h
    · split at ht
      · simp at ht
      · cases ht
end Go.Proofs.YthbcfcbonmphfaaGreatDoor
namespace Go.Proofs.YthbcfcbonmphfaaGreatDoor

/-- A term. -/
inductive Tm where
  | mk (nm st : ByteArray) (ks : List Tm)
namespace Tm
def nm : Tm → ByteArray | mk a _ _ => a
def st : Tm → ByteArray | mk _ a _ => a
def ks : Tm → List Tm | mk _ _ a => a
@[simp] theorem nm_mk (a b : ByteArray) (l : List Tm) : (mk a b l).nm = a := rfl
@[simp] theorem st_mk (a b : ByteArray) (l : List Tm) : (mk a b l).st = b := rfl
@[simp] theorem ks_mk (a b : ByteArray) (l : List Tm) : (mk a b l).ks = l := rfl
theorem eta (t : Tm) : t = mk t.nm t.st t.ks := by cases t; rfl
theorem ind {P : Tm → Prop} (h : ∀ nm st ks, (∀ k, k ∈ ks → P k) → P (.mk nm st ks)) : ∀ t, P t
  | .mk nm st ks => h nm st ks (fun k _ => ind h k)
termination_by t => SizeOf.sizeOf t
decreasing_by
  have := List.sizeOf_lt_of_mem ‹_›
  simp
  omega
end Tm

mutual
def Tm.size : Tm → Nat
  | .mk _ _ ks => 1 + sizes ks
def sizes : List Tm → Nat
  | [] => 0
  | k :: ks => k.size + sizes ks
end
mutual
def Tm.depth : Tm → Nat
  | .mk _ _ ks => depths ks + 1
def depths : List Tm → Nat
  | [] => 0
  | k :: ks => max k.depth (depths ks)
end
mutual
/-- The nodes in preorder, each with its depth. -/
def Tm.pre : Nat → Tm → List (Nat × Tm)
  | d, .mk nm st ks => (d, .mk nm st ks) :: pres (d + 1) ks
def pres : Nat → List Tm → List (Nat × Tm)
  | _, [] => []
  | d, k :: ks => k.pre d ++ pres d ks
end
theorem pres_append : ∀ (d : Nat) (a b : List Tm), pres d (a ++ b) = pres d a ++ pres d b
  | _, [], _ => by simp [pres]
  | d, x :: a, b => by simp [pres, pres_append d a b]
theorem sizes_append : ∀ (a b : List Tm), sizes (a ++ b) = sizes a + sizes b
  | [], _ => by simp [sizes]
  | x :: a, b => by simp [sizes, sizes_append a b]; omega
theorem sizes_take (ks : List Tm) (k : Nat) : sizes (ks.take k) ≤ sizes ks := by
  have := sizes_append (ks.take k) (ks.drop k)
  rw [List.take_append_drop] at this
  omega
theorem pres_at (ks : List Tm) (i : Nat) (k : Tm) (h : ks[i]? = some k) (d : Nat) : pres d ks = pres d (ks.take i) ++ (k.pre d ++ pres d (ks.drop (i + 1))) := by
  obtain ⟨hlt, e⟩ := List.getElem?_eq_some_iff.1 h
  conv => lhs; rw [← List.take_append_drop i ks, pres_append, List.drop_eq_getElem_cons hlt, e, pres]
mutual
theorem Tm.pre_length : ∀ (t : Tm) (d : Nat), (t.pre d).length = t.size
  | .mk _ _ ks, d => by simp [Tm.pre, Tm.size, pres_length ks (d + 1)]; omega
theorem pres_length : ∀ (ks : List Tm) (d : Nat), (pres d ks).length = sizes ks
  | [], _ => rfl
  | k :: ks, d => by simp [pres, sizes, Tm.pre_length k d, pres_length ks d]
end
mutual
/-- The greatest depth. -/
theorem Tm.pre_depth : ∀ (t : Tm) (d : Nat), ∀ x ∈ t.pre d, x.1 + 1 ≤ d + t.depth ∧ d ≤ x.1
  | .mk nm st ks, d, x, hx => by
    simp only [Tm.pre, List.mem_cons] at hx
    rcases hx with rfl | hx
    · simp [Tm.depth]
    · have := pres_depth ks (d + 1) x hx
      simp [Tm.depth]; omega
theorem pres_depth : ∀ (ks : List Tm) (d : Nat), ∀ x ∈ pres d ks, x.1 + 1 ≤ d + depths ks ∧ d ≤ x.1
  | [], _, x, hx => by simp [pres] at hx
  | k :: ks, d, x, hx => by
    simp only [pres, List.mem_append] at hx
    simp only [depths]
    rcases hx with hx | hx
    · have := Tm.pre_depth k d x hx; omega
    · have := pres_depth ks d x hx; omega
end
mutual
theorem Tm.pre_deepest : ∀ (t : Tm) (d : Nat), ∃ x ∈ t.pre d, x.1 + 1 = d + t.depth
  | .mk nm st ks, d => by
    simp only [Tm.pre, Tm.depth]
    by_cases h : ks = []
    · subst h; exact ⟨_, List.mem_cons_self .., by simp [depths]⟩
    · obtain ⟨x, hx, he⟩ := pres_deepest ks (d + 1) h
      exact ⟨x, List.mem_cons_of_mem _ hx, by omega⟩
theorem pres_deepest : ∀ (ks : List Tm) (d : Nat), ks ≠ [] → ∃ x ∈ pres d ks, x.1 + 1 = d + depths ks
  | [], _, h => absurd rfl h
  | k :: ks, d, _ => by
    simp only [pres, depths, List.mem_append]
    obtain ⟨x, hx, he⟩ := Tm.pre_deepest k d
    by_cases h : ks = []
    · subst h; exact ⟨x, .inl hx, by simp [depths]; omega⟩
    · obtain ⟨y, hy, he'⟩ := pres_deepest ks d h
      rcases Nat.le_total k.depth (depths ks) with hl | hl
      · exact ⟨y, .inr hy, by rw [Nat.max_eq_right hl]; exact he'⟩
      · exact ⟨x, .inl hx, by rw [Nat.max_eq_left hl]; exact he⟩
end
mutual
theorem Tm.size_pos : ∀ t : Tm, 1 ≤ t.size
  | .mk _ _ _ => by simp [Tm.size]
end
mutual
theorem Tm.depth_le : ∀ t : Tm, 1 ≤ t.depth ∧ t.depth ≤ t.size
  | .mk _ _ ks => by have := depths_le ks; simp [Tm.depth, Tm.size]; omega
theorem depths_le : ∀ ks : List Tm, depths ks ≤ sizes ks
  | [] => Nat.le_refl _
  | k :: ks => by have := Tm.depth_le k; have := depths_le ks; simp [depths, sizes]; omega
end
theorem sizes_get : ∀ (ks : List Tm) (i : Nat) (k : Tm), ks[i]? = some k → k.size ≤ sizes ks ∧ k.depth ≤ depths ks
  | [], _, _, h => by simp at h
  | x :: ks, 0, k, h => by
    have e : x = k := by simpa using h
    subst e
    simp [sizes, depths]; omega
  | x :: ks, i + 1, k, h => by
    have := sizes_get ks i k (by simpa using h)
    simp [sizes, depths]; omega
theorem len_sizes : ∀ ks : List Tm, ks.length ≤ sizes ks
  | [] => Nat.le_refl _
  | k :: ks => by have := len_sizes ks; have := Tm.size_pos k; simp [sizes]; omega

/-- All names and lists are of lengths that a string or a slice may have. -/
inductive okT (m : Nat) : Tm → Prop
  | mk (nm st : ByteArray) (ks : List Tm) (h1 : nm.size ≤ m) (h2 : st.size ≤ m) (h3 : ks.length ≤ m) (h4 : ∀ k, k ∈ ks → okT m k) : okT m (.mk nm st ks)
theorem okT.nm {m : Nat} {t : Tm} (h : okT m t) : t.nm.size ≤ m := by cases h; assumption
theorem okT.st {m : Nat} {t : Tm} (h : okT m t) : t.st.size ≤ m := by cases h; assumption
theorem okT.len {m : Nat} {t : Tm} (h : okT m t) : t.ks.length ≤ m := by cases h; assumption
theorem okT.kid {m : Nat} {t k : Tm} (h : okT m t) (hk : k ∈ t.ks) : okT m k := by
  cases h with
  | mk _ _ _ _ _ _ h4 => exact h4 k hk
theorem okT.mono {m m' : Nat} (hm : m ≤ m') {t : Tm} (h : okT m t) : okT m' t := by
  induction h with
  | mk nm st ks h1 h2 h3 _ ih => exact .mk nm st ks (by omega) (by omega) (by omega) ih
mutual
theorem okT.pre {m : Nat} : ∀ (t : Tm) (d : Nat), okT m t → ∀ x ∈ t.pre d, okT m x.2
  | .mk nm st ks, d, h, x, hx => by
    simp only [Tm.pre, List.mem_cons] at hx
    rcases hx with rfl | hx
    · exact h
    · exact okT.pres ks (d + 1) (fun k hk => h.kid hk) x hx
theorem okT.pres {m : Nat} : ∀ (ks : List Tm) (d : Nat), (∀ k ∈ ks, okT m k) → ∀ x ∈ pres d ks, okT m x.2
  | [], _, _, x, hx => by simp [Go.Proofs.YthbcfcbonmphfaaGreatDoor.pres] at hx
  | k :: ks, d, h, x, hx => by
    simp only [Go.Proofs.YthbcfcbonmphfaaGreatDoor.pres, List.mem_append] at hx
    rcases hx with hx | hx
    · exact okT.pre k d (h k (by simp)) x hx
    · exact okT.pres ks d (fun k hk => h k (by simp [hk])) x hx
end

/-- The greatest depth among some nodes. -/
def maxd (l : List (Nat × Tm)) : Nat := l.foldl (fun m x => max m x.1) 0
theorem maxd_snoc (l : List (Nat × Tm)) (x : Nat × Tm) : maxd (l ++ [x]) = max (maxd l) x.1 := by unfold maxd; rw [List.foldl_append]; rfl
theorem maxd_is (l : List (Nat × Tm)) (m : Nat) (h : ∀ x, x ∈ l → x.1 ≤ m) (h' : ∃ x, x ∈ l ∧ x.1 = m) : maxd l = m := by
  have key : ∀ (l : List (Nat × Tm)) (a : Nat), (∀ x, x ∈ l → x.1 ≤ m) → a ≤ m → (a = m ∨ ∃ x, x ∈ l ∧ x.1 = m) → l.foldl (fun m x => max m x.1) a = m := by
    intro l
    induction l with
    | nil => intro a _ _ h; rcases h with h | ⟨x, hx, _⟩
             · exact h
             · cases hx
    | cons y l ih =>
      intro a h1 h2 h3
      rw [List.foldl_cons]
      refine ih _ (fun x hx => h1 x (by simp [hx])) (by have := h1 y (by simp); omega) ?_
      rcases h3 with h3 | ⟨x, hx, e⟩
      · left; have := h1 y (by simp); omega
      · rcases List.mem_cons.1 hx with rfl | hx
        · left; omega
        · exact .inr ⟨x, hx, e⟩
  exact key l 0 h (Nat.zero_le _) (.inr h')
theorem maxd_pre (t : Tm) : maxd (t.pre 1) = t.depth :=
  maxd_is _ _ (fun x hx => by have := (Tm.pre_depth t 1 x hx).1; omega) (by
    obtain ⟨x, hx, e⟩ := Tm.pre_deepest t 1
    exact ⟨x, hx, by omega⟩)

/-! ### what the functions of term say -/
def isV (t : Tm) : Bool := !t.st.toList.isEmpty
def namedT (t : Tm) : Bool := if isV t && (!isName t.st.toList || decide (0 < t.ks.length)) then false else isName t.nm.toList
def fitX (x : Nat × Tm) : Bool := decide (x.1 ≤ 60) && decide (x.2.ks.length ≤ 6)
def fitsL (l : List (Nat × Tm)) : Bool := decide (l.length ≤ 1000) && l.all fitX
def agreeL (l : List (Nat × Tm)) : Bool := l.all fun x => l.all fun y => !(isV x.2 && isV y.2 && decide (x.2.nm = y.2.nm)) || decide (x.2.st = y.2.st)
theorem agreeL_iff (l : List (Nat × Tm)) : agreeL l = true ↔ ∀ x ∈ l, ∀ y ∈ l, isV x.2 = true → isV y.2 = true → x.2.nm = y.2.nm → x.2.st = y.2.st := by
  unfold agreeL
  simp only [List.all_eq_true]
  refine ⟨fun h x hx y hy h1 h2 h3 => ?_, fun h x hx y hy => ?_⟩
  · have := h x hx y hy
    simpa [h1, h2, h3] using this
  · have := h x hx y hy
    cases h1 : isV x.2 <;> cases h2 : isV y.2 <;> simp
    by_cases h3 : x.2.nm = y.2.nm
    · right; exact this h1 h2 h3
    · left; exact h3
theorem agreeL_bad {l p : List (Nat × Tm)} (hp : ∀ x, x ∈ p → x ∈ l) {x y : Nat × Tm} (hx : x ∈ p) (hy : y ∈ p) (h1 : isV x.2 = true) (h2 : isV y.2 = true) (h3 : x.2.nm = y.2.nm) (h4 : x.2.st ≠ y.2.st) : agreeL l = false := by
  rw [Bool.eq_false_iff]
  intro h
  exact h4 ((agreeL_iff l).1 h x (hp x hx) y (hp y hy) h1 h2 h3)
def formed (t : Tm) : Bool := fitsL (t.pre 1) && (t.pre 1).all (fun x => namedT x.2) && agreeL (t.pre 1)

/-- The order of terms, as term.compare has it. -/
def bcmp (a b : ByteArray) : Int := Lib.compareBytes a.data.toList b.data.toList
def ncmp (a b : Nat) : Int := if a < b then -1 else if b < a then 1 else 0
mutual
def tcmp : Tm → Tm → Int
  | .mk n s ks, b =>
    if !s.toList.isEmpty && isV b then (if bcmp n b.nm ≠ 0 then bcmp n b.nm else bcmp s b.st)
    else if !s.toList.isEmpty then -1
    else if isV b then 1
    else if bcmp n b.nm ≠ 0 then bcmp n b.nm
    else if ncmp ks.length b.ks.length ≠ 0 then ncmp ks.length b.ks.length
    else tcmps ks b.ks
def tcmps : List Tm → List Tm → Int
  | [], _ => 0
  | _ :: _, [] => 0
  | k :: ks, l :: ls => if tcmp k l ≠ 0 then tcmp k l else tcmps ks ls
end
/-- The order of terms, as the reference has it. -/
def border (a b : ByteArray) : Int := if Go.Op.bytesLess a.toList b.toList then -1 else if Go.Op.bytesLess b.toList a.toList then 1 else 0
mutual
def rcmp : Tm → Tm → Int
  | .mk n s ks, b =>
    if (!s.toList.isEmpty) ≠ isV b then (if !s.toList.isEmpty then -1 else 1)
    else if bcmp n b.nm ≠ 0 then bcmp n b.nm
    else if bcmp s b.st ≠ 0 then bcmp s b.st
    else if ncmp ks.length b.ks.length ≠ 0 then ncmp ks.length b.ks.length
    else rcmps ks b.ks
def rcmps : List Tm → List Tm → Int
  | [], _ => 0
  | _ :: _, [] => 0
  | k :: ks, l :: ls => if rcmp k l ≠ 0 then rcmp k l else rcmps ks ls
end
end Go.Proofs.YthbcfcbonmphfaaGreatDoor
