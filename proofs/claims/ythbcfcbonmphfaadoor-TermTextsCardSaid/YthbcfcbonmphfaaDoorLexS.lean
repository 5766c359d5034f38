/- The plain functions that say what the package lex and its reference compute: no program text. -/
import Derived.Lib.Strings
namespace Go.Proofs.YthbcfcbonmphfaaDoor

def cls (c : Int) : Int :=
  if c = 32 ∨ c = 9 ∨ c = 13 then 1 else if c = 10 then 2 else if c = 35 then 3 else if (65 ≤ c ∧ c ≤ 90) ∨ (97 ≤ c ∧ c ≤ 122) then 4 else if 48 ≤ c ∧ c ≤ 57 then 5 else if c = 95 then 6 else 0

theorem cls_1 (c : Int) : cls c = 1 ↔ c = 32 ∨ c = 9 ∨ c = 13 := by unfold cls; (repeat' split) <;> omega
theorem cls_2 (c : Int) : cls c = 2 ↔ c = 10 := by unfold cls; (repeat' split) <;> omega
theorem cls_3 (c : Int) : cls c = 3 ↔ c = 35 := by unfold cls; (repeat' split) <;> omega
theorem cls_4 (c : Int) : cls c = 4 ↔ (65 ≤ c ∧ c ≤ 90) ∨ (97 ≤ c ∧ c ≤ 122) := by unfold cls; (repeat' split) <;> omega
theorem cls_5 (c : Int) : cls c = 5 ↔ 48 ≤ c ∧ c ≤ 57 := by unfold cls; (repeat' split) <;> omega
theorem cls_6 (c : Int) : cls c = 6 ↔ c = 95 := by unfold cls; (repeat' split) <;> omega
theorem cls_le (c : Int) : 0 ≤ cls c ∧ cls c ≤ 6 := by unfold cls; (repeat' split) <;> omega

/-- A byte that may stand in a word. -/
def isWI (c : Int) : Bool := decide (4 ≤ cls c)
def isW (c : UInt8) : Bool := isWI c.toNat
theorem isWI_iff (c : Int) : isWI c = true ↔ cls c = 4 ∨ cls c = 5 ∨ cls c = 6 := by
  unfold isWI; have := cls_le c; simp; omega

theorem isW_yes (c : UInt8) (h : (cls (c.toNat : Int) == 4) = true ∨ (cls (c.toNat : Int) == 5) = true ∨ (cls (c.toNat : Int) == 6) = true) : isW c = true := by
  unfold isW; rw [isWI_iff]; simpa using h
theorem isW_no (c : UInt8) (h4 : (cls (c.toNat : Int) == 4) = false) (h5 : (cls (c.toNat : Int) == 5) = false) (h6 : (cls (c.toNat : Int) == 6) = false) : isW c = false := by
  rw [Bool.eq_false_iff]; unfold isW; rw [ne_eq, isWI_iff]; simp at h4 h5 h6; omega

/-- The length of the longest word at the beginning. -/
def wl (l : List UInt8) : Nat := (l.takeWhile isW).length
theorem wl_le (l : List UInt8) : wl l ≤ l.length := (List.takeWhile_sublist _).length_le
theorem takeWhile_at (p : UInt8 → Bool) : ∀ (l : List UInt8) (k : Nat), (l.take k).all p = true → (k < l.length → (l[k]?.any p) = false) → k ≤ l.length → (l.takeWhile p).length = k
  | [], k, _, _, h => by simp at h; subst h; rfl
  | c :: l, 0, _, h2, _ => by
    have := h2 (by simp)
    simp at this
    simp [List.takeWhile, this]
  | c :: l, k + 1, h1, h2, h3 => by
    simp at h1
    have ih := takeWhile_at p l k (by simpa using h1.2) (fun h => by have := h2 (by simpa using h); simpa using this) (by simpa using h3)
    simp [List.takeWhile, h1.1, ih]
theorem take_all_snoc (p : UInt8 → Bool) (s : ByteArray) (k : Nat) (h : k < s.size) (h1 : (s.data.toList.take k).all p = true) (h2 : p s[k] = true) : (s.data.toList.take (k + 1)).all p = true := by
  rw [List.take_succ_eq_append_getElem (by simpa using h), List.all_append, h1]
  have : s.data.toList[k]'(by simpa using h) = s[k] := rfl
  simp [this, h2]
theorem get_any (p : UInt8 → Bool) (s : ByteArray) (k : Nat) (h : k < s.size) : (s.data.toList[k]?.any p) = p s[k] := by
  have : s.data.toList[k]? = some s[k] := by
    rw [List.getElem?_eq_getElem (by simpa using h)]; rfl
  rw [this]; rfl
theorem size_toList (s : ByteArray) : s.data.toList.length = s.size := (Lib.size_eq s).symm
theorem wl_at (s : ByteArray) (k : Nat) (h : k < s.size) (h1 : (s.data.toList.take k).all isW = true) (h2 : isW s[k] = false) : wl s.data.toList = k :=
  takeWhile_at isW _ k h1 (fun _ => by rw [get_any isW s k h, h2]) (by rw [size_toList]; omega)
theorem wl_end (s : ByteArray) (h1 : (s.data.toList.take s.size).all isW = true) : wl s.data.toList = s.size :=
  takeWhile_at isW _ s.size h1 (fun h => by rw [size_toList] at h; omega) (by rw [size_toList]; omega)

/-- The bytes before the end of the first line. -/
def notNl (c : UInt8) : Bool := decide (cls c.toNat ≠ 2)
def cl (l : List UInt8) : Nat := (l.takeWhile notNl).length
theorem cl_le (l : List UInt8) : cl l ≤ l.length := (List.takeWhile_sublist _).length_le
theorem cl_at (s : ByteArray) (k : Nat) (h : k < s.size) (h1 : (s.data.toList.take k).all notNl = true) (h2 : notNl s[k] = false) : cl s.data.toList = k :=
  takeWhile_at notNl _ k h1 (fun _ => by rw [get_any notNl s k h, h2]) (by rw [size_toList]; omega)
theorem cl_end (s : ByteArray) (h1 : (s.data.toList.take s.size).all notNl = true) : cl s.data.toList = s.size :=
  takeWhile_at notNl _ s.size h1 (fun h => by rw [size_toList] at h; omega) (by rw [size_toList]; omega)

/-- The keywords. -/
def kws : List (List UInt8) := [[116, 121, 112, 101], [118, 97, 114], [112, 114, 111, 99], [108, 111, 99, 97, 108], [109, 101, 97, 115, 117, 114, 101], [105, 110, 118, 97, 114, 105, 97, 110, 116],
  [112, 111, 116, 101, 110, 116, 105, 97, 108], [98, 111, 117, 110, 100], [105, 102], [101, 108, 115, 101], [119, 104, 105, 108, 101], [114, 101, 116, 117, 114, 110], [110, 101, 119], [110, 105, 108],
  [116, 114, 117, 101], [102, 97, 108, 115, 101], [97, 110, 100], [111, 114], [110, 111, 116], [109, 97, 120], [109, 105, 110], [108, 111, 103], [105, 110, 116], [98, 111, 111, 108], [116, 104, 105, 115],
  [115, 111, 114, 116], [111, 112], [114, 117, 108, 101], [115, 112, 101, 99], [100, 101, 115, 99], [115, 99, 114, 105, 112, 116]]
def isKw (l : List UInt8) : Bool := kws.any fun k => l == k

/-- The symbols. -/
def syms : List (List UInt8) := [[61, 61], [33, 61], [60, 61], [45, 62], [40], [41], [123], [125], [91], [93], [44], [59], [58], [46], [61], [60], [43], [45], [42], [47], [37]]
def isSym (l : List UInt8) : Bool := syms.any fun k => l == k

def isName (l : List UInt8) : Bool := decide (0 < l.length) && decide (l.length ≤ 40) && (l[0]?.any fun c => decide (cls c.toNat = 4)) && l.all isW && !isKw l

end Go.Proofs.YthbcfcbonmphfaaDoor

/- More plain functions: numbers, symbols, valid tokens. -/
namespace Go.Proofs.YthbcfcbonmphfaaDoor

/-- The value of a word of digits, read from an accumulator; none where it is no integer. -/
def numGo : List UInt8 → Nat → Option Nat
  | [], n => some n
  | c :: l, n => if cls c.toNat = 5 then (if 10 * n + (c.toNat - 48) ≤ 1099511627776 then numGo l (10 * n + (c.toNat - 48)) else none) else none
def number (l : List UInt8) : Option Nat := if 1 < l.length ∧ l[0]? = some 48 then none else numGo l 0
theorem numGo_le : ∀ (l : List UInt8) (n m : Nat), n ≤ 1099511627776 → numGo l n = some m → m ≤ 1099511627776
  | [], n, m, h, h2 => by simp [numGo] at h2; omega
  | c :: l, n, m, h, h2 => by
    unfold numGo at h2
    split at h2
    · split at h2
      · exact numGo_le l _ m ‹_› h2
      · cases h2
    · cases h2
theorem number_le (l : List UInt8) (m : Nat) (h : number l = some m) : m ≤ 1099511627776 := by
  unfold number at h
  split at h
  · cases h
  · exact numGo_le l 0 m (by omega) h
theorem drop_cons (s : ByteArray) (k : Nat) (h : k < s.size) : s.data.toList.drop k = s[k] :: s.data.toList.drop (k + 1) :=
  List.drop_eq_getElem_cons (by simpa using h)
theorem numGo_step (s : ByteArray) (k n : Nat) (h : k < s.size) (h5 : cls (s[k].toNat : Int) = 5) (hm : 10 * n + (s[k].toNat - 48) ≤ 1099511627776) :
    numGo (s.data.toList.drop k) n = numGo (s.data.toList.drop (k + 1)) (10 * n + (s[k].toNat - 48)) := by
  rw [drop_cons s k h, numGo, if_pos h5, if_pos hm]
theorem numGo_no (s : ByteArray) (k n : Nat) (h : k < s.size) (h5 : cls (s[k].toNat : Int) ≠ 5) : numGo (s.data.toList.drop k) n = none := by
  rw [drop_cons s k h, numGo, if_neg h5]
theorem numGo_big (s : ByteArray) (k n : Nat) (h : k < s.size) (hm : 1099511627776 < 10 * n + (s[k].toNat - 48)) : numGo (s.data.toList.drop k) n = none := by
  rw [drop_cons s k h, numGo]
  split
  · rw [if_neg (by omega)]
  · rfl
theorem numGo_end (s : ByteArray) (n : Nat) : numGo (s.data.toList.drop s.size) n = some n := by
  rw [List.drop_eq_nil_of_le (by rw [size_toList]; exact Nat.le_refl _), numGo]

def pairsL : List (List UInt8) := [[61, 61], [33, 61], [60, 61], [45, 62]]
def singles : List UInt8 := [40, 41, 123, 125, 91, 93, 44, 59, 58, 46, 61, 60, 43, 45, 42, 47, 37]
/-- The length of the longest symbol at the beginning. -/
def symLen (l : List UInt8) : Nat :=
  if decide (2 ≤ l.length) && pairsL.any (fun p => l.take 2 == p) then 2 else if l[0]?.any (fun c => singles.contains c) then 1 else 0
theorem isSym_eq (l : List UInt8) : (decide (0 < symLen l) && decide (symLen l = l.length)) = isSym l := by
  match l with
  | [] => decide
  | [a] =>
    have e : isSym [a] = singles.contains a := by rw [Bool.eq_iff_iff]; simp [isSym, syms, singles]
    rw [e]
    have e2 : symLen [a] = if singles.contains a then 1 else 0 := by simp [symLen]
    rw [e2]
    cases singles.contains a <;> simp
  | [a, b] =>
    have e : isSym [a, b] = pairsL.any (fun p => [a, b] == p) := by simp [isSym, syms, pairsL]
    rw [e]
    have e2 : symLen [a, b] = if pairsL.any (fun p => [a, b] == p) then 2 else if singles.contains a then 1 else 0 := by simp [symLen]
    rw [e2]
    cases pairsL.any (fun p => [a, b] == p) <;> cases singles.contains a <;> simp
  | a :: b :: c :: l =>
    have e : isSym (a :: b :: c :: l) = false := by simp [isSym, syms]
    rw [e]
    have : symLen (a :: b :: c :: l) ≤ 2 := by unfold symLen; (repeat' split) <;> omega
    simp
    intro _
    omega
theorem symLen_le (l : List UInt8) : symLen l ≤ l.length := by
  unfold symLen
  split
  · rename_i h; simp at h; exact h.1
  · split
    · rename_i h
      cases l with
      | nil => simp at h
      | cons a l => simp
    · omega

/-- Which tokens are valid. -/
def validT (k : Int) (s : List UInt8) (n : Int) : Bool :=
  if k = 1 then isName s && n == 0 else if k = 3 then isKw s && n == 0 else if k = 4 then isSym s && n == 0
  else if k = 2 then decide (s = []) && decide (0 ≤ n) && decide (n ≤ 1099511627776) else if k = 5 then decide (s = []) && n == 0 else false
end Go.Proofs.YthbcfcbonmphfaaDoor

/- The tokens of a text, as plain functions: no program text. -/
namespace Go.Proofs.YthbcfcbonmphfaaDoor

structure Tk where
  k : Int
  t : List UInt8
  n : Int
  a : Int
  b : Int

def wordTok (l : List UInt8) : Option (Int × List UInt8 × Int) :=
  if isKw l then some (3, l, 0) else if isName l then some (1, l, 0) else (number l).map fun (m : Nat) => ((2 : Int), ([] : List UInt8), (m : Int))
/-- The token at the beginning, and its length; none: a fault. -/
def tokOf (l : List UInt8) : Option (Int × List UInt8 × Int × Nat) :=
  if l = [] then some (5, [], 0, 0)
  else if 0 < wl l then (wordTok (l.take (wl l))).map fun x => (x.1, x.2.1, x.2.2, wl l)
  else if 0 < symLen l then some (4, l.take (symLen l), 0, symLen l) else none

/-- Past blanks and comments. -/
def skipF : Nat → List UInt8 → Int → Int → List UInt8 × Int × Int
  | 0, l, a, b => (l, a, b)
  | _ + 1, [], a, b => ([], a, b)
  | f + 1, c :: l, a, b =>
    if cls c.toNat = 1 then skipF f l a (b + 1) else if cls c.toNat = 2 then skipF f l (a + 1) 1
    else if cls c.toNat = 3 then skipF f ((c :: l).drop (cl (c :: l))) a (b + cl (c :: l)) else (c :: l, a, b)
def skip (l : List UInt8) (a b : Int) : List UInt8 × Int × Int := skipF l.length l a b

theorem cl_pos (c : UInt8) (l : List UInt8) (h : cls (c.toNat : Int) = 3) : 0 < cl (c :: l) := by
  unfold cl
  rw [List.takeWhile_cons_of_pos (by unfold notNl; rw [h]; rfl)]
  simp
theorem skipF_fuel : ∀ (f g : Nat) (l : List UInt8) (a b : Int), l.length ≤ f → l.length ≤ g → skipF f l a b = skipF g l a b
  | 0, 0, _, _, _, _, _ => rfl
  | 0, g + 1, [], _, _, _, _ => rfl
  | 0, _ + 1, _ :: _, _, _, h, _ => by simp at h
  | f + 1, 0, [], _, _, _, _ => rfl
  | _ + 1, 0, _ :: _, _, _, _, h => by simp at h
  | f + 1, g + 1, [], _, _, _, _ => rfl
  | f + 1, g + 1, c :: l, a, b, h1, h2 => by
    simp only [List.length_cons] at h1 h2
    unfold skipF
    split
    · exact skipF_fuel f g l _ _ (by omega) (by omega)
    · split
      · exact skipF_fuel f g l _ _ (by omega) (by omega)
      · split
        · rename_i h3
          have := cl_pos c l h3
          exact skipF_fuel f g _ _ _ (by simp; omega) (by simp; omega)
        · rfl
theorem skip_nil (a b : Int) : skip [] a b = ([], a, b) := rfl
theorem skip_1 (c : UInt8) (l : List UInt8) (a b : Int) (h : cls (c.toNat : Int) = 1) : skip (c :: l) a b = skip l a (b + 1) := by
  unfold skip; rw [List.length_cons, skipF, if_pos h]
theorem skip_2 (c : UInt8) (l : List UInt8) (a b : Int) (h : cls (c.toNat : Int) = 2) : skip (c :: l) a b = skip l (a + 1) 1 := by
  unfold skip; rw [List.length_cons, skipF, if_neg (by omega), if_pos h]
theorem skip_3 (c : UInt8) (l : List UInt8) (a b : Int) (h : cls (c.toNat : Int) = 3) : skip (c :: l) a b = skip ((c :: l).drop (cl (c :: l))) a (b + cl (c :: l)) := by
  unfold skip; rw [List.length_cons, skipF, if_neg (by omega), if_neg (by omega), if_pos h]
  have := cl_pos c l h
  exact skipF_fuel _ _ _ _ _ (by simp; omega) (Nat.le_refl _)
theorem skip_0 (c : UInt8) (l : List UInt8) (a b : Int) (h1 : cls (c.toNat : Int) ≠ 1) (h2 : cls (c.toNat : Int) ≠ 2) (h3 : cls (c.toNat : Int) ≠ 3) : skip (c :: l) a b = (c :: l, a, b) := by
  unfold skip; rw [List.length_cons, skipF, if_neg h1, if_neg h2, if_neg h3]
theorem skipF_len : ∀ (f : Nat) (l : List UInt8) (a b : Int), (skipF f l a b).1.length ≤ l.length
  | 0, _, _, _ => Nat.le_refl _
  | _ + 1, [], _, _ => Nat.le_refl _
  | f + 1, c :: l, a, b => by
    unfold skipF
    split
    · exact Nat.le_trans (skipF_len f l _ _) (by simp)
    · split
      · exact Nat.le_trans (skipF_len f l _ _) (by simp)
      · split
        · exact Nat.le_trans (skipF_len f _ _ _) (by simp)
        · exact Nat.le_refl _
theorem skip_len (l : List UInt8) (a b : Int) : (skip l a b).1.length ≤ l.length := skipF_len _ _ _ _

def toksF : Nat → List UInt8 → Int → Int → Except (Int × Int) (List Tk)
  | 0, _, a, b => .error (a, b)
  | f + 1, l, a, b =>
    match tokOf (skip l a b).1 with
    | none => .error (skip l a b).2
    | some (k, t, n, len) =>
      if k = 5 then .ok [⟨5, [], 0, (skip l a b).2.1, (skip l a b).2.2⟩]
      else match toksF f ((skip l a b).1.drop len) (skip l a b).2.1 ((skip l a b).2.2 + len) with
        | .error p => .error p
        | .ok r => .ok (⟨k, t, n, (skip l a b).2.1, (skip l a b).2.2⟩ :: r)
def toks (l : List UInt8) (a b : Int) : Except (Int × Int) (List Tk) := toksF (l.length + 1) l a b

theorem tokOf_len (l : List UInt8) (k : Int) (t : List UInt8) (n : Int) (len : Nat) (h : tokOf l = some (k, t, n, len)) : len ≤ l.length ∧ (k ≠ 5 → 0 < len) := by
  unfold tokOf at h
  split at h
  · simp at h; obtain ⟨rfl, _, _, rfl⟩ := h; exact ⟨by omega, fun h => absurd rfl h⟩
  · split at h
    · rename_i _ hw
      simp only [Option.map_eq_some_iff] at h
      obtain ⟨x, _, hx⟩ := h
      simp at hx
      obtain ⟨_, _, _, rfl⟩ := hx
      exact ⟨wl_le l, fun _ => hw⟩
    · split at h
      · rename_i _ _ hs
        simp at h
        obtain ⟨_, _, _, rfl⟩ := h
        exact ⟨symLen_le l, fun _ => hs⟩
      · cases h
theorem toksF_fuel : ∀ (f g : Nat) (l : List UInt8) (a b : Int), l.length < f → l.length < g → toksF f l a b = toksF g l a b
  | 0, _, _, _, _, h, _ => absurd h (by omega)
  | _ + 1, 0, _, _, _, _, h => absurd h (by omega)
  | f + 1, g + 1, l, a, b, h1, h2 => by
    unfold toksF
    cases ht : tokOf (skip l a b).1 with
    | none => rfl
    | some x =>
      obtain ⟨k, t, n, len⟩ := x
      simp only
      split
      · rfl
      · rename_i hk
        have hl := tokOf_len _ _ _ _ _ ht
        have hs := skip_len l a b
        have := hl.2 hk
        rw [toksF_fuel f g _ _ _ (by simp; omega) (by simp; omega)]

/-- What was read, and what is still to come. -/
def joinT (acc : List Tk) : Except (Int × Int) (List Tk) → Except (Int × Int) (List Tk)
  | .error p => .error p
  | .ok r => .ok (acc ++ r)
theorem joinT_nil (r : Except (Int × Int) (List Tk)) : joinT [] r = r := by cases r <;> rfl
theorem joinT_join (x y : List Tk) (r : Except (Int × Int) (List Tk)) : joinT x (joinT y r) = joinT (x ++ y) r := by cases r <;> simp [joinT]
theorem toks_bad (l : List UInt8) (a b : Int) (l' : List UInt8) (a' b' : Int) (hs : skip l a b = (l', a', b')) (ht : tokOf l' = none) : toks l a b = .error (a', b') := by
  unfold toks toksF; rw [hs]; simp only; rw [ht]
theorem toks_end (l : List UInt8) (a b : Int) (l' : List UInt8) (a' b' : Int) (hs : skip l a b = (l', a', b')) (t : List UInt8) (n : Int) (len : Nat) (ht : tokOf l' = some (5, t, n, len)) : toks l a b = .ok [⟨5, [], 0, a', b'⟩] := by
  unfold toks toksF; rw [hs]; simp only; rw [ht]; simp
theorem toks_step (l : List UInt8) (a b : Int) (l' : List UInt8) (a' b' : Int) (hs : skip l a b = (l', a', b')) (k : Int) (t : List UInt8) (n : Int) (len : Nat) (hk : k ≠ 5) (ht : tokOf l' = some (k, t, n, len)) :
    toks l a b = joinT [⟨k, t, n, a', b'⟩] (toks (l'.drop len) a' (b' + len)) := by
  have hl := tokOf_len _ _ _ _ _ ht
  have h2 := skip_len l a b
  rw [hs] at h2
  have := hl.2 hk
  unfold toks
  rw [toksF, hs]; simp only; rw [ht]; simp only; rw [if_neg hk, toksF_fuel l.length ((l'.drop len).length + 1) _ _ _ (by simp at h2 ⊢; omega) (by simp)]
  cases toksF ((l'.drop len).length + 1) (l'.drop len) a' (b' + len) <;> rfl
theorem tokOf_end (l : List UInt8) (t : List UInt8) (n : Int) (len : Nat) (ht : tokOf l = some (5, t, n, len)) : l = [] := by
  unfold tokOf at ht
  split at ht
  · assumption
  · split at ht
    · simp only [Option.map_eq_some_iff] at ht
      obtain ⟨x, hx, h⟩ := ht
      unfold wordTok at hx
      split at hx
      · simp at hx; subst hx; simp at h
      · split at hx
        · simp at hx; subst hx; simp at h
        · simp only [Option.map_eq_some_iff] at hx
          obtain ⟨m, _, hm⟩ := hx
          subst hm
          simp at h
    · split at ht
      · simp at ht
      · cases ht
end Go.Proofs.YthbcfcbonmphfaaDoor
