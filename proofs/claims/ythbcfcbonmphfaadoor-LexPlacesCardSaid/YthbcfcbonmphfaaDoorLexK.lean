/- The tokens of a text, as plain functions: no program text. -/
import Derived.Test.YthbcfcbonmphfaaDoorLexT
namespace Go.Proofs.YthbcfcbonmphfaaDoor

structure Tk where
  k : Int
  t : List UInt8
  n : Int
  a : Int
  b : Int

def wordTok (l : List UInt8) : Option (Int × List UInt8 × Int) :=
  if isKw l then some (3, l, 0) else if isName l then some (1, l, 0) else (number l).map fun (m : Nat) => ((2 : Int), ([] : List UInt8), (m : Int))
/-- The token at the beginning, and its length; none: a fault. -/
def tokOf (l : List UInt8) : Option (Int × List UInt8 × Int × Nat) :=
  if l = [] then some (5, [], 0, 0)
  else if 0 < wl l then (wordTok (l.take (wl l))).map fun x => (x.1, x.2.1, x.2.2, wl l)
  else if 0 < symLen l then some (4, l.take (symLen l), 0, symLen l) else none

/-- Past blanks and comments. -/
def skipF : Nat → List UInt8 → Int → Int → List UInt8 × Int × Int
  | 0, l, a, b => (l, a, b)
  | _ + 1, [], a, b => ([], a, b)
  | f + 1, c :: l, a, b =>
    if cls c.toNat = 1 then skipF f l a (b + 1) else if cls c.toNat = 2 then skipF f l (a + 1) 1
    else if cls c.toNat = 3 then skipF f ((c :: l).drop (cl (c :: l))) a (b + cl (c :: l)) else (c :: l, a, b)
def skip (l : List UInt8) (a b : Int) : List UInt8 × Int × Int := skipF l.length l a b

theorem cl_pos (c : UInt8) (l : List UInt8) (h : cls (c.toNat : Int) = 3) : 0 < cl (c :: l) := by
  unfold cl
  rw [List.takeWhile_cons_of_pos (by unfold notNl; rw [h]; rfl)]
  simp
theorem skipF_fuel : ∀ (f g : Nat) (l : List UInt8) (a b : Int), l.length ≤ f → l.length ≤ g → skipF f l a b = skipF g l a b
  | 0, 0, _, _, _, _, _ => rfl
  | 0, g + 1, [], _, _, _, _ => rfl
  | 0, _ + 1, _ :: _, _, _, h, _ => by simp at h
  | f + 1, 0, [], _, _, _, _ => rfl
  | _ + 1, 0, _ :: _, _, _, _, h => by simp at h
  | f + 1, g + 1, [], _, _, _, _ => rfl
  | f + 1, g + 1, c :: l, a, b, h1, h2 => by
    simp only [List.length_cons] at h1 h2
    unfold skipF
    split
    · exact skipF_fuel f g l _ _ (by omega) (by omega)
    · split
      · exact skipF_fuel f g l _ _ (by omega) (by omega)
      · split
        · rename_i h3
          have := cl_pos c l h3
          exact skipF_fuel f g _ _ _ (by simp; omega) (by simp; omega)
        · rfl
theorem skip_nil (a b : Int) : skip [] a b = ([], a, b) := rfl
theorem skip_1 (c : UInt8) (l : List UInt8) (a b : Int) (h : cls (c.toNat : Int) = 1) : skip (c :: l) a b = skip l a (b + 1) := by
  unfold skip; rw [List.length_cons, skipF, if_pos h]
theorem skip_2 (c : UInt8) (l : List UInt8) (a b : Int) (h : cls (c.toNat : Int) = 2) : skip (c :: l) a b = skip l (a + 1) 1 := by
  unfold skip; rw [List.length_cons, skipF, if_neg (by omega), if_pos h]
theorem skip_3 (c : UInt8) (l : List UInt8) (a b : Int) (h : cls (c.toNat : Int) = 3) : skip (c :: l) a b = skip ((c :: l).drop (cl (c :: l))) a (b + cl (c :: l)) := by
  unfold skip; rw [List.length_cons, skipF, if_neg (by omega), if_neg (by omega), if_pos h]
  have := cl_pos c l h
  exact skipF_fuel _ _ _ _ _ (by simp; omega) (Nat.le_refl _)
theorem skip_0 (c : UInt8) (l : List UInt8) (a b : Int) (h1 : cls (c.toNat : Int) ≠ 1) (h2 : cls (c.toNat : Int) ≠ 2) (h3 : cls (c.toNat : Int) ≠ 3) : skip (c :: l) a b = (c :: l, a, b) := by
  unfold skip; rw [List.length_cons, skipF, if_neg h1, if_neg h2, if_neg h3]
theorem skipF_len : ∀ (f : Nat) (l : List UInt8) (a b : Int), (skipF f l a b).1.length ≤ l.length
  | 0, _, _, _ => Nat.le_refl _
  | _ + 1, [], _, _ => Nat.le_refl _
  | f + 1, c :: l, a, b => by
    unfold skipF
    split
    · exact Nat.le_trans (skipF_len f l _ _) (by simp)
    · split
      · exact Nat.le_trans (skipF_len f l _ _) (by simp)
      · split
        · exact Nat.le_trans (skipF_len f _ _ _) (by simp)
        · exact Nat.le_refl _
theorem skip_len (l : List UInt8) (a b : Int) : (skip l a b).1.length ≤ l.length := skipF_len _ _ _ _

def toksF : Nat → List UInt8 → Int → Int → Except (Int × Int) (List Tk)
  | 0, _, a, b => .error (a, b)
  | f + 1, l, a, b =>
    match tokOf (skip l a b).1 with
    | none => .error (skip l a b).2
    | some (k, t, n, len) =>
      if k = 5 then .ok [⟨5, [], 0, (skip l a b).2.1, (skip l a b).2.2⟩]
      else match toksF f ((skip l a b).1.drop len) (skip l a b).2.1 ((skip l a b).2.2 + len) with
        | .error p => .error p
        | .ok r => .ok (⟨k, t, n, (skip l a b).2.1, (skip l a b).2.2⟩ :: r)
def toks (l : List UInt8) (a b : Int) : Except (Int × Int) (List Tk) := toksF (l.length + 1) l a b

theorem tokOf_len (l : List UInt8) (k : Int) (t : List UInt8) (n : Int) (len : Nat) (h : tokOf l = some (k, t, n, len)) : len ≤ l.length ∧ (k ≠ 5 → 0 < len) := by
  unfold tokOf at h
  split at h
  · simp at h; obtain ⟨rfl, _, _, rfl⟩ := h; exact ⟨by omega, fun h => absurd rfl h⟩
  · split at h
    · rename_i _ hw
      simp only [Option.map_eq_some_iff] at h
      obtain ⟨x, _, hx⟩ := h
      simp at hx
      obtain ⟨_, _, _, rfl⟩ := hx
      exact ⟨wl_le l, fun _ => hw⟩
    · split at h
      · rename_i _ _ hs
        simp at h
        obtain ⟨_, _, _, rfl⟩ := h
        exact ⟨symLen_le l, fun _ => hs⟩
      · cases h
theorem toksF_fuel : ∀ (f g : Nat) (l : List UInt8) (a b : Int), l.length < f → l.length < g → toksF f l a b = toksF g l a b
  | 0, _, _, _, _, h, _ => absurd h (by omega)
  | _ + 1, 0, _, _, _, _, h => absurd h (by omega)
  | f + 1, g + 1, l, a, b, h1, h2 => by
    unfold toksF
    cases ht : tokOf (skip l a b).1 with
    | none => rfl
    | some x =>
      obtain ⟨k, t, n, len⟩ := x
      simp only
      split
      · rfl
      · rename_i hk
        have hl := tokOf_len _ _ _ _ _ ht
        have hs := skip_len l a b
        have := hl.2 hk
        rw [toksF_fuel f g _ _ _ (by simp; omega) (by simp; omega)]

/-- What was read, and what is still to come. -/
def joinT (acc : List Tk) : Except (Int × Int) (List Tk) → Except (Int × Int) (List Tk)
  | .error p => .error p
  | .ok r => .ok (acc ++ r)
theorem joinT_nil (r : Except (Int × Int) (List Tk)) : joinT [] r = r := by cases r <;> rfl
theorem joinT_join (x y : List Tk) (r : Except (Int × Int) (List Tk)) : joinT x (joinT y r) = joinT (x ++ y) r := by cases r <;> simp [joinT]
theorem toks_bad (l : List UInt8) (a b : Int) (l' : List UInt8) (a' b' : Int) (hs : skip l a b = (l', a', b')) (ht : tokOf l' = none) : toks l a b = .error (a', b') := by
  unfold toks toksF; rw [hs]; simp only; rw [ht]
theorem toks_end (l : List UInt8) (a b : Int) (l' : List UInt8) (a' b' : Int) (hs : skip l a b = (l', a', b')) (t : List UInt8) (n : Int) (len : Nat) (ht : tokOf l' = some (5, t, n, len)) : toks l a b = .ok [⟨5, [], 0, a', b'⟩] := by
  unfold toks toksF; rw [hs]; simp only; rw [ht]; simp
theorem toks_step (l : List UInt8) (a b : Int) (l' : List UInt8) (a' b' : Int) (hs : skip l a b = (l', a', b')) (k : Int) (t : List UInt8) (n : Int) (len : Nat) (hk : k ≠ 5) (ht : tokOf l' = some (k, t, n, len)) :
    toks l a b = joinT [⟨k, t, n, a', b'⟩] (toks (l'.drop len) a' (b' + len)) := by
  have hl := tokOf_len _ _ _ _ _ ht
  have h2 := skip_len l a b
  rw [hs] at h2
  have := hl.2 hk
  unfold toks
  rw [toksF, hs]; simp only; rw [ht]; simp only; rw [if_neg hk, toksF_fuel l.length ((l'.drop len).length + 1) _ _ _ (by simp at h2 ⊢; omega) (by simp)]
  cases toksF ((l'.drop len).length + 1) (l'.drop len) a' (b' + len) <;> rfl
theorem tokOf_end (l : List UInt8) (t : List UInt8) (n : Int) (len : Nat) (ht : tokOf l = some (5, t, n, len)) : l = [] := by
  unfold tokOf at ht
  split at ht
  · assumption
  · split at ht
    · simp only [Option.map_eq_some_iff] at ht
      obtain ⟨x, hx, h⟩ := ht
      unfold wordTok at hx
      split at hx
      · simp at hx; subst hx; simp at h
      · split at hx
        · simp at hx; subst hx; simp at h
        · simp only [Option.map_eq_some_iff] at hx
          obtain ⟨m, _, hm⟩ := hx
          subst hm
          simp at h
    · split at ht
      · simp at ht
      · cases ht
end Go.Proofs.YthbcfcbonmphfaaDoor
