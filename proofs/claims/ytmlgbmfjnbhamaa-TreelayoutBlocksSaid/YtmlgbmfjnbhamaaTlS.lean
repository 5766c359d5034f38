/- Plain: the orders in which a layout's nodes come, and the layout that an order gives. -/
import Derived.Test.YtmlgbmfjnbhamaaInts
namespace Go.Proofs.Ytmlgbmfjnbhamaa
set_option maxRecDepth 100000
/-- A list with the numbers from k on set at the places of S. -/
def setAll : List Int → Nat → List Nat → List Int
  | X, _, [] => X
  | X, k, v :: S => setAll (X.set v (k : Int)) (k + 1) S
theorem setAll_len : ∀ (S : List Nat) (X : List Int) (k : Nat), (setAll X k S).length = X.length
  | [], X, k => rfl
  | v :: S, X, k => by
    show (setAll (X.set v (k : Int)) (k + 1) S).length = _
    rw [setAll_len S, List.length_set]
theorem setAll_app : ∀ (S T : List Nat) (X : List Int) (k : Nat), setAll X k (S ++ T) = setAll (setAll X k S) (k + S.length) T
  | [], T, X, k => rfl
  | v :: S, T, X, k => by
    show setAll (X.set v (k : Int)) (k + 1) (S ++ T) = setAll (setAll (X.set v (k : Int)) (k + 1) S) _ T
    rw [setAll_app S T, show k + 1 + S.length = k + (v :: S).length by simp; omega]
/-- The layout of n nodes that come in the order S. -/
def layF (n : Nat) (S : List Nat) : List Int := setAll (List.replicate n 0) 0 S
theorem layF_len (n : Nat) (S : List Nat) : (layF n S).length = n := by unfold layF; rw [setAll_len]; simp
theorem layF_snoc (n : Nat) (S : List Nat) (v : Nat) : layF n (S ++ [v]) = (layF n S).set v (S.length : Int) := by
  unfold layF
  rw [setAll_app, Nat.zero_add]
  rfl
theorem setAll_bd : ∀ (S : List Nat) (X : List Int) (k m : Nat), k + S.length ≤ m → (∀ x ∈ X, 0 ≤ x ∧ x < (m : Int) ∨ x = 0) → ∀ x ∈ setAll X k S, 0 ≤ x ∧ x < (m : Int) ∨ x = 0
  | [], X, k, m, _, h => h
  | v :: S, X, k, m, hm, h => by
    rw [List.length_cons] at hm
    refine setAll_bd S (X.set v (k : Int)) (k + 1) m (by omega) (fun x hx => ?_)
    rcases List.mem_or_eq_of_mem_set hx with h1 | h1
    · exact h x h1
    · left; omega
/-- Each number of a layout is one of a position. -/
theorem layF_bd {n : Nat} {S : List Nat} (hS : S.length ≤ n) {v : Nat} {x : Int} (hx : (layF n S)[v]? = some x) : 0 ≤ x ∧ x < (n : Int) := by
  have hv : v < n := by have := (List.getElem?_eq_some_iff.1 hx).1; rw [layF_len] at this; exact this
  have h1 := setAll_bd S (List.replicate n 0) 0 n (by omega) (fun x hx => Or.inr (List.eq_of_mem_replicate hx)) x (List.mem_of_getElem? hx)
  omega
/-- The nodes below v, in order (2) or from the root down (3). -/
def ordW (n kind : Nat) : Nat → Nat → List Nat
  | 0, _ => []
  | f + 1, v => if n ≤ v then [] else (if kind = 3 then [v] else []) ++ ordW n kind f (2 * v + 1) ++ (if kind = 2 then [v] else []) ++ ordW n kind f (2 * v + 2)
theorem ordW_len (n kind : Nat) : ∀ f v, (ordW n kind f v).length + 1 ≤ 2 ^ f
  | 0, v => by simp [ordW]
  | f + 1, v => by
    have h1 := ordW_len n kind f (2 * v + 1)
    have h2 := ordW_len n kind f (2 * v + 2)
    rw [Nat.pow_succ]
    unfold ordW
    split
    · simp; omega
    · rw [List.length_append, List.length_append, List.length_append]
      have h3 : (if kind = 3 then [v] else []).length + (if kind = 2 then [v] else []).length ≤ 1 := by
        by_cases h : kind = 3
        · rw [if_pos h, if_neg (by omega)]; simp
        · rw [if_neg h]; split <;> simp
      omega
theorem ordW_out {n kind f v : Nat} (h : n ≤ v) : ordW n kind f v = [] := by
  cases f with
  | zero => rfl
  | succ f => unfold ordW; rw [if_pos h]
/-- The nodes of the tree of a height with the root v, a top tree ahead of its bottom trees. -/
def ordE : Nat → Nat → Nat → List Nat
  | 0, _, _ => []
  | f + 1, v, h => if h = 1 then [v] else ordE f v (h - h / 2) ++ (List.range (2 ^ (h - h / 2))).flatMap fun i => ordE f ((v + 1) * 2 ^ (h - h / 2) - 1 + i) (h / 2)
theorem flat_len {f : Nat → List Nat} {m : Nat} : ∀ l : List Nat, (∀ i ∈ l, (f i).length ≤ m) → (l.flatMap f).length ≤ l.length * m
  | [], _ => by simp
  | a :: l, h => by
    rw [List.flatMap_cons, List.length_append, List.length_cons]
    have h1 := h a (by simp)
    have h2 := flat_len l (fun i hi => h i (by simp [hi]))
    rw [Nat.succ_mul]
    omega
theorem ordE_len : ∀ f v h, 1 ≤ h → (ordE f v h).length + 1 ≤ 2 ^ h
  | 0, v, h, hh => by
    have : 1 ≤ 2 ^ h := Nat.one_le_two_pow
    simp [ordE]; omega
  | f + 1, v, h, hh => by
    unfold ordE
    split
    · rename_i h1; subst h1; simp
    · rename_i h1
      have e1 := ordE_len f v (h - h / 2) (by omega)
      have e2 : ∀ i ∈ List.range (2 ^ (h - h / 2)), (ordE f ((v + 1) * 2 ^ (h - h / 2) - 1 + i) (h / 2)).length ≤ 2 ^ (h / 2) - 1 := fun i _ => by
        have := ordE_len f ((v + 1) * 2 ^ (h - h / 2) - 1 + i) (h / 2) (by omega)
        omega
      have e3 := flat_len (List.range (2 ^ (h - h / 2))) e2
      rw [List.length_range] at e3
      rw [List.length_append]
      have e4 : 2 ^ h = 2 ^ (h - h / 2) * 2 ^ (h / 2) := by rw [← Nat.pow_add]; congr 1; omega
      have e5 : 1 ≤ 2 ^ (h / 2) := Nat.one_le_two_pow
      rw [Nat.mul_sub, Nat.mul_one, ← e4] at e3
      have e6 : 2 ^ (h - h / 2) ≤ 2 ^ h := Nat.pow_le_pow_right (by omega) (by omega)
      omega
/-- The order of a kind and a height. -/
def ordK (kind h : Nat) : List Nat := if kind = 1 then List.range (2 ^ h - 1) else if kind = 4 then ordE h 0 h else ordW (2 ^ h - 1) kind h 0
theorem ordK_len (kind h : Nat) (hh : 1 ≤ h) : (ordK kind h).length ≤ 2 ^ h - 1 := by
  unfold ordK
  split
  · simp
  · split
    · have := ordE_len h 0 h hh; omega
    · have := ordW_len (2 ^ h - 1) kind h 0; omega
/-- The layout of a kind and a height. -/
def layK (kind h : Nat) : List Int := layF (2 ^ h - 1) (ordK kind h)
theorem layK_len (kind h : Nat) : (layK kind h).length = 2 ^ h - 1 := layF_len _ _
theorem layK_bd {kind h : Nat} (hh : 1 ≤ h) {v : Nat} {x : Int} (hx : (layK kind h)[v]? = some x) : 0 ≤ x ∧ x < ((2 ^ h - 1 : Nat) : Int) := layF_bd (ordK_len kind h hh) hx
theorem awLay : layK 4 4 = [0, 1, 2, 3, 6, 9, 12, 4, 5, 7, 8, 10, 11, 13, 14] := by decide
end Go.Proofs.Ytmlgbmfjnbhamaa
