/- Joined tokens, as plain functions: no program text. -/
import Derived.Test.YthbcfcbonmphfaaDoorLexS
namespace Go.Proofs.YthbcfcbonmphfaaDoor
set_option maxRecDepth 100000

/-- The decimal digits of a number below ten to the k. -/
def decF : Nat → Nat → List UInt8
  | 0, _ => []
  | k + 1, n => if n < 10 then [UInt8.ofNat (48 + n)] else decF k (n / 10) ++ [UInt8.ofNat (48 + n % 10)]
def dec (n : Nat) : List UInt8 := decF 13 n
theorem decF_len : ∀ (k n : Nat), (decF k n).length ≤ k
  | 0, _ => by simp [decF]
  | k + 1, n => by
    unfold decF
    split
    · simp
    · have := decF_len k (n / 10); simp; omega

def tkText (t : Tk) : List UInt8 := if t.k = 2 then dec t.n.toNat else t.t
def tkOk (L : List Tk) (i : Nat) (t : Tk) : Bool := validT t.k t.t t.n && !(decide (t.k = 5) && decide (i + 1 ≠ L.length))
/-- Are the tokens from the i-th on valid, and is an end the last one? -/
def jval (L : List Tk) : Bool := (List.range L.length).all fun i => L[i]?.all fun t => tkOk L i t
/-- The text behind the i-th token. -/
def jgo : List Tk → Bool → List UInt8 → Option (List UInt8)
  | [], _, acc => some acc
  | t :: L, first, acc => if t.k = 5 then some acc else if 65536 < ((acc ++ (if first then [] else [32])) ++ tkText t).length then none else jgo L false ((acc ++ (if first then [] else [32])) ++ tkText t)
def jres (L : List Tk) : List UInt8 × Int := if jval L then (match jgo L true [] with | some x => (x, 0) | none => ([], 4)) else ([], 1)
theorem jres_bad (L : List Tk) (i : Nat) (t : Tk) (h : L[i]? = some t) (hb : tkOk L i t = false) : jres L = ([], 1) := by
  unfold jres
  rw [if_neg]
  intro hv
  unfold jval at hv
  rw [List.all_eq_true] at hv
  have hi : i < L.length := (List.getElem?_eq_some_iff.1 h).1
  have := hv i (List.mem_range.2 hi)
  rw [h] at this
  simp [hb] at this
def jvalTo (L : List Tk) (k : Nat) : Prop := ∀ i t, i < k → L[i]? = some t → tkOk L i t = true
theorem jval_of (L : List Tk) (h : jvalTo L L.length) : jval L = true := by
  unfold jval
  rw [List.all_eq_true]
  intro i hi
  have hi := List.mem_range.1 hi
  rw [List.getElem?_eq_getElem hi]
  exact h i _ hi (List.getElem?_eq_getElem hi)
theorem jvalTo_snoc (L : List Tk) (k : Nat) (t : Tk) (h : jvalTo L k) (ht : L[k]? = some t) (h2 : tkOk L k t = true) : jvalTo L (k + 1) := by
  intro i u hi hu
  rcases Nat.lt_or_ge i k with hl | hl
  · exact h i u hl hu
  · have : i = k := by omega
    subst this
    rw [ht] at hu
    rw [← Option.some.inj hu]
    exact h2
theorem drop_of (L : List Tk) (k : Nat) (t : Tk) (h : L[k]? = some t) : L.drop k = t :: L.drop (k + 1) := by
  obtain ⟨hk, rfl⟩ := List.getElem?_eq_some_iff.1 h
  exact List.drop_eq_getElem_cons hk
end Go.Proofs.YthbcfcbonmphfaaDoor
