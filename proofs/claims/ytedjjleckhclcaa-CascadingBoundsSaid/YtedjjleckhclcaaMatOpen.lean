/- A slice of slices of integers that came in, as plain lists. -/
import Derived.Test.YtedjjleckhclcaaInts
import Derived.ProofKit
import Derived.Deep.Matrix
namespace Go.Proofs.Ytedjjleckhclcaa
open Go.RowKit Go.WideShapes Go.ChangeShapes Go.Deep

theorem cell_lt {w : World} {a : Addr} {v : Value} (h : w.cell? a = some v) : a.block < w.heap.size ∧ a = ⟨a.block, a.off, none⟩ := by
  unfold World.cell? at h
  split at h
  · rename_i c e f hc
    refine ⟨(Array.getElem?_eq_some_iff.1 hc).1, ?_⟩
    split at h
    · cases h
    · rename_i hs
      cases a with
      | mk b o s =>
        cases s with
        | none => rfl
        | some x => simp at hs
  · cases h
theorem add_at {a : Addr} (h : a = ⟨a.block, a.off, none⟩) (n : Nat) : a.add n = ⟨a.block, a.off + n, none⟩ := by
  unfold Addr.add
  split
  · subst_vars; exact h
  · rfl

theorem rows_open {H : Type} {enc : TypeId × Value → H} {P : Program} {W : World} {base : Nat} {held : Bool} {t e q : TypeId} {v : Value} {d : DataW H} {p : List MemPlace} (ht : P.underlying t = some (.slice e)) (he : P.underlying e = some (.slice q)) (hq : P.underlying q = some (.int .i64))
    (ce : P.cellsOf e = 1) (cq : P.cellsOf q = 1) (hv : Value.okWide P W .any base t v) (h : DataW.Trod enc P W 0 (fun _ => true) held t v d p) : ∃ (A : Option Addr) (cp : Nat) (M : List (List Int)), v = .slice A M.length cp ∧ M.length ≤ maxLen ∧ RowsAt (· < W.heap.size) W A M := by
  obtain ⟨fuel, hf⟩ := h
  rcases open_int_rows ht he hq ce cq hf with ⟨hc, _⟩ | ⟨a, len, cap, A, L, C, Z, hc, _, hl, hm, _, hx⟩
  · refine ⟨none, 0, [], ?_, by decide, fun h => absurd h (by decide)⟩
    cases v <;> simp only [Value.cells, List.cons.injEq, and_true] at hc <;> first | exact hc | skip
    simp [Value.okWide, Cell.okWide, ht, Cell.ok] at hv
  · have hlen : ((List.range len).map fun r => (Z r).take (L r)).length = len := by simp
    refine ⟨some a, cap, (List.range len).map fun r => (Z r).take (L r), ?_, by rw [hlen]; omega, fun h0 => ?_⟩
    · rw [hlen]
      cases v <;> simp only [Value.cells, List.cons.injEq, and_true] at hc <;> first | exact hc | skip
      simp [Value.okWide, Cell.okWide, ht, Cell.ok] at hv
    · rw [hlen] at h0
      have c0 := (hx 0 (by omega)).1
      have ha := cell_lt c0
      have hae : a = ⟨a.block, a.off, none⟩ := ha.2
      refine ⟨a.block, a.off, by rw [← hae], ha.1, fun i l hi => ?_⟩
      rw [List.getElem?_map] at hi
      have hil : i < len := by
        rcases Nat.lt_or_ge i len with h | h
        · exact h
        · rw [List.getElem?_eq_none (by simpa using h)] at hi; cases hi
      rw [List.getElem?_range hil] at hi
      have hi' : (Z i).take (L i) = l := by simpa using hi
      obtain ⟨h1, h2, h3, h4, _, h6, h7⟩ := hx i (by omega)
      have hll : l.length = L i := by rw [← hi', List.length_take]; omega
      refine ⟨A i, C i, by rw [hll, ← add_at hae]; exact h1, by omega, h3, fun hp => ?_⟩
      cases hA : A i with
      | none => have := h6 hA; omega
      | some a' =>
        obtain ⟨_, hz⟩ := h7 a' hA
        have g0 := hz 0 (by omega)
        have ga := cell_lt g0
        have gae : a' = ⟨a'.block, a'.off, none⟩ := ga.2
        refine ⟨a'.block, a'.off, by rw [← gae], ga.1, fun j x hj => ?_⟩
        have hjl : j < l.length := (List.getElem?_eq_some_iff.1 hj).1
        have hz2 := hz j (by omega)
        rw [add_at gae] at hz2
        rw [hz2]
        rw [← hi', List.getElem?_take, if_pos (by omega)] at hj
        rw [List.getD_eq_getElem?_getD, hj]
        rfl
end Go.Proofs.Ytedjjleckhclcaa
