/- A []int that a call made, or nil, as a list. -/
import Derived.Test.YthnlcbeibhhjpaaApp
import Derived.Test.YthnlcbeibhhjpaaOrdL
namespace Go.Proofs.Ythnlcbeibhhjpaa
open Go.RowKit
set_option maxRecDepth 100000
/-- A list of numbers in memory that a call made, or nil. -/
def ORow (B : Nat) (w : World) (A : Option Addr) (cap : Nat) (L : List Int) : Prop := w.ownsRow B 3 1 (.slice A L.length cap) L.length (L.map (Value.int .i64))
theorem ORow.get {B : Nat} {w : World} {A : Option Addr} {cap : Nat} {L : List Int} (h : ORow B w A cap L) {k : Nat} {x : Int} (hk : L[k]? = some x) : ∃ g, A = some ⟨g, 0, none⟩ ∧ B ≤ g ∧ g < w.heap.size ∧ w.cell? ⟨g, k, none⟩ = some (.int .i64 x) := by
  have hl := (List.getElem?_eq_some_iff.1 hk).1
  obtain ⟨g, cap', hv, hg, hlt⟩ := World.ownsRow.form h (by omega)
  have hA : A = some ⟨g, 0, none⟩ := by injection hv
  subst hA
  refine ⟨g, rfl, hg, hlt, ?_⟩
  rw [World.ownsRow.cellAt h k (by omega), List.getElem?_map, hk]
  rfl
theorem ORow.below {B : Nat} {w w' : World} {A : Option Addr} {cap : Nat} {L : List Int} (h : ORow B w A cap L) (hb : Below w.heap.size w w') : ORow B w' A cap L :=
  ownsRow_heap h fun b hx => hb.block b (World.ownsRow.lt h b hx).2
theorem ORow.kp {B : Nat} {w w' : World} {A : Option Addr} {cap : Nat} {L : List Int} (h : ORow B w A cap L) (hk : Kp w w') : ORow B w' A cap L := by
  refine ⟨h.1, ?_⟩
  rcases h.2 with hn | ⟨g, cp, cur, hv, h1, hgg, rest⟩
  · exact .inl hn
  · exact .inr ⟨g, cp, cur, hv, h1, hk g _ _ _ hgg (by decide), rest⟩
theorem ORow.nil (B : Nat) (w : World) : ORow B w none 0 [] := World.ownsRow_nil _ _ _ _
theorem ORow.more {B B' : Nat} {w : World} {A : Option Addr} {cap : Nat} {L : List Int} (h : ORow B w A cap L) (hb : B' ≤ B) : ORow B' w A cap L := by
  refine ⟨h.1, ?_⟩
  rcases h.2 with hn | ⟨g, cp, cur, hv, h1, rest⟩
  · exact .inl hn
  · exact .inr ⟨g, cp, cur, hv, by omega, rest⟩
theorem ORow.len {B : Nat} {w : World} {A : Option Addr} {cap : Nat} {L : List Int} (h : ORow B w A cap L) : (A = none → L.length = 0 ∧ cap = 0) ∧ L.length ≤ cap ∧ cap ≤ maxLen := by
  rcases h.2 with ⟨hv, h0⟩ | ⟨g, cp, cur, hv, h1, _, h2, h3, _⟩
  · injection hv with h1 h2 h3
    exact ⟨fun _ => ⟨h0, h3⟩, by omega, by rw [h3]; unfold maxLen; omega⟩
  · injection hv with h1 h2 h4
    exact ⟨fun hn => (by rw [hn] at h1; cases h1), by omega, by omega⟩
end Go.Proofs.Ythnlcbeibhhjpaa
