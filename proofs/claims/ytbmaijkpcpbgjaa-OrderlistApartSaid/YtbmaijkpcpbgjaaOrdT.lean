/- The reference of layer 28: what InsertAfter and Delete leave. -/
import Derived.BigRegion
import Derived.Test.YtbmaijkpcpbgjaaOrdR
namespace Go.Proofs.Ytbmaijkpcpbgjaa
open Go.RowKit
set_option maxRecDepth 100000
theorem grown_row {NB g n cap : Nat} {e : TypeId} {xs : List Value} {W W1 : World} (h : W.ownsRow NB e 1 (.slice (some ⟨g, 0, none⟩) n cap) n xs) (hg : W.grownBy W1 (some g)) (hB : NB ≤ W.heap.size) : Below NB W W1 := by
  have hgl := (h.lt g rfl).1
  exact (Below.refl NB W).grown hg hB (fun k hk => by injection hk with hk; omega)
/-- What the reference's InsertAfter leaves: the list L' and the number. -/
def RIns (made : Nat) (L' : List Int) (w : World) (er : Ending) (w' : World) : Prop :=
  ∃ A cap, er = .returned (.tuple #[.agg #[.slice A L'.length cap, .int .i64 ((made : Int) + 1)], .int .i64 made, .int .i64 0]) ∧ ORow w.heap.size w' A cap L' ∧ Below w.heap.size w w'
theorem rins_end {made k n m g3 c3 NB : Nat} {L : List Int} {w w3 : World} {xs3 : List Value} {v1 v2 : Value} (hn : L.length = n) (hk : k ≤ n)
    (how : w3.ownsRow NB 3 1 (.slice (some ⟨g3, 0, none⟩) m c3) m xs3) (hm : m = n + 1) (hxs : xs3 = (insE L k (made : Int)).map (Value.int .i64)) (h1 : w.heap.size ≤ NB) (h2 : w.heap.size + 1 < NB) (hb : Below w.heap.size w w3) :
    RIns made (insE L k (made : Int)) w (.returned (.tuple #[.agg #[.slice (some ⟨g3, 0, none⟩) m c3, .int .i64 ((made : Int) + 1)], .int .i64 made, .int .i64 0])) (((w3.setCell ⟨w.heap.size + 1, 0, none⟩ v1).setCell ⟨w.heap.size + 1, 1, none⟩ v2).drew) := by
  have hl : (insE L k (made : Int)).length = m := by rw [insE_len _ _ (by omega), hn, hm]
  refine ⟨some ⟨g3, 0, none⟩, c3, by rw [hl], ?_, bdN ((hb.setCell (p := ⟨w.heap.size + 1, 0, none⟩) (by simp) _).setCell (p := ⟨w.heap.size + 1, 1, none⟩) (by simp) _) 1⟩
  have h4 := ownsRow_setCell_below (ownsRow_setCell_below how (a := ⟨w.heap.size + 1, 0, none⟩) h2 v1) (a := ⟨w.heap.size + 1, 1, none⟩) h2 v2
  rw [hxs, ← hl] at h4
  exact (ORow.more (B := NB) (B' := w.heap.size) (A := some ⟨g3, 0, none⟩) (cap := c3) h4 h1)
end Go.Proofs.Ytbmaijkpcpbgjaa
