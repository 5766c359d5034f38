/- What the append to the elements, and the two stores behind it, do. -/
import Derived.Test.YthnlcbeibhhjpaaOrdH
namespace Go.Proofs.Ythnlcbeibhhjpaa
open Go.RowKit
set_option maxRecDepth 100000
theorem set_alloc {w : World} {o : Obj} {b i : Nat} {v : Value} (h : b < w.heap.size) : (w.alloc o).setCell ⟨b, i, none⟩ v = (w.setCell ⟨b, i, none⟩ v).alloc o := by
  unfold World.setCell World.alloc
  simp only [World.mk.injEq, and_self, and_true]
  apply Array.ext_getElem?
  intro j
  rw [Array.getElem?_modify, Array.getElem?_push, Array.getElem?_push, Array.getElem?_modify, Array.size_modify]
  by_cases hj : b = j
  · subst hj
    rw [if_pos rfl, if_pos rfl, if_neg (by omega), if_neg (by omega)]
  · rw [if_neg hj, if_neg hj]
/-- The list behind an insertion. -/
theorem OL.finish {B x cap made n g2 cap2 : Nat} {G : Option Addr} {mv : Int} {E' : List El} {V W6 : World} {o : Obj} {xs : List Value} (hc : Chain 84 E' V)
    (hbox : V.heap[x]? = some (.cells #[.slice G made cap, .pointer (ptrE E' 0), .int .i64 n, .int .i64 mv] 80 (0, 0)))
    (hrow : V.ownsRow B 78 1 (.slice G made cap) made xs)
    (hg : (V.alloc o).grownBy W6 (Value.slice G made cap).ownBlock)
    (hown : W6.ownsRow B 78 1 (.slice (some ⟨g2, 0, none⟩) (made + 1) cap2) (made + 1) (rowE E' (made + 1)))
    (hlow : ∀ e ∈ E', B ≤ e.adr ∧ e.num < made + 1) (hn : E'.length = n + 1) :
    OL B x (some ⟨g2, 0, none⟩) cap2 (made + 1) mv E' ((W6.setCell ⟨x, 0, none⟩ (.slice (some ⟨g2, 0, none⟩) (made + 1) cap2)).setCell ⟨x, 2, none⟩ (.int .i64 ((n : Int) + 1))) := by
  have hcell : ∀ {b : Nat} {cs : Array Value} {t : TypeId}, V.heap[b]? = some (.cells cs t (0, 0)) → t ≠ 78 → W6.heap[b]? = some (.cells cs t (0, 0)) := fun {b cs t} hb ht => by
    have hlt := bdLt hb
    rw [hg.block b (by simp; omega) (fun hr => by
      rcases hrow.2 with ⟨hv, _⟩ | ⟨g, cp, cur, hv, _, hh, _⟩
      · rw [hv] at hr; cases hr
      · rw [hv] at hr
        have hgb : b = g := by simpa [Value.ownBlock] using hr
        rw [hgb, hh] at hb
        have := Option.some.inj hb
        injection this with _ h3
        exact ht h3.symm), Below.heap_alloc _ _ _ hlt]
    exact hb
  have hx6 := hcell hbox (by decide)
  have h1 := heap_set W6 x 0 (.slice (some ⟨g2, 0, none⟩) (made + 1) cap2) hx6
  have h2 := heap_set _ x 2 (.int .i64 ((n : Int) + 1)) h1
  have hrx : (Value.slice (some ⟨g2, 0, none⟩) (made + 1) cap2).ownBlock ≠ some x := fun hr => by
    rcases hown.2 with ⟨hv, _⟩ | ⟨g, cp, cur, hv, _, hh, _⟩
    · cases hv
    · rw [hv] at hr
      have hgb : g = x := by simpa [Value.ownBlock] using hr
      rw [hgb, hx6] at hh
      have := Option.some.inj hh
      injection this with _ h3
      exact absurd h3 (by decide)
  refine ⟨?_, ?_, ?_, hlow⟩
  · rw [h2, hn]
    simp
  · exact ownsRow_setCell_other (ownsRow_setCell_other hown (by simpa using hrx) _) (by simpa using hrx) _
  · have hc6 : Chain 84 E' W6 := ⟨fun j e hj => hcell (hc.el j e hj) (by decide), hc.nums⟩
    refine hc6.keep fun e he => ?_
    obtain ⟨j, hj⟩ := List.getElem?_of_mem he
    have hne : e.adr ≠ x := fun h => by
      have := hc6.el j e hj
      rw [h, hx6] at this
      have := Option.some.inj this
      injection this with _ h3
      exact absurd h3 (by decide)
    rw [heap_off hne, heap_off hne]
/-- A block of another type than the table's is as it was, behind the append. -/
theorem OL.keepW {B made cap : Nat} {G : Option Addr} {V W6 : World} {o : Obj} {xs : List Value} (hrow : V.ownsRow B 78 1 (.slice G made cap) made xs)
    (hg : (V.alloc o).grownBy W6 (Value.slice G made cap).ownBlock) {b : Nat} {cs : Array Value} {t : TypeId} (hb : V.heap[b]? = some (.cells cs t (0, 0))) (ht : t ≠ 78) : W6.heap[b]? = some (.cells cs t (0, 0)) := by
  have hlt := bdLt hb
  rw [hg.block b (by simp; omega) (fun hr => by
    rcases hrow.2 with ⟨hv, _⟩ | ⟨g, cp, cur, hv, _, hh, _⟩
    · rw [hv] at hr; cases hr
    · rw [hv] at hr
      have hgb : b = g := by simpa [Value.ownBlock] using hr
      rw [hgb, hh] at hb
      have := Option.some.inj hb
      injection this with _ h3
      exact ht h3.symm), Below.heap_alloc _ _ _ hlt]
  exact hb
end Go.Proofs.Ythnlcbeibhhjpaa
