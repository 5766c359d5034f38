/- What taking an element out of an order list in memory does. -/
import Derived.Test.YthnlcbeibhhjpaaOrdJ
namespace Go.Proofs.Ythnlcbeibhhjpaa
open Go.RowKit
set_option maxRecDepth 100000
def uPre (E : List El) (j x : Nat) (W : World) : World := match j with
  | 0 => W.setCell ⟨x, 1, none⟩ (.pointer (ptrE E 1))
  | i + 1 => match E[i]? with
    | some f => W.setCell ⟨f.adr, 3, none⟩ (.pointer (ptrE E (i + 2)))
    | none => W
def uNxt (E : List El) (j : Nat) (W : World) : World := match E[j + 1]? with
  | some f => W.setCell ⟨f.adr, 2, none⟩ (.pointer (prvE E j))
  | none => W
theorem uPre_off {E : List El} {j x b : Nat} {W : World} (hx : j = 0 → b ≠ x) (h : ∀ f, 0 < j → E[j - 1]? = some f → b ≠ f.adr) : (uPre E j x W).heap[b]? = W.heap[b]? := by
  unfold uPre
  cases j with
  | zero => exact heap_off (hx rfl)
  | succ i =>
    cases hi : E[i]? with
    | none => simp only [hi]
    | some f => simp only [hi]; exact heap_off (h f (by omega) hi)
theorem uNxt_off {E : List El} {j b : Nat} {W : World} (h : ∀ f, E[j + 1]? = some f → b ≠ f.adr) : (uNxt E j W).heap[b]? = W.heap[b]? := by
  unfold uNxt
  cases hk : E[j + 1]? with
  | none => rfl
  | some f => exact heap_off (h f hk)
theorem uPre_size (E : List El) (j x : Nat) (W : World) : (uPre E j x W).heap.size = W.heap.size := by
  unfold uPre
  cases j with
  | zero => simp
  | succ i => cases hi : E[i]? <;> simp [hi]
theorem uNxt_size (E : List El) (j : Nat) (W : World) : (uNxt E j W).heap.size = W.heap.size := by
  unfold uNxt
  cases hi : E[j + 1]? <;> simp
theorem rowE_erase {E : List El} {j made : Nat} {e : El} (hn : (E.map El.num).Nodup) (hj : E[j]? = some e) : rowE (E.eraseIdx j) made = (rowE E made).set e.num (.pointer none) := by
  apply List.ext_getElem?
  intro i
  unfold rowE
  rw [List.getElem?_set, List.getElem?_map, List.getElem?_map]
  by_cases hi : i < made
  · rw [List.getElem?_range hi]
    simp only [Option.map_some]
    rw [adrOf_erase hn hj]
    by_cases he : e.num = i
    · rw [if_pos he.symm, if_pos he, if_pos (by simp; omega)]
      rfl
    · rw [if_neg (fun h => he h.symm), if_neg he]
  · rw [List.getElem?_eq_none (by simp; omega)]
    split
    · rw [if_neg (by simp; omega)]; rfl
    · rfl
theorem ownsRow_heap {w w' : World} {base : Nat} {e : TypeId} {size : Nat} {v : Value} {n : Nat} {xs : List Value} (h : w.ownsRow base e size v n xs) (hb : ∀ b, v.ownBlock = some b → w'.heap[b]? = w.heap[b]?) : w'.ownsRow base e size v n xs := by
  refine ⟨h.1, ?_⟩
  rcases h.2 with hn | ⟨g, cap, cur, rfl, h1, hgg, rest⟩
  · exact .inl hn
  · exact .inr ⟨g, cap, cur, rfl, h1, (hb g rfl).trans hgg, rest⟩
theorem OL.unlink {B x g cap made j : Nat} {mv : Int} {E : List El} {W : World} {e : El} (h : OL B x (some ⟨g, 0, none⟩) cap made mv E W) (hj : E[j]? = some e) :
    OL B x (some ⟨g, 0, none⟩) cap made mv (E.eraseIdx j) (((uNxt E j (uPre E j x W)).setCell ⟨g, e.num, none⟩ (.pointer none)).setCell ⟨x, 2, none⟩ (.int .i64 ((E.length : Int) - 1))) := by
  have hjl := (List.getElem?_eq_some_iff.1 hj).1
  have hgx : x ≠ g := fun hx => h.rowNotBox (by rw [hx]; rfl)
  have hge : ∀ {i : Nat} {f : El}, E[i]? = some f → f.adr ≠ g := fun hi hx => h.rowNotEl hi (by rw [hx]; rfl)
  have hxe : ∀ {i : Nat} {f : El}, E[i]? = some f → f.adr ≠ x := fun hi hx => h.notEl hi hx.symm
  have hc : Chain 84 (E.eraseIdx j) (((uNxt E j (uPre E j x W)).setCell ⟨g, e.num, none⟩ (.pointer none)).setCell ⟨x, 2, none⟩ (.int .i64 ((E.length : Int) - 1))) := by
    refine h.chain.erase hjl ?_ ?_ ?_
    · intro f h0 hf
      obtain ⟨i, rfl⟩ : ∃ i, j = i + 1 := ⟨j - 1, by omega⟩
      have hf' : E[i]? = some f := hf
      rw [heap_off (hxe hf'), heap_off (hge hf'), uNxt_off (fun f2 hf2 => h.chain.apart hf' hf2 (by omega))]
      unfold uPre
      simp only [hf']
      rw [heap_set _ _ _ _ (h.chain.el i f hf')]
      rfl
    · intro f hf
      rw [heap_off (hxe hf), heap_off (hge hf)]
      unfold uNxt
      simp only [hf]
      rw [heap_set _ _ _ _ ((uPre_off (fun _ => hxe hf) (fun f2 _ hf2 => h.chain.apart hf hf2 (by omega))).trans (h.chain.el _ f hf))]
      rfl
    · intro i f hf h1 h2 _
      rw [heap_off (hxe hf), heap_off (hge hf), uNxt_off (fun f2 hf2 => h.chain.apart hf hf2 (by omega)), uPre_off (fun _ => hxe hf) (fun f2 _ hf2 => h.chain.apart hf hf2 (by omega))]
  have hl : ((E.eraseIdx j).length : Int) = (E.length : Int) - 1 := by rw [List.length_eraseIdx, if_pos hjl]; omega
  have hp : ptrE (E.eraseIdx j) 0 = if j = 0 then ptrE E 1 else ptrE E 0 := by
    rw [ptrE_erase]
    by_cases h0 : j = 0
    · rw [if_neg (by omega), if_pos h0]
    · rw [if_pos (by omega), if_neg h0]
  refine ⟨?_, ?_, hc, fun f hf => h.low f (List.mem_of_mem_eraseIdx hf)⟩
  · have h1 : (uPre E j x W).heap[x]? = some (.cells #[.slice (some ⟨g, 0, none⟩) made cap, .pointer (ptrE (E.eraseIdx j) 0), .int .i64 E.length, .int .i64 mv] 80 (0, 0)) := by
      rw [hp]
      cases j with
      | zero =>
        unfold uPre
        simp only
        rw [heap_set _ _ _ _ h.box]
        rfl
      | succ i =>
        rw [uPre_off (fun h0 => by omega) (fun f _ hf => (hxe hf).symm), if_neg (by omega)]
        exact h.box
    have h2 : ((uNxt E j (uPre E j x W)).setCell ⟨g, e.num, none⟩ (.pointer none)).heap[x]? = some (.cells #[.slice (some ⟨g, 0, none⟩) made cap, .pointer (ptrE (E.eraseIdx j) 0), .int .i64 E.length, .int .i64 mv] 80 (0, 0)) := by
      rw [heap_off hgx, uNxt_off (fun f hf => (hxe hf).symm)]; exact h1
    rw [heap_set _ x 2 _ h2, hl]
    rfl
  · have hr : (uNxt E j (uPre E j x W)).ownsRow B 78 1 (.slice (some ⟨g, 0, none⟩) made cap) made (rowE E made) := by
      refine ownsRow_heap h.row fun b hb => ?_
      have hbg : b = g := by simpa [Value.ownBlock] using hb.symm
      rw [hbg, uNxt_off (fun f hf => (hge hf).symm), uPre_off (fun _ => hgx.symm) (fun f _ hf => (hge hf).symm)]
    have hs := (hr.stored e.num (.pointer none)).1
    rw [← rowE_erase h.chain.nums hj] at hs
    exact ownsRow_setCell_other hs (by simpa [Value.ownBlock] using fun hh => hgx hh.symm) _
end Go.Proofs.Ythnlcbeibhhjpaa
