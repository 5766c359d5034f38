/- What linking a new element in does to an order list in memory. -/
import Derived.Test.YthnlcbeibhhjpaaOrdF
namespace Go.Proofs.Ythnlcbeibhhjpaa
open Go.RowKit
set_option maxRecDepth 100000
/-- The world behind the linking: the new element is laid, then its neighbours' pointers, or the list's first one, are set. -/
def nxtW (E : List El) (k a : Nat) (W : World) : World := match E[k]? with
  | some f => W.setCell ⟨f.adr, 2, none⟩ (.pointer (some ⟨a, 0, none⟩))
  | none => W
def preW (E : List El) (k a x : Nat) (W : World) : World := match k with
  | 0 => W.setCell ⟨x, 1, none⟩ (.pointer (some ⟨a, 0, none⟩))
  | j + 1 => match E[j]? with
    | some f => W.setCell ⟨f.adr, 3, none⟩ (.pointer (some ⟨a, 0, none⟩))
    | none => W
def newW (E : List El) (k num : Nat) (lab : Int) (W : World) : World := W.alloc (.cells #[.int .i64 num, .int .i64 lab, .pointer (prvE E k), .pointer (ptrE E k)] 84)
theorem heap_set (W : World) (b i : Nat) (v : Value) {cs : Array Value} {t : TypeId} (h : W.heap[b]? = some (.cells cs t (0, 0))) : (W.setCell ⟨b, i, none⟩ v).heap[b]? = some (.cells (cs.setIfInBounds i v) t (0, 0)) := by
  simp [World.setCell, Array.getElem?_modify, h]
theorem heap_off {W : World} {b b' i : Nat} {v : Value} (h : b ≠ b') : (W.setCell ⟨b', i, none⟩ v).heap[b]? = W.heap[b]? := Below.heap_setCell _ _ _ _ (by simpa using h)
theorem nxt_off {E : List El} {k a b : Nat} {W : World} (h : ∀ f, E[k]? = some f → b ≠ f.adr) : (nxtW E k a W).heap[b]? = W.heap[b]? := by
  unfold nxtW
  cases hk : E[k]? with
  | none => rfl
  | some f => exact heap_off (h f hk)
theorem pre_off {E : List El} {k a x b : Nat} {W : World} (hx : k = 0 → b ≠ x) (h : ∀ f, 0 < k → E[k - 1]? = some f → b ≠ f.adr) : (preW E k a x W).heap[b]? = W.heap[b]? := by
  unfold preW
  cases k with
  | zero => exact heap_off (hx rfl)
  | succ j =>
    cases hj : E[j]? with
    | none => simp only [hj]
    | some f => simp only [hj]; exact heap_off (h f (by omega) hj)
theorem OL.link_chain {B x cap made k : Nat} {G : Option Addr} {mv : Int} {E : List El} {W : World} (h : OL B x G cap made mv E W) (hk : k ≤ E.length) (lab : Int) :
    Chain 84 (insE E k ⟨made, lab, W.heap.size⟩) (preW E k W.heap.size x (nxtW E k W.heap.size (newW E k made lab W))) := by
  have hx : x < W.heap.size := bdLt h.box
  have hlt : ∀ {j : Nat} {f : El}, E[j]? = some f → f.adr < W.heap.size := fun hj => h.chain.lt (List.mem_of_getElem? hj)
  have hold : ∀ {j : Nat} {f : El}, E[j]? = some f → (newW E k made lab W).heap[f.adr]? = W.heap[f.adr]? := fun hj => Below.heap_alloc _ _ _ (hlt hj)
  refine h.chain.insert hk ?_ ?_ ?_ ?_ ?_
  · intro hm
    obtain ⟨e, he, hem⟩ := List.mem_map.1 hm
    have := (h.low e he).2
    have : e.num = made := hem
    omega
  · rw [pre_off (fun _ => by show W.heap.size ≠ x; omega) (fun f _ hf => by have := hlt hf; show W.heap.size ≠ f.adr; omega), nxt_off (fun f hf => by have := hlt hf; show W.heap.size ≠ f.adr; omega)]
    exact bdNew _ _
  · intro f h0 hf
    obtain ⟨j, rfl⟩ : ∃ j, k = j + 1 := ⟨k - 1, by omega⟩
    have hf' : E[j]? = some f := hf
    have h1 : (nxtW E (j + 1) W.heap.size (newW E (j + 1) made lab W)).heap[f.adr]? = some (.cells #[.int .i64 f.num, .int .i64 f.lab, .pointer (prvE E j), .pointer (ptrE E (j + 1))] 84 (0, 0)) := by
      rw [nxt_off (fun f2 hf2 => h.chain.apart hf' hf2 (by omega)), hold hf']
      exact h.chain.el j f hf'
    unfold preW
    simp only [hf']
    rw [heap_set _ _ _ _ h1]
    rfl
  · intro f hf
    have h1 : (nxtW E k W.heap.size (newW E k made lab W)).heap[f.adr]? = some (.cells #[.int .i64 f.num, .int .i64 f.lab, .pointer (some ⟨W.heap.size, 0, none⟩), .pointer (ptrE E (k + 1))] 84 (0, 0)) := by
      unfold nxtW
      simp only [hf]
      rw [heap_set _ _ _ _ ((hold hf).trans (h.chain.el k f hf))]
      rfl
    rw [pre_off (fun _ => fun he => h.notEl hf he.symm) (fun f2 h0 hf2 => h.chain.apart hf hf2 (by omega))]
    exact h1
  · intro j f hf h1 h2
    rw [pre_off (fun _ => fun he => h.notEl hf he.symm) (fun f2 h0 hf2 => h.chain.apart hf hf2 (by omega)), nxt_off (fun f2 hf2 => h.chain.apart hf hf2 h1)]
    exact hold hf
theorem OL.link_box {B x cap made k : Nat} {G : Option Addr} {mv : Int} {E : List El} {W : World} (h : OL B x G cap made mv E W) (hk : k ≤ E.length) (lab : Int) :
    (preW E k W.heap.size x (nxtW E k W.heap.size (newW E k made lab W))).heap[x]? = some (.cells #[.slice G made cap, .pointer (ptrE (insE E k ⟨made, lab, W.heap.size⟩) 0), .int .i64 E.length, .int .i64 mv] 80 (0, 0)) := by
  have hx : x < W.heap.size := bdLt h.box
  have h0 : (nxtW E k W.heap.size (newW E k made lab W)).heap[x]? = some (.cells #[.slice G made cap, .pointer (ptrE E 0), .int .i64 E.length, .int .i64 mv] 80 (0, 0)) := by
    rw [nxt_off (fun f hf => h.notEl hf)]
    exact (Below.heap_alloc _ _ _ hx).trans h.box
  rw [ptrE_ins hk]
  cases k with
  | zero =>
    unfold preW
    simp only
    rw [heap_set _ _ _ _ h0, if_neg (by omega)]
    simp
  | succ j =>
    rw [if_pos (by omega), pre_off (fun hh => by omega) (fun f _ hf => h.notEl hf)]
    exact h0
theorem rowE_ins {E : List El} {k made : Nat} {lab : Int} {a : Nat} (hn : made ∉ E.map El.num) : rowE (insE E k ⟨made, lab, a⟩) (made + 1) = rowE E made ++ [.pointer (some ⟨a, 0, none⟩)] := by
  unfold rowE
  rw [List.range_succ, List.map_append]
  congr 1
  · apply List.map_congr_left
    intro i hi
    have := List.mem_range.1 hi
    rw [adrOf_ins hn, if_neg (by show ¬ i = made; omega)]
  · rw [List.map_singleton, adrOf_ins hn, if_pos rfl]
    rfl
end Go.Proofs.Ythnlcbeibhhjpaa
