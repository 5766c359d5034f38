/- An order list in memory, for any numbers of its types: what insertions and deletions do to it. -/
import Derived.Laws.OwnMore
import Derived.OwnWalk
import Derived.Test.YthnlcbeibhhjpaaOrdS
namespace Go.Proofs.Ythnlcbeibhhjpaa
open Go.RowKit
set_option maxRecDepth 100000
/-- The pointer to the element at an index; none if there is no such index. -/
def ptrE (E : List El) (j : Nat) : Option Addr := (E[j]?).map fun e => ⟨e.adr, 0, none⟩
def prvE (E : List El) : Nat → Option Addr
  | 0 => none
  | j + 1 => ptrE E j
/-- The table of the elements by their numbers. -/
def rowE (E : List El) (made : Nat) : List Value := (List.range made).map fun i => Value.pointer ((adrOf E i).map fun a => ⟨a, 0, none⟩)
theorem ptrE_some {E : List El} {j : Nat} {e : El} (h : E[j]? = some e) : ptrE E j = some ⟨e.adr, 0, none⟩ := by unfold ptrE; rw [h]; rfl
theorem ptrE_none {E : List El} {j : Nat} (h : E.length ≤ j) : ptrE E j = none := by unfold ptrE; rw [List.getElem?_eq_none h]; rfl
/-- The elements in memory, linked. -/
structure Chain (tE : TypeId) (E : List El) (W : World) : Prop where
  el : ∀ (j : Nat) (e : El), E[j]? = some e → W.heap[e.adr]? = some (.cells #[.int .i64 e.num, .int .i64 e.lab, .pointer (prvE E j), .pointer (ptrE E (j + 1))] tE (0, 0))
  nums : (E.map El.num).Nodup
theorem Chain.apart {tE : TypeId} {E : List El} {W : World} (h : Chain tE E W) {i j : Nat} {e f : El} (hi : E[i]? = some e) (hj : E[j]? = some f) (hne : i ≠ j) : e.adr ≠ f.adr := fun ha => by
  have h1 := h.el i e hi
  have h2 := h.el j f hj
  rw [ha, h2] at h1
  have hnum : f.num = e.num := by
    have := Option.some.inj h1
    injection this with h3
    have h4 := congrArg (fun a : Array Value => a[0]?) h3
    simp at h4
    omega
  have hp := List.pairwise_iff_getElem.1 h.nums
  obtain ⟨hil, rfl⟩ := List.getElem?_eq_some_iff.1 hi
  obtain ⟨hjl, rfl⟩ := List.getElem?_eq_some_iff.1 hj
  rcases Nat.lt_or_gt_of_ne hne with hlt | hgt
  · exact hp i j (by simpa using hil) (by simpa using hjl) hlt (by rw [List.getElem_map, List.getElem_map]; exact hnum.symm)
  · exact hp j i (by simpa using hjl) (by simpa using hil) hgt (by rw [List.getElem_map, List.getElem_map]; exact hnum)
theorem Chain.keep {tE : TypeId} {E : List El} {W W' : World} (h : Chain tE E W) (hk : ∀ e ∈ E, W'.heap[e.adr]? = W.heap[e.adr]?) : Chain tE E W' :=
  ⟨fun j e hj => (hk e (List.mem_of_getElem? hj)).trans (h.el j e hj), h.nums⟩
theorem Chain.lt {tE : TypeId} {E : List El} {W : World} (h : Chain tE E W) {e : El} (he : e ∈ E) : e.adr < W.heap.size := by
  obtain ⟨j, hj, rfl⟩ := List.mem_iff_getElem.1 he
  exact bdLt (h.el j _ (List.getElem?_eq_getElem hj))
theorem Chain.below {tE : TypeId} {E : List El} {W W' : World} (h : Chain tE E W) (hb : Below W.heap.size W W') : Chain tE E W' := h.keep fun _ he => hb.block _ (h.lt he)
theorem ptrE_ins {E : List El} {k : Nat} {e : El} (hk : k ≤ E.length) (j : Nat) : ptrE (insE E k e) j = if j < k then ptrE E j else if j = k then some ⟨e.adr, 0, none⟩ else ptrE E (j - 1) := by
  unfold ptrE
  rw [insE_get E e hk]
  split
  · rfl
  · split <;> rfl
/-- What linking a new element in does to the worlds: the element was laid, its neighbours' pointers are set. -/
theorem Chain.insert {tE : TypeId} {E : List El} {W W3 : World} {k : Nat} {e : El} (h : Chain tE E W) (hk : k ≤ E.length) (hn : e.num ∉ E.map El.num)
    (hnew : W3.heap[e.adr]? = some (.cells #[.int .i64 e.num, .int .i64 e.lab, .pointer (prvE E k), .pointer (ptrE E k)] tE (0, 0)))
    (hpre : ∀ f, 0 < k → E[k - 1]? = some f → W3.heap[f.adr]? = some (.cells #[.int .i64 f.num, .int .i64 f.lab, .pointer (prvE E (k - 1)), .pointer (some ⟨e.adr, 0, none⟩)] tE (0, 0)))
    (hnxt : ∀ f, E[k]? = some f → W3.heap[f.adr]? = some (.cells #[.int .i64 f.num, .int .i64 f.lab, .pointer (some ⟨e.adr, 0, none⟩), .pointer (ptrE E (k + 1))] tE (0, 0)))
    (hold : ∀ (j : Nat) (f : El), E[j]? = some f → j ≠ k → j + 1 ≠ k → W3.heap[f.adr]? = W.heap[f.adr]?) : Chain tE (insE E k e) W3 := by
  refine ⟨fun j f hj => ?_, by rw [insE_map]; exact insE_nodup h.nums hn⟩
  rw [insE_get E e hk] at hj
  by_cases h1 : j < k
  · rw [if_pos h1] at hj
    have hp : prvE (insE E k e) j = prvE E j := by
      cases j with
      | zero => rfl
      | succ j => show ptrE _ j = ptrE _ j; rw [ptrE_ins hk, if_pos (by omega)]
    rw [hp, ptrE_ins hk]
    by_cases h2 : j + 1 = k
    · rw [if_neg (by omega), if_pos h2]
      obtain rfl : k - 1 = j := by omega
      exact hpre f (by omega) hj
    · rw [if_pos (by omega), hold j f hj (by omega) h2]
      exact h.el j f hj
  · rw [if_neg h1] at hj
    by_cases h2 : j = k
    · subst h2
      rw [if_pos rfl] at hj
      obtain rfl := Option.some.inj hj
      have hp : prvE (insE E j e) j = prvE E j := by
        cases j with
        | zero => rfl
        | succ j => show ptrE _ j = ptrE _ j; rw [ptrE_ins hk, if_pos (by omega)]
      rw [hp, ptrE_ins hk, if_neg (by omega), if_neg (by omega), show j + 1 - 1 = j by omega]
      exact hnew
    · rw [if_neg h2] at hj
      obtain ⟨i, rfl⟩ : ∃ i, j = i + 1 := ⟨j - 1, by omega⟩
      rw [show i + 1 - 1 = i by omega] at hj
      rw [ptrE_ins hk, if_neg (by omega), if_neg (by omega), show i + 1 + 1 - 1 = i + 1 by omega]
      show W3.heap[f.adr]? = some (.cells #[.int .i64 f.num, .int .i64 f.lab, .pointer (ptrE (insE E k e) i), .pointer (ptrE E (i + 1))] tE (0, 0))
      rw [ptrE_ins hk]
      by_cases h3 : i = k
      · subst h3
        rw [if_neg (by omega), if_pos rfl]
        exact hnxt f hj
      · rw [if_neg (by omega), if_neg h3, hold i f hj h3 (by omega)]
        have := h.el i f hj
        obtain ⟨i', rfl⟩ : ∃ i', i = i' + 1 := ⟨i - 1, by omega⟩
        exact this
theorem ptrE_erase (E : List El) (k j : Nat) : ptrE (E.eraseIdx k) j = if j < k then ptrE E j else ptrE E (j + 1) := by
  unfold ptrE
  rw [erase_get]
  split <;> rfl
/-- What taking an element out does. -/
theorem Chain.erase {tE : TypeId} {E : List El} {W W3 : World} {k : Nat} (h : Chain tE E W) (hk : k < E.length)
    (hpre : ∀ f, 0 < k → E[k - 1]? = some f → W3.heap[f.adr]? = some (.cells #[.int .i64 f.num, .int .i64 f.lab, .pointer (prvE E (k - 1)), .pointer (ptrE E (k + 1))] tE (0, 0)))
    (hnxt : ∀ f, E[k + 1]? = some f → W3.heap[f.adr]? = some (.cells #[.int .i64 f.num, .int .i64 f.lab, .pointer (prvE E k), .pointer (ptrE E (k + 2))] tE (0, 0)))
    (hold : ∀ (j : Nat) (f : El), E[j]? = some f → j ≠ k + 1 → j + 1 ≠ k → j ≠ k → W3.heap[f.adr]? = W.heap[f.adr]?) : Chain tE (E.eraseIdx k) W3 := by
  refine ⟨fun j f hj => ?_, by
    have hs := (List.eraseIdx_sublist E k).map El.num
    exact h.nums.sublist hs⟩
  rw [erase_get] at hj
  rw [ptrE_erase]
  by_cases h1 : j < k
  · rw [if_pos h1] at hj
    have hp : prvE (E.eraseIdx k) j = prvE E j := by
      cases j with
      | zero => rfl
      | succ j => show ptrE _ j = ptrE _ j; rw [ptrE_erase, if_pos (by omega)]
    rw [hp]
    by_cases h2 : j + 1 = k
    · rw [if_neg (by omega)]
      obtain rfl : k - 1 = j := by omega
      have := hpre f (by omega) hj
      rwa [show k - 1 + 1 + 1 = k + 1 by omega]
    · rw [if_pos (by omega), hold j f hj (by omega) h2 (by omega)]
      exact h.el j f hj
  · rw [if_neg h1] at hj
    rw [if_neg (by omega)]
    have hp : prvE (E.eraseIdx k) j = if j = k then prvE E k else prvE E (j + 1) := by
      cases j with
      | zero =>
        have : k = 0 := by omega
        subst this; rfl
      | succ i =>
        show ptrE (E.eraseIdx k) i = _
        rw [ptrE_erase]
        by_cases h3 : i + 1 = k
        · rw [if_pos h3, if_pos (by omega), ← h3]; rfl
        · rw [if_neg h3, if_neg (by omega)]; rfl
    rw [hp]
    by_cases h3 : j = k
    · subst h3
      rw [if_pos rfl]
      exact hnxt f hj
    · rw [if_neg h3, hold (j + 1) f hj (by omega) (by omega) (by omega)]
      exact h.el (j + 1) f hj
end Go.Proofs.Ythnlcbeibhhjpaa
