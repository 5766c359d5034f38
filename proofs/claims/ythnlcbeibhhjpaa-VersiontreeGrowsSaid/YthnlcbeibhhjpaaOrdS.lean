/- Plain: an order list as a list of elements. -/
import Derived.Test.YthnlcbeibhhjpaaBase
namespace Go.Proofs.Ythnlcbeibhhjpaa
open Go.RowKit
/-- An element of an order list: its number, its label, the block that it lies in. -/
structure El where
  num : Nat
  lab : Int
  adr : Nat
def El.ptr (e : El) : Option (Nat × Nat) := some (e.adr, 0)
/-- The list with an element more, at an index. -/
def insE {α : Type} (E : List α) (k : Nat) (e : α) : List α := E.take k ++ e :: E.drop k
theorem insE_get {α : Type} (E : List α) {k : Nat} (e : α) (hk : k ≤ E.length) (j : Nat) : (insE E k e)[j]? = if j < k then E[j]? else if j = k then some e else E[j - 1]? := by
  unfold insE
  by_cases h1 : j < k
  · rw [if_pos h1, List.getElem?_append_left (by rw [List.length_take]; omega), List.getElem?_take, if_pos h1]
  · rw [if_neg h1, List.getElem?_append_right (by rw [List.length_take]; omega), List.length_take, Nat.min_eq_left hk]
    by_cases h2 : j = k
    · subst h2; simp
    · rw [if_neg h2]
      obtain ⟨d, hd⟩ : ∃ d, j - k = d + 1 := ⟨j - k - 1, by omega⟩
      rw [hd, List.getElem?_cons_succ, List.getElem?_drop, show k + d = j - 1 by omega]
theorem insE_len {α : Type} (E : List α) {k : Nat} (e : α) (hk : k ≤ E.length) : (insE E k e).length = E.length + 1 := by
  simp [insE]; omega
theorem insE_map {α β : Type} (f : α → β) (E : List α) (k : Nat) (e : α) : (insE E k e).map f = insE (E.map f) k (f e) := by
  simp [insE, List.map_take, List.map_drop]
theorem mem_insE {α : Type} (E : List α) (k : Nat) (e x : α) : x ∈ insE E k e ↔ x = e ∨ x ∈ E := by
  unfold insE
  rw [List.mem_append, List.mem_cons]
  have h := List.take_append_drop k E
  constructor
  · rintro (h1 | h1 | h1)
    · exact Or.inr (List.mem_of_mem_take h1)
    · exact Or.inl h1
    · exact Or.inr (List.mem_of_mem_drop h1)
  · rintro (h1 | h1)
    · exact Or.inr (Or.inl h1)
    · rw [← h] at h1
      rcases List.mem_append.1 h1 with h2 | h2
      · exact Or.inl h2
      · exact Or.inr (Or.inr h2)
theorem insE_nodup {α : Type} {E : List α} {k : Nat} {e : α} (h : E.Nodup) (he : e ∉ E) : (insE E k e).Nodup := by
  unfold insE
  have h' := h
  rw [← List.take_append_drop k E, List.nodup_append] at h'
  obtain ⟨h1, h2, h3⟩ := h'
  rw [List.nodup_append, List.nodup_cons]
  refine ⟨h1, ⟨fun hm => he (List.mem_of_mem_drop hm), h2⟩, fun a ha b hb => ?_⟩
  rcases List.mem_cons.1 hb with rfl | hb
  · exact fun e => he (e ▸ List.mem_of_mem_take ha)
  · exact h3 a ha b hb
/-- The block of the element with a number. -/
def adrOf (E : List El) (i : Nat) : Option Nat := (E.find? fun e => e.num == i).map El.adr
theorem adrOf_some {E : List El} (hn : (E.map El.num).Nodup) {j : Nat} {e : El} (h : E[j]? = some e) : adrOf E e.num = some e.adr := by
  unfold adrOf
  have hm := List.mem_of_getElem? h
  cases hf : E.find? fun x => x.num == e.num with
  | none =>
    have := List.find?_eq_none.1 hf e hm
    simp at this
  | some x =>
    have hx := List.find?_some hf
    have hxm := List.mem_of_find?_eq_some hf
    have : x = e := by
      have hxe : x.num = e.num := by simpa using hx
      obtain ⟨i, hi, rfl⟩ := List.mem_iff_getElem.1 hxm
      obtain ⟨i', hi', rfl⟩ := List.mem_iff_getElem.1 hm
      have hp := List.pairwise_iff_getElem.1 hn
      rcases Nat.lt_trichotomy i i' with hlt | heq | hgt
      · exact absurd (by rw [List.getElem_map, List.getElem_map]; exact hxe) (hp i i' (by simpa using hi) (by simpa using hi') hlt)
      · subst heq; rfl
      · exact absurd (by rw [List.getElem_map, List.getElem_map]; exact hxe.symm) (hp i' i (by simpa using hi') (by simpa using hi) hgt)
    subst this
    rfl
theorem adrOf_none {E : List El} {i : Nat} (h : i ∉ E.map El.num) : adrOf E i = none := by
  unfold adrOf
  rw [Option.map_eq_none_iff, List.find?_eq_none]
  intro e he
  simp only [beq_iff_eq]
  exact fun hi => h (hi ▸ List.mem_map_of_mem he)
theorem adrOf_ins {E : List El} {k : Nat} {e : El} (hn : e.num ∉ E.map El.num) (i : Nat) : adrOf (insE E k e) i = if i = e.num then some e.adr else adrOf E i := by
  unfold adrOf insE
  rw [List.find?_append, List.find?_cons]
  by_cases h : i = e.num
  · subst h
    rw [if_pos rfl]
    have : (E.take k).find? (fun x => x.num == e.num) = none := by
      rw [List.find?_eq_none]
      intro x hx
      simp only [beq_iff_eq]
      exact fun hi => hn (hi ▸ List.mem_map_of_mem (List.mem_of_mem_take hx))
    rw [this]
    simp
  · rw [if_neg h]
    have hb : (e.num == i) = false := by simpa using fun h' => h h'.symm
    rw [hb]
    conv => rhs; rw [← List.take_append_drop k E, List.find?_append]
theorem erase_get {α : Type} (E : List α) (k j : Nat) : (E.eraseIdx k)[j]? = if j < k then E[j]? else E[j + 1]? := List.getElem?_eraseIdx
theorem adrOf_erase {E : List El} {k : Nat} {e : El} (hn : (E.map El.num).Nodup) (hk : E[k]? = some e) (i : Nat) : adrOf (E.eraseIdx k) i = if i = e.num then none else adrOf E i := by
  have hkl := (List.getElem?_eq_some_iff.1 hk).1
  have hke := (List.getElem?_eq_some_iff.1 hk).2
  have hsplit : E = E.take k ++ e :: E.drop (k + 1) := by
    rw [← hke, ← List.drop_eq_getElem_cons hkl, List.take_append_drop]
  by_cases h : i = e.num
  · subst h
    rw [if_pos rfl]
    apply adrOf_none
    rw [List.eraseIdx_eq_take_drop_succ, List.map_append]
    rw [hsplit, List.map_append, List.map_cons, List.nodup_append, List.nodup_cons] at hn
    obtain ⟨_, ⟨h2, _⟩, h3⟩ := hn
    intro hm
    rcases List.mem_append.1 hm with h' | h'
    · exact h3 _ h' _ (List.mem_cons_self ..) rfl
    · exact h2 h'
  · rw [if_neg h]
    unfold adrOf
    rw [List.eraseIdx_eq_take_drop_succ, List.find?_append]
    conv => rhs; rw [hsplit, List.find?_append, List.find?_cons]
    have hb : (e.num == i) = false := by simpa using fun h' => h h'.symm
    rw [hb]
end Go.Proofs.Ythnlcbeibhhjpaa
