/- Plain: labels ascend; what an insertion does to labels. -/
import Derived.Test.YthnlcbeibhhjpaaOrdJ
namespace Go.Proofs.Ythnlcbeibhhjpaa
open Go.RowKit
/-- Labels ascend strictly, within their bounds. -/
def Asc (E : List El) : Prop := (∀ (i j : Nat) (a b : El), i < j → E[i]? = some a → E[j]? = some b → a.lab < b.lab) ∧ ∀ (i : Nat) (a : El), E[i]? = some a → 0 ≤ a.lab ∧ a.lab ≤ 1099511627776
theorem Asc.nil : Asc [] := ⟨fun i j a b _ h => by simp at h, fun i a h => by simp at h⟩
theorem lo_succ {E : List El} {j : Nat} {e : El} (h : E[j]? = some e) : loE E (j + 1) = e.lab := by
  show (match E[j]? with | some e => e.lab | none => -1) = _
  rw [h]
theorem hi_some {E : List El} {k : Nat} {e : El} (h : E[k]? = some e) : hiE E k = e.lab := by unfold hiE; rw [h]
theorem hi_none {E : List El} {k : Nat} (h : E.length ≤ k) : hiE E k = 1099511627777 := by unfold hiE; rw [List.getElem?_eq_none h]
theorem Asc.lo {E : List El} (h : Asc E) (k : Nat) : -1 ≤ loE E k ∧ loE E k ≤ 1099511627776 := by
  cases k with
  | zero => exact ⟨Int.le_refl _, by show (-1 : Int) ≤ _; omega⟩
  | succ j =>
    cases hj : E[j]? with
    | none => rw [show loE E (j + 1) = -1 by show (match E[j]? with | some e => e.lab | none => -1) = _; rw [hj]]; omega
    | some e => rw [lo_succ hj]; have := h.2 j e hj; omega
theorem Asc.hi {E : List El} (h : Asc E) (k : Nat) : 0 ≤ hiE E k ∧ hiE E k ≤ 1099511627777 := by
  cases hk : E[k]? with
  | none => rw [hi_none (List.getElem?_eq_none_iff.1 hk)]; omega
  | some e => rw [hi_some hk]; have := h.2 k e hk; omega
theorem Asc.lohi {E : List El} (h : Asc E) (k : Nat) : loE E k < hiE E k := by
  cases k with
  | zero => have := h.hi 0; show (-1 : Int) < _; omega
  | succ j =>
    cases hj : E[j]? with
    | none => have := h.hi (j + 1); rw [show loE E (j + 1) = -1 by show (match E[j]? with | some e => e.lab | none => -1) = _; rw [hj]]; omega
    | some e =>
      rw [lo_succ hj]
      cases hk : E[j + 1]? with
      | none => rw [hi_none (List.getElem?_eq_none_iff.1 hk)]; have := h.2 j e hj; omega
      | some f => rw [hi_some hk]; exact h.1 j (j + 1) e f (by omega) hj hk
theorem Asc.lo_ge {E : List El} (h : Asc E) {i k : Nat} {a : El} (hi : E[i]? = some a) (hik : i < k) (hk : k ≤ E.length) : a.lab ≤ loE E k := by
  obtain ⟨j, rfl⟩ : ∃ j, k = j + 1 := ⟨k - 1, by omega⟩
  have hj : E[j]? = some E[j] := List.getElem?_eq_getElem (by omega)
  rw [lo_succ hj]
  by_cases he : i = j
  · subst he; rw [hi] at hj; rw [Option.some.inj hj]; exact Int.le_refl _
  · exact Int.le_of_lt (h.1 i j a _ (by omega) hi hj)
theorem Asc.hi_le {E : List El} (h : Asc E) {i k : Nat} {a : El} (hi : E[i]? = some a) (hik : k ≤ i) : hiE E k ≤ a.lab := by
  have hil := (List.getElem?_eq_some_iff.1 hi).1
  have hk : E[k]? = some E[k] := List.getElem?_eq_getElem (by omega)
  rw [hi_some hk]
  by_cases he : i = k
  · subst he; rw [hi] at hk; rw [Option.some.inj hk]; exact Int.le_refl _
  · exact Int.le_of_lt (h.1 k i _ a (by omega) hk hi)
theorem Asc.ins {E : List El} (h : Asc E) {k : Nat} {e : El} (hk : k ≤ E.length) (h1 : loE E k < e.lab) (h2 : e.lab < hiE E k) : Asc (insE E k e) := by
  have hl := h.lo k
  have hh := h.hi k
  constructor
  · intro i j a b hij ha hb
    rw [insE_get E e hk] at ha hb
    by_cases i1 : i < k
    · rw [if_pos i1] at ha
      by_cases j1 : j < k
      · rw [if_pos j1] at hb; exact h.1 i j a b hij ha hb
      · rw [if_neg j1] at hb
        by_cases j2 : j = k
        · rw [if_pos j2] at hb; have := h.lo_ge ha i1 hk; rw [← Option.some.inj hb]; omega
        · rw [if_neg j2] at hb; exact h.1 i (j - 1) a b (by omega) ha hb
    · rw [if_neg i1] at ha
      rw [if_neg (by omega), if_neg (by omega)] at hb
      by_cases i2 : i = k
      · rw [if_pos i2] at ha; have := h.hi_le hb (show k ≤ j - 1 by omega); rw [← Option.some.inj ha]; omega
      · rw [if_neg i2] at ha; exact h.1 (i - 1) (j - 1) a b (by omega) ha hb
  · intro i a ha
    rw [insE_get E e hk] at ha
    split at ha
    · exact h.2 i a ha
    · split at ha
      · rw [← Option.some.inj ha]; omega
      · exact h.2 (i - 1) a ha
theorem Asc.erase {E : List El} (h : Asc E) (k : Nat) : Asc (E.eraseIdx k) := by
  constructor
  · intro i j a b hij ha hb
    rw [erase_get] at ha hb
    split at ha <;> split at hb
    · exact h.1 i j a b hij ha hb
    · exact h.1 i (j + 1) a b (by omega) ha hb
    · omega
    · exact h.1 (i + 1) (j + 1) a b (by omega) ha hb
  · intro i a ha
    rw [erase_get] at ha
    split at ha
    · exact h.2 i a ha
    · exact h.2 (i + 1) a ha
def stE (E : List El) : Nat := 1099511627776 / (E.length + 1)
theorem stE_mul (E : List El) : (E.length + 1) * stE E ≤ 1099511627776 := Nat.mul_div_le _ _
theorem stE_ge {E : List El} {m : Nat} (h : E.length + 1 ≤ m) : 1099511627776 / m ≤ stE E := Nat.div_le_div_left h (by omega)
theorem spread_at {E : List El} {i : Nat} {a : El} (h : (relab E (stE E) E.length)[i]? = some a) : i < E.length ∧ a.lab = (((i + 1) * stE E : Nat) : Int) := by
  rw [relab_get] at h
  split at h
  · rename_i hi
    rw [List.getElem?_eq_getElem hi] at h
    exact ⟨hi, by rw [← Option.some.inj h]⟩
  · rename_i hi
    rw [List.getElem?_eq_none (by omega)] at h
    cases h
theorem asc_spread {E : List El} (h : E.length ≤ 1999) : Asc (relab E (stE E) E.length) := by
  have h1 := stE_mul E
  have h2 : 1 ≤ stE E := Nat.le_trans (by decide) (stE_ge (show E.length + 1 ≤ 2000 by omega))
  constructor
  · intro i j a b hij ha hb
    have := spread_at ha
    have := spread_at hb
    have h3 : (i + 1) * stE E + stE E ≤ (j + 1) * stE E := by rw [← Nat.succ_mul]; exact Nat.mul_le_mul_right _ (by omega)
    omega
  · intro i a ha
    have := spread_at ha
    have h3 : (i + 1) * stE E ≤ (E.length + 1) * stE E := Nat.mul_le_mul_right _ (by omega)
    omega
theorem gap_spread {E : List El} (k : Nat) (hk : k ≤ E.length) : loE (relab E (stE E) E.length) k + stE E ≤ hiE (relab E (stE E) E.length) k := by
  have h1 := stE_mul E
  have hlo : loE (relab E (stE E) E.length) k ≤ ((k * stE E : Nat) : Int) := by
    cases k with
    | zero => show (-1 : Int) ≤ _; omega
    | succ j =>
      obtain ⟨f, hj⟩ : ∃ f, (relab E (stE E) E.length)[j]? = some f := ⟨_, List.getElem?_eq_getElem (by rw [relab_len]; omega)⟩
      rw [lo_succ hj]
      have := (spread_at hj).2
      omega
  have h3 : k * stE E + stE E = (k + 1) * stE E := by rw [← Nat.succ_mul]
  by_cases hkl : k < E.length
  · obtain ⟨f, hj⟩ : ∃ f, (relab E (stE E) E.length)[k]? = some f := ⟨_, List.getElem?_eq_getElem (by rw [relab_len]; omega)⟩
    rw [hi_some hj]
    have := (spread_at hj).2
    omega
  · have hke : k = E.length := by omega
    rw [hi_none (by rw [relab_len]; omega)]
    rw [← hke] at h1
    omega
/-- The list that an insertion at k meets behind its spread, if it makes one; its moves; the new label. -/
def sprE (E : List El) (k : Nat) : List El := if hiE E k - loE E k < 2 then relab E (stE E) E.length else E
def sprM (mv : Int) (E : List El) (k : Nat) : Int := if hiE E k - loE E k < 2 then mv + chgE E (stE E) E.length else mv
def newL (E : List El) (k : Nat) : Int := loE E k + (hiE E k - loE E k) / 2
theorem sprE_len (E : List El) (k : Nat) : (sprE E k).length = E.length := by
  unfold sprE
  split
  · exact relab_len _ _ _
  · rfl
theorem relab_num (E : List El) (st : Nat) : (relab E st E.length).map El.num = E.map El.num := by
  apply List.ext_getElem?
  intro i
  rw [List.getElem?_map, List.getElem?_map, relab_get]
  split
  · cases E[i]? <;> rfl
  · rfl
theorem sprE_num (E : List El) (k : Nat) : (sprE E k).map El.num = E.map El.num := by
  unfold sprE
  split
  · exact relab_num _ _
  · rfl
theorem Asc.spr {E : List El} (h : Asc E) (hl : E.length ≤ 1999) (k : Nat) : Asc (sprE E k) := by
  unfold sprE
  split
  · exact asc_spread hl
  · exact h
theorem Asc.gap {E : List El} (hl : E.length ≤ 1999) (k : Nat) (hk : k ≤ E.length) : 2 ≤ hiE (sprE E k) k - loE (sprE E k) k := by
  unfold sprE
  split
  · have h2 : 2 ≤ stE E := Nat.le_trans (by decide) (stE_ge (show E.length + 1 ≤ 2000 by omega))
    have := gap_spread k hk
    omega
  · omega
theorem Asc.insert {E : List El} (h : Asc E) (hl : E.length ≤ 1999) {k n a : Nat} (hk : k ≤ E.length) : Asc (insE (sprE E k) k ⟨n, newL (sprE E k) k, a⟩) := by
  have hg := Asc.gap hl k hk
  refine (h.spr hl k).ins (by rw [sprE_len]; exact hk) ?_ ?_
  · show loE _ k < newL _ k; unfold newL; omega
  · show newL _ k < hiE _ k; unfold newL; omega
theorem sprM_le {mv : Int} {E : List El} {k : Nat} : mv ≤ sprM mv E k ∧ sprM mv E k ≤ mv + E.length := by
  unfold sprM
  have := chg_le E (stE E) E.length
  split <;> omega
end Go.Proofs.Ythnlcbeibhhjpaa
