/- Plain: moves are few: between two spreads lie at least 29 insertions. -/
import Derived.Test.YtbmaijkpcpbgjaaOrdN
namespace Go.Proofs.Ytbmaijkpcpbgjaa
open Go.RowKit
theorem lo_ins {E : List El} {k : Nat} {e : El} (hk : k ≤ E.length) (i : Nat) : loE (insE E k e) i = if i ≤ k then loE E i else if i = k + 1 then e.lab else loE E (i - 1) := by
  cases i with
  | zero => rw [if_pos (by omega)]; rfl
  | succ i =>
    show (match (insE E k e)[i]? with | some e => e.lab | none => -1) = _
    rw [insE_get E e hk]
    by_cases h1 : i < k
    · rw [if_pos h1, if_pos (by omega)]; rfl
    · rw [if_neg h1]
      by_cases h2 : i = k
      · rw [if_pos h2, if_neg (by omega), if_pos (by omega)]
      · rw [if_neg h2, if_neg (by omega), if_neg (by omega)]
        obtain ⟨d, rfl⟩ : ∃ d, i = d + 1 := ⟨i - 1, by omega⟩
        rfl
theorem hi_ins {E : List El} {k : Nat} {e : El} (hk : k ≤ E.length) (i : Nat) : hiE (insE E k e) i = if i < k then hiE E i else if i = k then e.lab else hiE E (i - 1) := by
  unfold hiE
  rw [insE_get E e hk]
  by_cases h1 : i < k
  · rw [if_pos h1, if_pos h1]
  · rw [if_neg h1, if_neg h1]
    by_cases h2 : i = k
    · rw [if_pos h2, if_pos h2]
    · rw [if_neg h2, if_neg h2]
theorem lo_erase (E : List El) (j i : Nat) : loE (E.eraseIdx j) i = if i ≤ j then loE E i else loE E (i + 1) := by
  cases i with
  | zero => rw [if_pos (by omega)]; rfl
  | succ i =>
    show (match (E.eraseIdx j)[i]? with | some e => e.lab | none => -1) = _
    rw [erase_get]
    by_cases h1 : i < j
    · rw [if_pos h1, if_pos (by omega)]; rfl
    · rw [if_neg h1, if_neg (by omega)]; rfl
theorem hi_erase (E : List El) (j i : Nat) : hiE (E.eraseIdx j) i = if i < j then hiE E i else hiE E (i + 1) := by
  unfold hiE
  rw [erase_get]
  by_cases h1 : i < j
  · rw [if_pos h1, if_pos h1]
  · rw [if_neg h1, if_neg h1]
/-- Each gap is still wide: it has been halved at most as often as P says. -/
def Wide (P : Int) (E : List El) : Prop := ∀ k, k ≤ E.length → 1073741824 ≤ (hiE E k - loE E k + 1) * P
theorem wide_ins {P : Int} {E : List El} (h : Wide P E) (hA : Asc E) (hP : 0 ≤ P) {k n a : Nat} (hk : k ≤ E.length) : Wide (2 * P) (insE E k ⟨n, newL E k, a⟩) := by
  intro i hi
  rw [insE_len _ _ hk] at hi
  have hlh := hA.lohi k
  have hk1 := h k hk
  have key : ∀ g G : Int, G + 1 ≤ 2 * (g + 1) → 1073741824 ≤ (G + 1) * P → 1073741824 ≤ (g + 1) * (2 * P) := fun g G h1 h2 => by
    have := Int.mul_le_mul_of_nonneg_right h1 hP
    have e : (g + 1) * (2 * P) = 2 * (g + 1) * P := by rw [← Int.mul_assoc, Int.mul_comm (g + 1) 2]
    rw [e]; omega
  rw [lo_ins hk, hi_ins hk]
  by_cases h1 : i < k
  · rw [if_pos h1, if_pos (by omega)]
    have := hA.lohi i
    exact key _ _ (by omega) (h i (by omega))
  · by_cases h2 : i = k
    · rw [if_neg h1, if_pos h2, if_pos (by omega), h2]
      refine key _ (hiE E k - loE E k) ?_ hk1
      show _ ≤ 2 * (newL E k - loE E k + 1)
      unfold newL; omega
    · rw [if_neg h1, if_neg h2, if_neg (by omega)]
      by_cases h3 : i = k + 1
      · rw [if_pos h3, show i - 1 = k by omega]
        refine key _ (hiE E k - loE E k) ?_ hk1
        show _ ≤ 2 * (hiE E k - newL E k + 1)
        unfold newL; omega
      · rw [if_neg h3]
        have := hA.lohi (i - 1)
        exact key _ _ (by omega) (h (i - 1) (by omega))
theorem wide_erase {P : Int} {E : List El} (h : Wide P E) (hA : Asc E) (hP : 0 ≤ P) {j : Nat} (hj : j < E.length) : Wide P (E.eraseIdx j) := by
  intro i hi
  rw [List.length_eraseIdx, if_pos hj] at hi
  rw [lo_erase, hi_erase]
  by_cases h1 : i < j
  · rw [if_pos h1, if_pos (by omega)]; exact h i (by omega)
  · rw [if_neg h1]
    by_cases h2 : i = j
    · rw [if_pos (by omega), h2]
      have h3 := h j (by omega)
      have h4 : hiE E j < hiE E (j + 1) := by
        have hjj : E[j]? = some E[j] := List.getElem?_eq_getElem hj
        rw [hi_some hjj, ← lo_succ hjj]
        exact hA.lohi (j + 1)
      have := Int.mul_le_mul_of_nonneg_right (show hiE E j - loE E j + 1 ≤ hiE E (j + 1) - loE E j + 1 by omega) hP
      omega
    · rw [if_neg (by omega)]; exact h (i + 1) (by omega)
/-- The moves up to now: s spreads, c insertions since the last one. -/
def Few (made : Nat) (mv : Int) (E : List El) : Prop := ∃ s c : Nat, 29 * s + c ≤ made ∧ mv ≤ ((s * made : Nat) : Int) ∧ Wide (((2 ^ c : Nat)) : Int) E
theorem Few.start : Few 0 0 [] := ⟨0, 0, by omega, by simp, fun k hk => by
  have h0 : k = 0 := Nat.le_zero.1 hk
  subst h0
  show (1073741824 : Int) ≤ (1099511627777 - -1 + 1) * ((2 ^ 0 : Nat) : Int)
  simp⟩
theorem Few.del {made : Nat} {mv : Int} {E : List El} (h : Few made mv E) (hA : Asc E) {j : Nat} (hj : j < E.length) : Few made mv (E.eraseIdx j) := by
  obtain ⟨s, c, h1, h2, h3⟩ := h
  exact ⟨s, c, h1, h2, wide_erase h3 hA (Int.natCast_nonneg _) hj⟩
theorem two_pow_step (c : Nat) : (((2 ^ (c + 1) : Nat)) : Int) = 2 * ((2 ^ c : Nat) : Int) := by rw [Nat.pow_succ]; omega
theorem two_pow_lt {c : Nat} (h : c < 29) : 2 ^ c ≤ 268435456 := by
  have := Nat.pow_le_pow_right (show 0 < 2 by omega) (show c ≤ 28 by omega)
  exact Nat.le_trans this (by decide)
theorem Few.ins {made : Nat} {mv : Int} {E : List El} (h : Few made mv E) (hA : Asc E) (hl : E.length ≤ made) (hm : made ≤ 1000) {k a : Nat} (hk : k ≤ E.length) :
    Few (made + 1) (sprM mv E k) (insE (sprE E k) k ⟨made, newL (sprE E k) k, a⟩) := by
  obtain ⟨s, c, h1, h2, h3⟩ := h
  have hA' := hA.spr (k := k) (by omega)
  unfold sprE sprM at *
  by_cases hs : hiE E k - loE E k < 2
  · rw [if_pos hs, if_pos hs] at *
    have hc : 29 ≤ c := by
      by_cases hc : c < 29
      · have h4 := h3 k hk
        have h5 : (((2 ^ c : Nat)) : Int) ≤ 268435456 := by have := two_pow_lt hc; omega
        have h6 := hA.lohi k
        have h7 := Int.mul_le_mul (show hiE E k - loE E k + 1 ≤ 2 by omega) h5 (Int.natCast_nonneg _) (by omega)
        omega
      · omega
    have hw : Wide (((2 ^ 0 : Nat)) : Int) (relab E (stE E) E.length) := fun i hi => by
      rw [relab_len] at hi
      have := gap_spread (E := E) i hi
      have h8 : 1073741824 ≤ stE E := Nat.le_trans (by decide) (stE_ge (show E.length + 1 ≤ 1001 by omega))
      simp only [Nat.pow_zero, Int.natCast_one, Int.mul_one]
      omega
    refine ⟨s + 1, 1, by omega, ?_, ?_⟩
    · have hch := chg_le E (stE E) E.length
      have h9 : (s + 1) * (made + 1) = s * made + s + made + 1 := by rw [Nat.add_mul, Nat.mul_add]; omega
      rw [h9]; push_cast; omega
    · have := wide_ins (a := a) (n := made) hw hA' (Int.natCast_nonneg _) (by rw [relab_len]; exact hk)
      rw [show (((2 ^ 1 : Nat)) : Int) = 2 * ((2 ^ 0 : Nat) : Int) from two_pow_step 0]
      exact this
  · rw [if_neg hs, if_neg hs] at *
    refine ⟨s, c + 1, by omega, ?_, ?_⟩
    · have h9 : s * (made + 1) = s * made + s := by rw [Nat.mul_add]; omega
      rw [h9]; push_cast; omega
    · rw [two_pow_step]
      exact wide_ins h3 hA (Int.natCast_nonneg _) hk
end Go.Proofs.Ytbmaijkpcpbgjaa
