/- The reference's Parse, by what it says of a text. -/
import Derived.Test.YtmebdieflllgcaaDoorRatTf
namespace Go.Proofs.YtmebdieflllgcaaDoor
open Go.RowKit
set_option maxRecDepth 100000

/-- What the reference says of a text. -/
def refRes (l : List UInt8) : Int × Int × Bool := if (cand l).2.2 = l.length ∧ vldB (cand l).1 (cand l).2.1 = true ∧ txtL (cand l).1 (cand l).2.1 = l then ((cand l).1, (cand l).2.1, true) else (0, 0, false)
theorem refRes_yes {l : List UInt8} {n d : Int} (h : PA l n d) : refRes l = (n, d, true) := by
  have hc := cand_txt h.1
  rw [h.2] at hc
  unfold refRes
  rw [hc, if_pos ⟨rfl, vldB_true.2 h.1, h.2⟩]
theorem refRes_no {l : List UInt8} (h : ∀ n d, ¬ PA l n d) : refRes l = (0, 0, false) := by
  unfold refRes
  rw [if_neg (fun ⟨_, h2, h3⟩ => h _ _ ⟨vldB_true.1 h2, h3⟩)]
/-- The four ends of the reference's Parse. -/
theorem ref_ends {s : ByteArray} {n d : Int} {k : Nat} (hc : cand s.data.toList = (n, d, k)) : (¬ k = s.size ∧ (refRes s.data.toList).1 = 0 ∧ (refRes s.data.toList).2.1 = 0 ∧ (refRes s.data.toList).2.2 = false) ∨
    (k = s.size ∧ vldB n d = false ∧ (refRes s.data.toList).1 = 0 ∧ (refRes s.data.toList).2.1 = 0 ∧ (refRes s.data.toList).2.2 = false) ∨
    (k = s.size ∧ vldB n d = true ∧ ((ByteArray.mk (txtL n d).toArray).toList == s.toList) = false ∧ (refRes s.data.toList).1 = 0 ∧ (refRes s.data.toList).2.1 = 0 ∧ (refRes s.data.toList).2.2 = false) ∨
    (k = s.size ∧ vldB n d = true ∧ (ByteArray.mk (txtL n d).toArray) = s ∧ (refRes s.data.toList).1 = n ∧ (refRes s.data.toList).2.1 = d ∧ (refRes s.data.toList).2.2 = true) := by
  have hl : s.data.toList.length = s.size := rfl
  unfold refRes
  rw [hc, hl]
  dsimp only
  by_cases h1 : k = s.size
  · cases h2 : vldB n d with
    | false =>
      rw [if_neg (by simp)]
      exact .inr (.inl ⟨h1, rfl, rfl, rfl, rfl⟩)
    | true =>
      by_cases h3 : txtL n d = s.data.toList
      · rw [if_pos ⟨h1, rfl, h3⟩]
        exact .inr (.inr (.inr ⟨h1, rfl, str_of h3, rfl, rfl, rfl⟩))
      · rw [if_neg (fun h => h3 h.2.2)]
        refine .inr (.inr (.inl ⟨h1, rfl, ?_, rfl, rfl, rfl⟩))
        have := ne_str (X := ByteArray.mk (txtL n d).toArray) (s := s) (by rw [bytes_of]; exact h3)
        simpa [bne] using this
  · rw [if_neg (fun h => h1 h.1)]
    exact .inl ⟨h1, rfl, rfl, rfl⟩
theorem digits_is (s : ByteArray) (i : Nat) (hi : i ≤ s.size) (hs : s.size ≤ 200) (iI : Int) (hI : (i : Int) = iI) (W : World) :
    Calls Tryd.prog 48 #[.string s, .int .i64 iI] W fun e w' => e = .returned (.tuple #[.int .i64 ((dg 11 0 (s.data.toList.drop i)).1 : Int), .int .i64 ((i + (dg 11 0 (s.data.toList.drop i)).2 : Nat) : Int)]) ∧ W = w' := by
  rw [← hI]
  exact digits_any s i W hi hs
theorem at_nat {s : ByteArray} {k : Nat} (h : k < s.size) (c : UInt8) : ((s[k].toNat : Int) == (c.toNat : Int)) = decide (s.data.toList[k]? = some c) := by
  have e : s.data.toList[k]? = some s[k] := by rw [List.getElem?_eq_getElem (by simpa using h)]; rfl
  rw [e, Bool.eq_iff_iff, beq_iff_eq, decide_eq_true_iff, Option.some.injEq]
  constructor
  · intro h1
    exact UInt8.toNat_inj.1 (by omega)
  · intro h1
    rw [h1]
theorem refParse_full (s : ByteArray) (w : World) (hs0 : 0 < s.size) (hs : s.size ≤ 200) :
    Calls Tryd.prog 32 #[.string s] w fun e w' => e = .returned (.tuple #[.agg #[.int .i64 (refRes s.data.toList).1, .int .i64 (refRes s.data.toList).2.1], .bool (refRes s.data.toList).2.2]) ∧ Below w.heap.size w w' := by
  have hl : s.data.toList.length = s.size := rfl
  have hh : s.data.toList.head? = s.data.toList[0]? := List.head?_eq_getElem?
  have a45 := at_nat hs0 45
  have kt : ∀ n d, vldB n d = true → ∀ W, Calls Tryd.prog 34 #[.agg #[.int .i64 n, .int .i64 d]] W fun e w' => e = .returned (.string ⟨(txtL n d).toArray⟩) ∧ Below W.heap.size W w' := fun n d hv W => refText_any n d W (vldB_true.1 hv)
  by_cases h45 : s.data.toList.head? = some 45
  · rw [← hh, h45] at a45
    have h45' : ((s[0].toNat : Int) == 45) = true := by simpa using a45
    obtain ⟨P, j, hp⟩ : ∃ P j, dg 11 0 (s.data.toList.drop 1) = (P, j) := ⟨_, _, rfl⟩
    have hb := dg_val 11 0 (s.data.toList.drop 1)
    have hj := (dg_len 11 0 (s.data.toList.drop 1)).2
    have k1 := fun W => digits_is s 1 (by omega) hs 1 rfl W
    rw [hp] at hb hj k1
    rw [List.length_drop, hl] at hj
    dsimp only at hb hj k1
    by_cases hK : 1 + j < s.size
    · have a47 := at_nat hK 47
      by_cases h47 : s.data.toList[1 + j]? = some 47
      · obtain ⟨D, L, hq⟩ : ∃ D L, dg 11 0 (s.data.toList.drop (1 + j + 1)) = (D, L) := ⟨_, _, rfl⟩
        have k2 := fun W => digits_is s (1 + j + 1) (by omega) hs (((1 + j : Nat) : Int) + 1) (by omega) W
        rw [hq] at k2
        dsimp only at k2
        have hc : cand s.data.toList = (-(P : Int), (D : Int), 1 + j + 1 + L) := by
          unfold cand
          simp only [h45, if_true, hp, h47, hq]
        exact refParse_nC s _ (P : Int) (D : Int) _ _ (1 + j) (1 + j + 1 + L) _ w hs0 hs (by omega) (by omega) h45' k1 hK (by rw [h47] at a47; simpa using a47) k2 (kt _ _) (ref_ends hc)
      · have hc : cand s.data.toList = (-(P : Int), 1, 1 + j) := by
          unfold cand
          simp only [h45, if_true, hp, h47, if_false]
        exact refParse_nB s _ (P : Int) 0 _ _ (1 + j) 0 _ w hs0 hs (by omega) (by omega) h45' k1 hK (by rw [decide_eq_false h47] at a47; exact a47) (kt _ _) (ref_ends hc)
    · have h47 : ¬ s.data.toList[1 + j]? = some 47 := by rw [List.getElem?_eq_none (by omega)]; simp
      have hc : cand s.data.toList = (-(P : Int), 1, 1 + j) := by
        unfold cand
        simp only [h45, if_true, hp, h47, if_false]
      exact refParse_nA s _ (P : Int) 0 _ _ (1 + j) 0 _ w hs0 hs (by omega) (by omega) h45' k1 hK (kt _ _) (ref_ends hc)
  · rw [← hh, decide_eq_false h45] at a45
    have h45' : ((s[0].toNat : Int) == 45) = false := by simpa using a45
    obtain ⟨P, j, hp⟩ : ∃ P j, dg 11 0 (s.data.toList.drop 0) = (P, j) := ⟨_, _, rfl⟩
    have hb := dg_val 11 0 (s.data.toList.drop 0)
    have hj := (dg_len 11 0 (s.data.toList.drop 0)).2
    have k1 := fun W => digits_is s 0 (by omega) hs 0 rfl W
    rw [hp] at hb hj k1
    rw [List.length_drop, hl] at hj
    dsimp only at hb hj k1
    rw [Nat.zero_add] at k1
    by_cases hK : j < s.size
    · have a47 := at_nat hK 47
      by_cases h47 : s.data.toList[j]? = some 47
      · obtain ⟨D, L, hq⟩ : ∃ D L, dg 11 0 (s.data.toList.drop (j + 1)) = (D, L) := ⟨_, _, rfl⟩
        have k2 := fun W => digits_is s (j + 1) (by omega) hs ((j : Int) + 1) (by omega) W
        rw [hq] at k2
        dsimp only at k2
        have hc : cand s.data.toList = ((P : Int), (D : Int), j + 1 + L) := by
          unfold cand
          simp only [h45, if_false, hp, Nat.zero_add, h47, if_true, hq]
        exact refParse_pC s _ (P : Int) (D : Int) _ _ j (j + 1 + L) _ w hs0 hs (by omega) (by omega) h45' k1 hK (by rw [h47] at a47; simpa using a47) k2 (kt _ _) (ref_ends hc)
      · have hc : cand s.data.toList = ((P : Int), 1, j) := by
          unfold cand
          simp only [h45, if_false, hp, Nat.zero_add, h47]
        exact refParse_pB s _ (P : Int) 0 _ _ j 0 _ w hs0 hs (by omega) (by omega) h45' k1 hK (by rw [decide_eq_false h47] at a47; exact a47) (kt _ _) (ref_ends hc)
    · have h47 : ¬ s.data.toList[j]? = some 47 := by rw [List.getElem?_eq_none (by omega)]; simp
      have hc : cand s.data.toList = ((P : Int), 1, j) := by
        unfold cand
        simp only [h45, if_false, hp, Nat.zero_add, h47]
      exact refParse_pA s _ (P : Int) 0 _ _ j 0 _ w hs0 hs (by omega) (by omega) h45' k1 hK (kt _ _) (ref_ends hc)
end Go.Proofs.YtmebdieflllgcaaDoor
