/- slices.Reverse on a row of ints (for a seat that does not import versiontree's texts, which have it too). -/
import Derived.Test.YtmlgbmfjnbhamaaRowU
namespace Go.Proofs.Ytmlgbmfjnbhamaa
open Go.RowKit
set_option maxRecDepth 100000
/-- A list with its first and last i elements exchanged. -/
def revK (L : List Value) (i : Nat) : List Value := (List.range L.length).map fun t => L.getD (if t < i ∨ L.length ≤ t + i then L.length - 1 - t else t) undef
theorem revK_zero (L : List Value) : revK L 0 = L := by
  apply List.ext_getElem?
  intro t
  unfold revK
  rw [List.getElem?_map]
  by_cases ht : t < L.length
  · rw [List.getElem?_range ht]
    simp only [Option.map_some]
    rw [if_neg (by omega), List.getD_eq_getElem?_getD, List.getElem?_eq_getElem ht]
    rfl
  · rw [List.getElem?_eq_none (by simp; omega), List.getElem?_eq_none (by omega)]; rfl
theorem revK_get {L : List Value} {i t : Nat} (ht : t < L.length) : (revK L i)[t]? = some (L.getD (if t < i ∨ L.length ≤ t + i then L.length - 1 - t else t) undef) := by
  unfold revK
  rw [List.getElem?_map, List.getElem?_range ht]
  rfl
theorem revK_len (L : List Value) (i : Nat) : (revK L i).length = L.length := by simp [revK]
theorem revK_swap {L : List Value} {i : Nat} (hi : i < L.length - 1 - i) : ((revK L i).set i (L.getD (L.length - 1 - i) undef)).set (L.length - 1 - i) (L.getD i undef) = revK L (i + 1) := by
  apply List.ext_getElem?
  intro t
  by_cases ht : t < L.length
  · rw [revK_get ht, List.getElem?_set, List.getElem?_set, revK_get ht, List.length_set, revK_len]
    by_cases h1 : L.length - 1 - i = t
    · rw [if_pos h1, if_pos (by omega), if_pos (by omega)]
      rw [show L.length - 1 - t = i by omega]
    · rw [if_neg h1]
      by_cases h2 : i = t
      · rw [if_pos h2, if_pos (by omega), if_pos (by omega), h2]
      · rw [if_neg h2]
        congr 2
        by_cases h3 : t < i ∨ L.length ≤ t + i
        · rw [if_pos h3, if_pos (by omega)]
        · rw [if_neg h3, if_neg (by omega)]
  · rw [List.getElem?_eq_none (by rw [List.length_set, List.length_set, revK_len]; omega), List.getElem?_eq_none (by rw [revK_len]; omega)]
theorem revK_end {L : List Value} {i : Nat} (hi : L.length ≤ 2 * i + 1) : revK L i = L.reverse := by
  apply List.ext_getElem?
  intro t
  by_cases ht : t < L.length
  · rw [revK_get ht, List.getElem?_reverse ht]
    rw [List.getD_eq_getElem?_getD]
    by_cases h3 : t < i ∨ L.length ≤ t + i
    · rw [if_pos h3, List.getElem?_eq_getElem (by omega)]; rfl
    · rw [if_neg h3, show L.length - 1 - t = t by omega, List.getElem?_eq_getElem ht]; rfl
  · rw [List.getElem?_eq_none (by rw [revK_len]; omega), List.getElem?_eq_none (by simp; omega)]
set_option maxHeartbeats 4000000 in
theorem reverse_any (B g n cap : Nat) (L : List Value) (M : List Int) (hM : L = M.map (Value.int .i64)) (w : World) (hl : n ≤ 1000000) (h : w.ownsRow B 3 1 (.slice (some ⟨g, 0, none⟩) n cap) n L) (hn0 : 0 < n) :
    Calls Try.prog 38 #[.slice (some ⟨g, 0, none⟩) n cap] w fun e w' => e = .returned (.tuple #[]) ∧ w'.ownsRow B 3 1 (.slice (some ⟨g, 0, none⟩) n cap) n L.reverse ∧ Below B w w' := by
  have hL : L.length = n := by have := h.1; omega
  have HL := Lib.hid hL
  have HG := Lib.hid (show ∀ t, t < n → ∃ a, L.getD t undef = .int .i64 a from fun t ht => by
    rw [List.getD_eq_getElem?_getD, hM, List.getElem?_map]
    have : t < M.length := by rw [hM, List.length_map] at hL; omega
    rw [List.getElem?_eq_getElem this]
    exact ⟨_, rfl⟩)
  clear hM
  have hgB := (h.lt g rfl).1
  have H1 := Lib.hid h
  have hn0I : (1 : Int) ≤ (n : Int) := by omega
  clear h hL
  go_enter Try.func38, Try.ntmps38
  go_wp2_with fail
  go_loopw [2, 3] (fun s2 s3 wr => ∃ i : Nat, i ≤ n ∧ s2 = .int .i64 i ∧ s3 = .int .i64 ((n : Int) - 1 - i) ∧ wr.ownsRow B 3 1 (.slice (some ⟨g, 0, none⟩) n cap) n (revK L i) ∧ Below B w wr) (fun s2 _ _ => n - (intOf s2).toNat)
  case atStart => exact ⟨0, by omega, rfl, by simp, by rw [revK_zero]; exact H1.out, Below.refl _ _⟩
  case round =>
    obtain ⟨i, hi, rfl, rfl, how, hb⟩ := hrel
    have HW := Lib.hid how
    have HB := Lib.hid hb
    by_cases hlt : i < n - 1 - i
    · obtain ⟨j, hj⟩ : ∃ j, j = n - 1 - i := ⟨_, rfl⟩
      have hjI : (n : Int) - 1 - (i : Int) = (j : Int) := by omega
      rw [hjI]
      have hij : i < j := by omega
      have hijI : (i : Int) < (j : Int) := by omega
      have hjn : j < n := by omega
      have hjnI : (j : Int) < (n : Int) := by omega
      have hinI : (i : Int) < (n : Int) := by omega
      have x0 := how.cellAt i (by omega)
      have x1 := how.cellAt j (by omega)
      rw [revK_get (by rw [HL.out]; omega), if_neg (by rw [HL.out]; omega)] at x0 x1
      have f0 := how.frozenAt i
      have f1 := how.frozenAt j
      have HS := Lib.hid ((how.stored i (L.getD j undef)).1.stored j (L.getD i undef)).1
      have HSW := Lib.hid (revK_swap (L := L) (i := i) (by rw [HL.out]; omega))
      rw [HL.out, ← hj] at HSW
      obtain ⟨vi, hvi⟩ := HG.out i (by omega)
      obtain ⟨vj, hvj⟩ := HG.out j (by omega)
      rw [hvi] at x0 HS HSW
      rw [hvj] at x1 HS HSW
      clear hvi hvj
      have HJ := Lib.hid hj
      have hne : i ≠ j := by omega
      have hne2 : j ≠ i := by omega
      clear how hb hj hjI hlt
      go_wp2_with fail
      go_region
      go_wp2_with fail
      go_roundw
      case rel => exact ⟨i + 1, by omega, by go_num, by have := HJ.out; exact congrArg (Value.int .i64) (by omega), by rw [← HSW.out]; exact HS.out, bdN ((HB.out.setCell (p := ⟨g, i, none⟩) hgB _).setCell (p := ⟨g, j, none⟩) hgB _) 1⟩
      case measure => simp [intOf]; omega
    · have HF := Lib.hid (revK_end (L := L) (i := i) (by rw [HL.out]; omega))
      have d1 : decide ((i : Int) < (n : Int) - 1 - (i : Int)) = false := decide_eq_false (by omega)
      clear how hb
      go_wp2_with fail
      go_end0
      exact ⟨rfl, by rw [← HF.out]; exact HW.out, HB.out⟩
end Go.Proofs.Ytmlgbmfjnbhamaa
