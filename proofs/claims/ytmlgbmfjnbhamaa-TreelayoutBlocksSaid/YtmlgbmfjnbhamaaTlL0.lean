/- Two rows are equal; the example of the chapter; the law's own functions. -/
import Derived.Test.YtmlgbmfjnbhamaaTlQ
namespace Go.Proofs.Ytmlgbmfjnbhamaa
open Go.RowKit
set_option maxRecDepth 100000
theorem eq_rows {B1 B2 n m : Nat} {A1 A2 : Option Addr} {c1 c2 : Nat} {L M : List Int} {w : World} (hn : L.length = n) (hm : M.length = m) (hnl : n ≤ 100000) (hml : m ≤ 100000) (h1 : ORow B1 w A1 c1 L) (h2 : ORow B2 w A2 c2 M) :
    Calls Try.prog 15 #[.slice A1 n c1, .slice A2 m c2] w fun e w' => e = .returned (.bool (decide (L = M))) ∧ Below w.heap.size w w' := by
  rw [← hn, ← hm]
  refine (eqI_any _ _ A1 A2 c1 c2 L M w (by unfold maxLen; omega) (by unfold maxLen; omega) h1.ints h2.ints).mono ?_
  rintro e w' ⟨rfl, q, rfl⟩
  exact ⟨rfl, bdN (Below.refl _ _) q⟩
theorem eq_same {B1 B2 n : Nat} {A1 A2 : Option Addr} {c1 c2 : Nat} {L : List Int} {w : World} (hn : L.length = n) (hnl : n ≤ 100000) (h1 : ORow B1 w A1 c1 L) (h2 : ORow B2 w A2 c2 L) :
    Calls Try.prog 15 #[.slice A1 n c1, .slice A2 n c2] w fun e w' => e = .returned (.bool true) ∧ Below w.heap.size w w' := by
  refine (eq_rows hn hn hnl hnl h1 h2).mono ?_
  rintro e w' ⟨rfl, hb⟩
  exact ⟨by simp, hb⟩
theorem right_any (k h : Int) (w : World) (bb : Bool) (hbb : bb = true ↔ (1 ≤ k ∧ k ≤ 4) ∧ 1 ≤ h ∧ h ≤ 10) : Calls Try.prog 10 #[.int .i64 k, .int .i64 h] w fun e w' => e = .returned (.bool bb) ∧ w = w' := by
  have hb : bb = (decide (1 ≤ k) && decide (k ≤ 4) && decide (1 ≤ h) && decide (h ≤ 10)) := by
    rw [Bool.eq_iff_iff]; simp only [hbb, Bool.and_eq_true, decide_eq_true_eq]; omega
  clear hbb
  rcases hd1 : decide (1 ≤ k) with _ | _ <;> rcases hd2 : decide (k ≤ 4) with _ | _ <;> rcases hd3 : decide (1 ≤ h) with _ | _ <;> rcases hd4 : decide (h ≤ 10) with _ | _ <;>
  · rw [hd1, hd2, hd3, hd4] at hb
    simp at hb
    subst hb
    go_enter Try.func10, Try.ntmps10
    go_wp2_with fail
    go_ret
    exact ⟨rfl, rfl⟩
theorem outside_any (k h : Int) (w : World) (bb : Bool) (hbb : bb = true ↔ (k < 1 ∨ 4 < k) ∨ h < 1 ∨ 16 < h) : Calls Try.prog 11 #[.int .i64 k, .int .i64 h] w fun e w' => e = .returned (.bool bb) ∧ w = w' := by
  have hb : bb = (decide (k < 1) || decide (4 < k) || decide (h < 1) || decide (16 < h)) := by
    rw [Bool.eq_iff_iff]; simp only [hbb, Bool.or_eq_true, decide_eq_true_eq]; omega
  clear hbb
  rcases hd1 : decide (k < 1) with _ | _ <;> rcases hd2 : decide (4 < k) with _ | _ <;> rcases hd3 : decide (h < 1) with _ | _ <;> rcases hd4 : decide (16 < h) with _ | _ <;>
  · rw [hd1, hd2, hd3, hd4] at hb
    simp at hb
    subst hb
    go_enter Try.func11, Try.ntmps11
    go_wp2_with fail
    go_ret
    exact ⟨rfl, rfl⟩
set_option maxHeartbeats 2000000 in
theorem awake_any (w : World) : Calls Try.prog 9 #[] w fun e w' => e = .returned (.bool true) ∧ Below w.heap.size w w' := by
  have HL := Lib.hid (layout_yes 4 4 15 w (by omega) (by omega) (by decide))
  obtain ⟨K, hK⟩ : ∃ K, K = layK 4 4 := ⟨_, rfl⟩
  rw [← hK] at HL
  have HK := Lib.hid (hK.trans awLay)
  clear hK
  go_enter Try.func9, Try.ntmps9
  go_wp2_with fail
  refine HL.out.mono ?_
  rintro er w1 ⟨g, rfl, hr, hb⟩
  have hr2 := hr.below ((Below.refl w1.heap.size w1).alloc (Nat.le_refl _) (.cells #[.int .i64 0, .int .i64 1, .int .i64 2, .int .i64 3, .int .i64 6, .int .i64 9, .int .i64 12, .int .i64 4, .int .i64 5, .int .i64 7, .int .i64 8, .int .i64 10, .int .i64 11, .int .i64 13, .int .i64 14] 3))
  have hl2 : ORow w1.heap.size (w1.alloc (.cells #[.int .i64 0, .int .i64 1, .int .i64 2, .int .i64 3, .int .i64 6, .int .i64 9, .int .i64 12, .int .i64 4, .int .i64 5, .int .i64 7, .int .i64 8, .int .i64 10, .int .i64 11, .int .i64 13, .int .i64 14] 3)) (some ⟨w1.heap.size, 0, none⟩) 15 K := by
    rw [HK.out]
    exact ⟨rfl, Or.inr ⟨w1.heap.size, 15, _, rfl, Nat.le_refl _, heap_alloc_new w1 _, Nat.le_refl _, by unfold maxLen; omega, by simp, rfl⟩⟩
  have HE := Lib.hid (eq_same (n := 15) (by rw [HK.out]; rfl) (by omega) hr2 hl2)
  have HB := Lib.hid hb
  clear hr hr2 hl2 hb HL
  go_wp2_with fail
  refine HE.out.mono ?_
  rintro er w2 ⟨rfl, hb2⟩
  have HB2 : Hid (Below w.heap.size w w2) := Lib.hid ((HB.out.alloc HB.out.size _).trans (hb2.mono (by have := HB.out.size; simp; omega)))
  clear hb2
  go_wp2_with fail
  go_ret
  exact ⟨rfl, HB2.out⟩
end Go.Proofs.Ytmlgbmfjnbhamaa
