/- The reference's Layout. -/
import Derived.Test.YtmlgbmfjnbhamaaTlE
namespace Go.Proofs.Ytmlgbmfjnbhamaa
open Go.RowKit
set_option maxRecDepth 100000
set_option maxHeartbeats 8000000 in
theorem refLayout_any (kind h n : Nat) (w : World) (hk : 1 ≤ kind ∧ kind ≤ 4) (hh : 1 ≤ h ∧ h ≤ 16) (hn : n = 2 ^ h - 1) : Calls Try.prog 17 #[.int .i64 (kind : Int), .int .i64 (h : Int)] w fun er w' => ∃ g, er = .returned (.slice (some ⟨g, 0, none⟩) n n) ∧ ORow w.heap.size w' (some ⟨g, 0, none⟩) n (layK kind h) ∧ Below w.heap.size w w' := by
  have HC := Lib.hid (count_any h n w (by omega) hn)
  obtain ⟨M, hM⟩ : ∃ M, M = 2 ^ h := ⟨_, rfl⟩
  have hM2 : M ≤ 65536 := by rw [hM]; exact Nat.le_trans (Nat.pow_le_pow_right (by omega) hh.2) (by decide)
  rw [← hM] at hn
  have hnl : n ≤ 65535 := by omega
  have hmk := run_mk n (by omega)
  have hlay : layK kind h = layF n (ordK kind h) := by unfold layK; rw [← hM, ← hn]
  have hol : (ordK kind h).length ≤ 65535 := by have := ordK_len kind h hh.1; rw [← hM] at this; omega
  obtain ⟨W1, hW1⟩ : ∃ W1, W1 = w.alloc (.cells (madeCells #[.int .i64 0] n) 3) := ⟨_, rfl⟩
  have hst : LayS w w.heap.size w.heap.size n [] W1 := by
    refine ⟨?_, ?_⟩
    · refine row_made (by unfold maxLen; omega) (Nat.le_refl _) ?_
      rw [hW1]
      exact bdNew w _
    · rw [hW1]; exact (Below.refl _ _).alloc (Nat.le_refl _) _
  have HST := Lib.hid hst
  have HW1 := Lib.hid hW1
  have HLAY := Lib.hid hlay
  have HOL := Lib.hid hol
  have HMM := Lib.hid hM
  have HNM := Lib.hid hn
  clear hst hW1 hlay hol hM hn
  have fin : ∀ S W, ordK kind h = S → LayS w w.heap.size w.heap.size n S W → ORow w.heap.size W (some ⟨w.heap.size, 0, none⟩) n (layK kind h) ∧ Below w.heap.size w W := fun S W hS hp =>
    ⟨ORow.of (by rw [HLAY.out, hS]; exact hp.row) (by rw [layK_len, ← HMM.out, ← HNM.out]), hp.bel⟩
  have FIN := Lib.hid fin
  clear fin
  rcases (show kind = 1 ∨ kind = 2 ∨ kind = 3 ∨ kind = 4 by omega) with rfl | rfl | rfl | rfl
  · have HO : Hid (ordK 1 h = List.range n) := Lib.hid (by unfold ordK; rw [if_pos rfl, ← HMM.out, ← HNM.out])
    go_enter Try.func17, Try.ntmps17
    go_wp2_with fail
    refine HC.out.mono ?_
    rintro er w1 ⟨rfl, rfl⟩
    go_wp2_with fail
    rw [← HW1.out]
    go_loopw [6] (fun s wr => ∃ i : Nat, i ≤ n ∧ s = .int .i64 i ∧ LayS w w.heap.size w.heap.size n (List.range i) wr) (fun s _ => n - (intOf s).toNat)
    case atStart => exact ⟨0, by omega, rfl, HST.out⟩
    case round =>
      obtain ⟨i, hi, rfl, hp⟩ := hrel
      by_cases hlt : i < n
      · have hltI : (i : Int) < (n : Int) := by omega
        have hi0 : (0 : Int) ≤ (i : Int) := by omega
        obtain ⟨y, y0, f0⟩ := hp.at' hlt
        have h2 := hp.set (v := i)
        rw [List.length_range, ← List.range_succ] at h2
        have H2 := Lib.hid h2
        clear hp h2
        go_wp2_with fail
        go_roundw
        case rel => exact ⟨i + 1, by omega, by go_num, H2.out⟩
        case measure => simp [intOf]; omega
      · obtain rfl : i = n := by omega
        have H2 := Lib.hid hp
        clear hp
        go_wp2_with fail
        go_ret
        exact ⟨w.heap.size, rfl, FIN.out _ _ HO.out H2.out⟩
  · have HO : Hid (ordK 2 h = ordW n 2 h 0) := Lib.hid (by unfold ordK; rw [if_neg (by omega), if_neg (by omega), ← HMM.out, ← HNM.out])
    have HWK := Lib.hid (inorder_any w w.heap.size w.heap.size n (by omega) h 0 0 [] W1 (by rw [← HMM.out]; have := HNM.out; have : 1 ≤ M := (by rw [HMM.out]; exact Nat.one_le_two_pow); omega) (by omega) HST.out rfl (by rw [← HO.out]; have := HOL.out; omega))
    rw [List.nil_append] at HWK
    go_enter Try.func17, Try.ntmps17
    go_wp2_with fail
    refine HC.out.mono ?_
    rintro er w1 ⟨rfl, rfl⟩
    go_wp2_with fail
    rw [← HW1.out]
    refine HWK.out.mono ?_
    rintro er w2 ⟨rfl, h2⟩
    have H2 := Lib.hid h2
    clear h2
    go_wp2_with fail
    go_ret
    exact ⟨w.heap.size, rfl, FIN.out _ _ HO.out H2.out⟩
  · have HO : Hid (ordK 3 h = ordW n 3 h 0) := Lib.hid (by unfold ordK; rw [if_neg (by omega), if_neg (by omega), ← HMM.out, ← HNM.out])
    have HWK := Lib.hid (preorder_any w w.heap.size w.heap.size n (by omega) h 0 0 [] W1 (by rw [← HMM.out]; have := HNM.out; have : 1 ≤ M := (by rw [HMM.out]; exact Nat.one_le_two_pow); omega) (by omega) HST.out rfl (by rw [← HO.out]; have := HOL.out; omega))
    rw [List.nil_append] at HWK
    go_enter Try.func17, Try.ntmps17
    go_wp2_with fail
    refine HC.out.mono ?_
    rintro er w1 ⟨rfl, rfl⟩
    go_wp2_with fail
    rw [← HW1.out]
    refine HWK.out.mono ?_
    rintro er w2 ⟨rfl, h2⟩
    have H2 := Lib.hid h2
    clear h2
    go_wp2_with fail
    go_ret
    exact ⟨w.heap.size, rfl, FIN.out _ _ HO.out H2.out⟩
  · have HO : Hid (ordK 4 h = ordE h 0 h) := Lib.hid (by unfold ordK; rw [if_neg (by decide), if_pos rfl])
    have HWK := Lib.hid (emde_any w w.heap.size w.heap.size n (by omega) h 0 h 0 [] W1 hh.1 hh.2 (Nat.le_refl _) (by
      have : 2 ^ h = 2 ^ (h - 1) * 2 := by rw [← Nat.pow_succ]; congr 1; omega
      have h1 := HMM.out
      have h2 := HNM.out
      omega) HST.out rfl (by rw [← HO.out]; have := HOL.out; omega))
    rw [List.nil_append] at HWK
    go_enter Try.func17, Try.ntmps17
    go_wp2_with fail
    refine HC.out.mono ?_
    rintro er w1 ⟨rfl, rfl⟩
    go_wp2_with fail
    rw [← HW1.out]
    refine HWK.out.mono ?_
    rintro er w2 ⟨rfl, h2⟩
    have H2 := Lib.hid h2
    clear h2
    go_wp2_with fail
    go_ret
    exact ⟨w.heap.size, rfl, FIN.out _ _ HO.out H2.out⟩
end Go.Proofs.Ytmlgbmfjnbhamaa
