/- Layout, whole. -/
import Derived.Test.YtmlgbmfjnbhamaaTlB
namespace Go.Proofs.Ytmlgbmfjnbhamaa
open Go.RowKit
set_option maxRecDepth 100000
theorem isKind_any (k : Int) (w : World) (bb : Bool) (hbb : bb = true ↔ 1 ≤ k ∧ k ≤ 4) : Calls Try.prog 33 #[.int .i64 k] w fun e w' => e = .returned (.bool bb) ∧ w = w' := by
  by_cases h1 : 1 ≤ k
  · have d1 : decide (1 ≤ k) = true := decide_eq_true h1
    by_cases h2 : k ≤ 4
    · have d2 : decide (k ≤ 4) = true := decide_eq_true h2
      have hb : bb = true := hbb.2 ⟨h1, h2⟩
      subst hb
      clear h1 h2 hbb
      go_enter Try.func33, Try.ntmps33
      go_wp2_with fail
      go_ret
      exact ⟨rfl, rfl⟩
    · have d2 : decide (k ≤ 4) = false := decide_eq_false h2
      have hb : bb = false := by
        cases hv : bb
        · rfl
        · exact absurd (hbb.1 hv).2 h2
      subst hb
      clear h1 h2 hbb
      go_enter Try.func33, Try.ntmps33
      go_wp2_with fail
      go_ret
      exact ⟨rfl, rfl⟩
  · have d1 : decide (1 ≤ k) = false := decide_eq_false h1
    have hb : bb = false := by
      cases hv : bb
      · rfl
      · exact absurd (hbb.1 hv).1 h1
    subst hb
    clear h1 hbb
    go_enter Try.func33, Try.ntmps33
    go_wp2_with fail
    go_ret
    exact ⟨rfl, rfl⟩
theorem isHeight_any (k : Int) (w : World) (bb : Bool) (hbb : bb = true ↔ 1 ≤ k ∧ k ≤ 16) : Calls Try.prog 34 #[.int .i64 k] w fun e w' => e = .returned (.bool bb) ∧ w = w' := by
  by_cases h1 : 1 ≤ k
  · have d1 : decide (1 ≤ k) = true := decide_eq_true h1
    by_cases h2 : k ≤ 16
    · have d2 : decide (k ≤ 16) = true := decide_eq_true h2
      have hb : bb = true := hbb.2 ⟨h1, h2⟩
      subst hb
      clear h1 h2 hbb
      go_enter Try.func34, Try.ntmps34
      go_wp2_with fail
      go_ret
      exact ⟨rfl, rfl⟩
    · have d2 : decide (k ≤ 16) = false := decide_eq_false h2
      have hb : bb = false := by
        cases hv : bb
        · rfl
        · exact absurd (hbb.1 hv).2 h2
      subst hb
      clear h1 h2 hbb
      go_enter Try.func34, Try.ntmps34
      go_wp2_with fail
      go_ret
      exact ⟨rfl, rfl⟩
  · have d1 : decide (1 ≤ k) = false := decide_eq_false h1
    have hb : bb = false := by
      cases hv : bb
      · rfl
      · exact absurd (hbb.1 hv).1 h1
    subst hb
    clear h1 hbb
    go_enter Try.func34, Try.ntmps34
    go_wp2_with fail
    go_ret
    exact ⟨rfl, rfl⟩
theorem layout_no (k h : Int) (w : World) (hno : ¬ ((1 ≤ k ∧ k ≤ 4) ∧ (1 ≤ h ∧ h ≤ 16))) : Calls Try.prog 12 #[.int .i64 k, .int .i64 h] w fun e w' => e = .returned (.tuple #[.slice none 0 0, .int .i64 2]) ∧ w = w' := by
  by_cases hk : 1 ≤ k ∧ k ≤ 4
  · have HK := Lib.hid (isKind_any k w true (by simp [hk]))
    have HH := Lib.hid (isHeight_any h w false (by simp; intro h1; exact Int.not_le.1 (fun h2 => hno ⟨hk, h1, h2⟩)))
    clear hk hno
    go_enter Try.func12, Try.ntmps12
    go_wp2_with fail
    refine HK.out.mono ?_
    rintro er w1 ⟨rfl, rfl⟩
    go_wp2_with fail
    refine HH.out.mono ?_
    rintro er w1 ⟨rfl, rfl⟩
    go_wp2_with fail
    go_ret2
    exact ⟨rfl, rfl⟩
  · have HK := Lib.hid (isKind_any k w false (by simp; intro h1; exact Int.not_le.1 (fun h2 => hk ⟨h1, h2⟩)))
    clear hk hno
    go_enter Try.func12, Try.ntmps12
    go_wp2_with fail
    refine HK.out.mono ?_
    rintro er w1 ⟨rfl, rfl⟩
    go_wp2_with fail
    go_ret2
    exact ⟨rfl, rfl⟩
/-- What Layout leaves. -/
def LayP (kind n : Nat) (L : List Int) (w : World) (er : Ending) (w' : World) : Prop := ∃ g, er = .returned (.tuple #[.slice (some ⟨g, 0, none⟩) n n, .int .i64 0]) ∧ ORow w.heap.size w' (some ⟨g, 0, none⟩) n L ∧ Below w.heap.size w w'
set_option maxHeartbeats 8000000 in
theorem layout_yes (kind h n : Nat) (w : World) (hk : 1 ≤ kind ∧ kind ≤ 4) (hh : 1 ≤ h ∧ h ≤ 16) (hn : n = 2 ^ h - 1) : Calls Try.prog 12 #[.int .i64 (kind : Int), .int .i64 (h : Int)] w (LayP kind n (layK kind h) w) := by
  have HK := Lib.hid (isKind_any (kind : Int) w true (by simp; omega))
  have HH := Lib.hid (isHeight_any (h : Int) w true (by simp; omega))
  obtain ⟨M, hM⟩ : ∃ M, M = 2 ^ h := ⟨_, rfl⟩
  have hM2 : M ≤ 65536 := by rw [hM]; exact Nat.le_trans (Nat.pow_le_pow_right (by omega) hh.2) (by decide)
  have hM1 : 2 ≤ M := by
    rw [hM]
    calc 2 = 2 ^ 1 := rfl
      _ ≤ 2 ^ h := Nat.pow_le_pow_right (by omega) hh.1
  rw [← hM] at hn
  have hMI : (M : Int) - 1 = (n : Int) := by omega
  have hsh : (2 : Int) ^ h = (M : Int) := by rw [hM]; push_cast; rfl
  have hnl : n ≤ 65535 := by omega
  have hn1 : 1 ≤ n := by omega
  have hmk := run_mk n (by omega)
  have hlay : layK kind h = layF n (ordK kind h) := by unfold layK; rw [← hM, ← hn]
  have hol : (ordK kind h).length ≤ 65535 := by have := ordK_len kind h hh.1; rw [← hM] at this; omega
  obtain ⟨W1, hW1⟩ : ∃ W1, W1 = ((w.alloc (.cells (madeCells #[.int .i64 0] n) 3)).alloc (.cells #[.slice (some ⟨w.heap.size, 0, none⟩) n n] 23)).alloc (.cells #[.int .i64 0] 3) := ⟨_, rfl⟩
  have hz1 : W1.heap.size = w.heap.size + 3 := by rw [hW1]; simp
  have hb1 : Below w.heap.size w W1 := by rw [hW1]; exact (((Below.refl _ _).alloc (Nat.le_refl _) _).alloc (by simp) _).alloc (by simp; omega) _
  have hst : PutS w (w.heap.size + 1) (w.heap.size + 1 + 1) w.heap.size n [] W1 := by
    refine ⟨?_, ?_, ?_, hb1, by omega, by omega⟩
    · rw [hW1]
      refine bdOld ?_
      have := bdNew (w.alloc (.cells (madeCells #[.int .i64 0] n) 3)) (.cells #[.slice (some ⟨w.heap.size, 0, none⟩) n n] 23)
      rw [show (w.alloc (.cells (madeCells #[.int .i64 0] n) 3)).heap.size = w.heap.size + 1 by simp] at this
      exact this
    · rw [hW1]
      have := bdNew ((w.alloc (.cells (madeCells #[.int .i64 0] n) 3)).alloc (.cells #[.slice (some ⟨w.heap.size, 0, none⟩) n n] 23)) (.cells #[.int .i64 0] 3)
      rw [show ((w.alloc (.cells (madeCells #[.int .i64 0] n) 3)).alloc (.cells #[.slice (some ⟨w.heap.size, 0, none⟩) n n] 23)).heap.size = w.heap.size + 1 + 1 by simp] at this
      exact this
    · refine row_made (by unfold maxLen; omega) (Nat.le_refl _) ?_
      rw [hW1]
      exact bdOld (bdOld (bdNew w _))
  have HST := Lib.hid hst
  have HW1 := Lib.hid hW1
  have HLAY := Lib.hid hlay
  have HOL := Lib.hid hol
  obtain ⟨l0, lf⟩ := bk1 hst.lbx
  have hlb : w.heap.size + 1 < W1.heap.size := by omega
  have hMM := Lib.hid hM
  have HNM := Lib.hid hn
  clear hst hW1 hlay hol hb1 hM hn hz1
  rcases (show kind = 1 ∨ (kind = 2 ∨ kind = 3) ∨ kind = 4 by omega) with rfl | hk23 | rfl
  · have HO : Hid (ordK 1 h = List.range n) := Lib.hid (by unfold ordK; rw [if_pos rfl, ← hMM.out, ← HNM.out])
    go_enter Try.func12, Try.ntmps12
    go_wp2_with fail
    refine HK.out.mono ?_
    rintro er w1 ⟨rfl, rfl⟩
    go_wp2_with fail
    refine HH.out.mono ?_
    rintro er w1 ⟨rfl, rfl⟩
    go_wp2_with fail
    rw [← HW1.out]
    go_loopw [33] (fun s wr => ∃ i : Nat, i ≤ n ∧ s = .int .i64 i ∧ PutS w (w.heap.size + 1) (w.heap.size + 1 + 1) w.heap.size n (List.range i) wr) (fun s _ => n - (intOf s).toNat)
    case atStart => exact ⟨0, by omega, rfl, HST.out⟩
    case round =>
      obtain ⟨i, hi, rfl, hp⟩ := hrel
      by_cases hlt : i < n
      · have hltI : (i : Int) < (n : Int) := by omega
        have HP := Lib.hid (put_any w _ _ _ n i (List.range i) wr hp hlt (by simp; omega))
        rw [← List.range_succ] at HP
        clear hp l0 lf hlb
        go_wp2_with fail
        refine HP.out.mono ?_
        rintro er w2 ⟨rfl, h2⟩
        have H2 := Lib.hid h2
        clear h2
        go_wp2_with fail
        go_roundw
        case rel => exact ⟨i + 1, by omega, by go_num, H2.out⟩
        case measure => simp [intOf]; omega
      · obtain rfl : i = n := by omega
        have H2 := Lib.hid hp
        obtain ⟨m0, _⟩ := bk1 hp.lbx
        clear hp l0 lf hlb
        go_wp2_with fail
        go_ret2
        exact ⟨w.heap.size, rfl, ORow.of (by rw [HLAY.out, HO.out]; exact H2.out.row) (by rw [layK_len, ← hMM.out, ← HNM.out]), H2.out.bel⟩
  · have hk1 : ((kind : Int) == 1) = false := by simp; omega
    have hk4 : ((kind : Int) == 4) = false := by simp; omega
    have HO : Hid (ordK kind h = ordW n kind h 0) := Lib.hid (by unfold ordK; rw [if_neg (by omega), if_neg (by omega), ← hMM.out, ← HNM.out])
    have HWK := Lib.hid (walk_any w (w.heap.size + 1) (w.heap.size + 1 + 1) w.heap.size n kind hk23 (by omega) h 0 [] W1 (by rw [← hMM.out]; omega) (by omega) HST.out (by rw [← HO.out]; have := HOL.out; simp; omega))
    rw [List.nil_append, ← HO.out] at HWK
    clear HO
    clear hk23
    go_enter Try.func12, Try.ntmps12
    go_wp2_with fail
    refine HK.out.mono ?_
    rintro er w1 ⟨rfl, rfl⟩
    go_wp2_with fail
    refine HH.out.mono ?_
    rintro er w1 ⟨rfl, rfl⟩
    go_wp2_with fail
    rw [← HW1.out]
    refine HWK.out.mono ?_
    rintro er w2 ⟨rfl, h2⟩
    have H2 := Lib.hid h2
    obtain ⟨m0, _⟩ := bk1 h2.lbx
    clear h2 l0 lf
    go_wp2_with fail
    go_ret2
    exact ⟨w.heap.size, rfl, ORow.of (by rw [HLAY.out]; exact H2.out.row) (by rw [layK_len, ← hMM.out, ← HNM.out]), H2.out.bel⟩
  · have HO : Hid (ordK 4 h = ordE h 0 h) := Lib.hid (by unfold ordK; rw [if_neg (by decide), if_pos rfl])
    have HSP := Lib.hid (split_any w (w.heap.size + 1) (w.heap.size + 1 + 1) w.heap.size n (by omega) h 0 h [] W1 hh.1 hh.2 (Nat.le_refl _) (by
      have : 2 ^ h = 2 ^ (h - 1) * 2 := by rw [← Nat.pow_succ]; congr 1; omega
      have h1 := hMM.out
      omega) HST.out (by rw [← HO.out]; have := HOL.out; simp; omega))
    rw [List.nil_append, ← HO.out] at HSP
    clear HO
    go_enter Try.func12, Try.ntmps12
    go_wp2_with fail
    refine HK.out.mono ?_
    rintro er w1 ⟨rfl, rfl⟩
    go_wp2_with fail
    refine HH.out.mono ?_
    rintro er w1 ⟨rfl, rfl⟩
    go_wp2_with fail
    rw [← HW1.out]
    refine HSP.out.mono ?_
    rintro er w2 ⟨rfl, h2⟩
    have H2 := Lib.hid h2
    obtain ⟨m0, _⟩ := bk1 h2.lbx
    clear h2 l0 lf
    go_wp2_with fail
    go_ret2
    exact ⟨w.heap.size, rfl, ORow.of (by rw [HLAY.out]; exact H2.out.row) (by rw [layK_len, ← hMM.out, ← HNM.out]), H2.out.bel⟩
end Go.Proofs.Ytmlgbmfjnbhamaa
