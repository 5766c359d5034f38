/- Layouts: split. -/
import Derived.Test.YtmlgbmfjnbhamaaTlA
namespace Go.Proofs.Ytmlgbmfjnbhamaa
open Go.RowKit
set_option maxRecDepth 100000
set_option maxHeartbeats 8000000 in
theorem split_any (w0 : World) (lb nb g n : Nat) (hn : n ≤ 100000) : ∀ (f v h : Nat) (S : List Nat) (W : World), 1 ≤ h → h ≤ 16 → h ≤ f → (v + 2) * 2 ^ (h - 1) ≤ n + 1 → PutS w0 lb nb g n S W → S.length + (ordE f v h).length ≤ 100000 →
    Calls Try.prog 36 #[.int .i64 (v : Int), .int .i64 (h : Int), putV lb nb] W (PutP w0 lb nb g n (S ++ ordE f v h)) := fun f => by
  induction f with
  | zero => intro v h S W h1 _ h3; omega
  | succ f ih =>
    intro v h S W h1 h16 hf hb hp hS
    by_cases hh : h = 1
    · subst hh
      have hP := Lib.hid (put_any w0 lb nb g n v S W hp (by simp at hb; omega) (by omega))
      clear ih hb hp hS
      go_enter Try.func36, Try.ntmps36
      go_wp2_with fail
      refine hP.out.mono ?_
      rintro er w1 ⟨rfl, h2⟩
      have H2 := Lib.hid h2
      clear h2
      go_wp2_with fail
      go_end0
      exact ⟨rfl, H2.out⟩
    · obtain ⟨b, hbd⟩ : ∃ b, b = h / 2 := ⟨_, rfl⟩
      obtain ⟨t, htd⟩ : ∃ t, t = h - b := ⟨_, rfl⟩
      have hord : ordE (f + 1) v h = ordE f v t ++ (List.range (2 ^ t)).flatMap fun i => ordE f ((v + 1) * 2 ^ t - 1 + i) b := by
        show (if h = 1 then [v] else _) = _
        rw [if_neg hh, htd, hbd]
      obtain ⟨M, hM⟩ : ∃ M, M = 2 ^ t := ⟨_, rfl⟩
      have hM1 : 1 ≤ M := by rw [hM]; exact Nat.one_le_two_pow
      have ht15 : t ≤ 15 := by omega
      have hM2 : M ≤ 32768 := by rw [hM]; exact Nat.le_trans (Nat.pow_le_pow_right (by omega) ht15) (by decide)
      have hpow : 2 ^ (h - 1) = M * 2 ^ (b - 1) := by rw [hM, ← Nat.pow_add]; congr 1; omega
      have hpow2 : M = 2 ^ (t - 1) * 2 := by rw [hM, ← Nat.pow_succ]; congr 1; omega
      have hbt : (v + 2) * 2 ^ (t - 1) ≤ n + 1 := by
        refine Nat.le_trans (Nat.mul_le_mul_left _ ?_) hb
        exact Nat.pow_le_pow_right (by omega) (by omega)
      have hvn : v ≤ n := by
        have : (v + 2) * 1 ≤ (v + 2) * 2 ^ (t - 1) := Nat.mul_le_mul_left _ Nat.one_le_two_pow
        omega
      obtain ⟨q, hq⟩ : ∃ q, q = (v + 1) * M := ⟨_, rfl⟩
      have hbq : ∀ i, i < M → (q - 1 + i + 2) * 2 ^ (b - 1) ≤ n + 1 := fun i hi => by
        rw [hpow, ← Nat.mul_assoc] at hb
        refine Nat.le_trans (Nat.mul_le_mul_right _ ?_) hb
        rw [Nat.succ_mul (v + 1) M, ← hq]
        have : 1 ≤ q := by rw [hq]; exact Nat.mul_pos (by omega) (by omega)
        omega
      have hq1 : 1 ≤ q := by rw [hq]; exact Nat.mul_pos (by omega) (by omega)
      have hqn : q ≤ n + 1 := by
        have h2 := hbq 0 (by omega)
        have : (q - 1 + 0 + 2) * 1 ≤ (q - 1 + 0 + 2) * 2 ^ (b - 1) := Nat.mul_le_mul_left _ Nat.one_le_two_pow
        omega
      rw [← hM, ← hq] at hord
      obtain ⟨L1, hL1⟩ : ∃ L1, L1 = ordE f v t := ⟨_, rfl⟩
      rw [← hL1] at hord
      obtain ⟨F, hF⟩ : ∃ F : Nat → List Nat, F = fun i => ordE f (q - 1 + i) b := ⟨_, rfl⟩
      rw [← hF] at hord
      have HORD := Lib.hid hord
      rw [hord] at hS
      simp only [List.length_append] at hS
      have HC1 := Lib.hid (ih v t S W (by omega) (by omega) (by omega) hbt hp (by rw [← hL1]; omega))
      rw [← hL1] at HC1
      have HC2 := Lib.hid (fun i S W (hi : i < M) hp hS => ih (q - 1 + i) b S W (by omega) (by omega) (by omega) (hbq i hi) hp hS)
      have HF := Lib.hid hF
      have HSL := Lib.hid hS
      have hsh1 : (2 : Int) ^ t = (M : Int) := by rw [hM]; push_cast; rfl
      have hsh2 : ((v : Int) + 1) * (M : Int) = (q : Int) := by rw [hq]; push_cast; rfl
      have hhb : (h : Int).tdiv 2 = (b : Int) := by rw [Int.tdiv_eq_ediv_of_nonneg (by omega), hbd]; omega
      have hht : (h : Int) - (b : Int) = (t : Int) := by omega
      have hne : ((h : Int) == 1) = false := by simp; omega
      have HM := Lib.hid hM
      clear ih hord hL1 hF hS hp hb hbt hbq hpow hpow2 hq hM hbd htd
      go_enter Try.func36, Try.ntmps36
      go_wp2_with fail
      refine HC1.out.mono ?_
      rintro er w1 ⟨rfl, h2⟩
      have H2 := Lib.hid h2
      clear h2
      go_wp2_with fail
      go_loopw [25] (fun s wr => ∃ i : Nat, i ≤ M ∧ s = .int .i64 i ∧ PutS w0 lb nb g n (S ++ L1 ++ (List.range i).flatMap F) wr) (fun s _ => M - (intOf s).toNat)
      case atStart => exact ⟨0, by omega, rfl, by simpa using H2.out⟩
      case round =>
        obtain ⟨i, hi, rfl, hp⟩ := hrel
        by_cases hlt : i < M
        · have hltI : (i : Int) < (M : Int) := by omega
          have hfl : (List.range (i + 1)).flatMap F = (List.range i).flatMap F ++ F i := by rw [List.range_succ, List.flatMap_append]; simp
          have hle : ((List.range (i + 1)).flatMap F).length ≤ ((List.range M).flatMap F).length := by
            have h3 : List.range M = List.range (i + 1) ++ (List.range (M - (i + 1))).map (i + 1 + ·) := by rw [← List.range_add]; congr 1; omega
            rw [h3, List.flatMap_append, List.length_append]
            omega
          have HC := Lib.hid (HC2.out i (S ++ L1 ++ (List.range i).flatMap F) wr hlt hp (by
            rw [show ordE f (q - 1 + i) b = F i by rw [HF.out], List.length_append, List.length_append]
            rw [hfl, List.length_append] at hle
            have := HSL.out
            omega))
          rw [show ordE f (q - 1 + i) b = F i by rw [HF.out], List.append_assoc, ← hfl] at HC
          obtain ⟨u, hu⟩ : ∃ u : Nat, u = q - 1 + i := ⟨_, rfl⟩
          have huI : (q : Int) - 1 + (i : Int) = (u : Int) := by omega
          rw [← hu] at HC
          clear hp hfl hle hu
          go_wp2_with fail
          refine HC.out.mono ?_
          rintro er w2 ⟨rfl, h2⟩
          have H3 := Lib.hid h2
          clear h2
          go_wp2_with fail
          go_roundw
          case rel => exact ⟨i + 1, by omega, by go_num, H3.out⟩
          case measure => simp [intOf]; omega
        · obtain rfl : i = M := by omega
          have HP := Lib.hid hp
          clear hp
          go_wp2_with fail
          go_end0
          exact ⟨rfl, by rw [HORD.out, ← List.append_assoc]; exact HP.out⟩
end Go.Proofs.Ytmlgbmfjnbhamaa
