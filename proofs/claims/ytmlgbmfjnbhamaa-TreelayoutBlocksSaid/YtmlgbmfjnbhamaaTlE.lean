/- The reference's emde, Layout; the example of the chapter. -/
import Derived.Test.YtmlgbmfjnbhamaaTlD
namespace Go.Proofs.Ytmlgbmfjnbhamaa
open Go.RowKit
set_option maxRecDepth 100000
set_option maxHeartbeats 8000000 in
theorem emde_any (w0 : World) (B g n : Nat) (hn : n ≤ 100000) : ∀ (f v h s : Nat) (S : List Nat) (W : World), 1 ≤ h → h ≤ 16 → h ≤ f → (v + 2) * 2 ^ (h - 1) ≤ n + 1 → LayS w0 B g n S W → S.length = s → s + (ordE f v h).length ≤ 100000 →
    Calls Try.prog 41 #[.slice (some ⟨g, 0, none⟩) n n, .int .i64 (v : Int), .int .i64 (h : Int), .int .i64 (s : Int)] W (LayQ w0 B g n (S ++ ordE f v h)) := fun f => by
  induction f with
  | zero => intro v h s S W h1 _ h3; omega
  | succ f ih =>
    intro v h s S W h1 h16 hf hb hp hs hS
    by_cases hh : h = 1
    · subst hh
      have hvn : v < n := by simp at hb; omega
      obtain ⟨y, y0, f0⟩ := hp.at' hvn
      have h2 := hp.set (v := v)
      rw [hs] at h2
      have H2 := Lib.hid h2
      have HS := Lib.hid hs
      have hsl : s ≤ 100000 := by omega
      have hv0 : (0 : Int) ≤ (v : Int) := by omega
      have hvI : (v : Int) < (n : Int) := by omega
      have HO : Hid (ordE (f + 1) v 1 = [v]) := Lib.hid rfl
      clear ih hb hp hS h2 hs
      go_enter Try.func41, Try.ntmps41
      go_wp2_with fail
      go_ret
      exact ⟨by rw [HO.out, List.length_append, HS.out]; rfl, by rw [HO.out]; exact H2.out⟩
    · obtain ⟨b, hbd⟩ : ∃ b, b = h / 2 := ⟨_, rfl⟩
      obtain ⟨t, htd⟩ : ∃ t, t = h - b := ⟨_, rfl⟩
      have hord : ordE (f + 1) v h = ordE f v t ++ (List.range (2 ^ t)).flatMap fun i => ordE f ((v + 1) * 2 ^ t - 1 + i) b := by
        show (if h = 1 then [v] else _) = _
        rw [if_neg hh, htd, hbd]
      obtain ⟨M, hM⟩ : ∃ M, M = 2 ^ t := ⟨_, rfl⟩
      have hM1 : 1 ≤ M := by rw [hM]; exact Nat.one_le_two_pow
      have ht15 : t ≤ 15 := by omega
      have hM2 : M ≤ 32768 := by rw [hM]; exact Nat.le_trans (Nat.pow_le_pow_right (by omega) ht15) (by decide)
      have hpow : 2 ^ (h - 1) = M * 2 ^ (b - 1) := by rw [hM, ← Nat.pow_add]; congr 1; omega
      have hbt : (v + 2) * 2 ^ (t - 1) ≤ n + 1 := by
        refine Nat.le_trans (Nat.mul_le_mul_left _ ?_) hb
        exact Nat.pow_le_pow_right (by omega) (by omega)
      have hvn : v ≤ n := by
        have : (v + 2) * 1 ≤ (v + 2) * 2 ^ (t - 1) := Nat.mul_le_mul_left _ Nat.one_le_two_pow
        omega
      obtain ⟨q, hq⟩ : ∃ q, q = (v + 1) * M := ⟨_, rfl⟩
      have hbq : ∀ i, i < M → (q - 1 + i + 2) * 2 ^ (b - 1) ≤ n + 1 := fun i hi => by
        rw [hpow, ← Nat.mul_assoc] at hb
        refine Nat.le_trans (Nat.mul_le_mul_right _ ?_) hb
        rw [Nat.succ_mul (v + 1) M, ← hq]
        have : 1 ≤ q := by rw [hq]; exact Nat.mul_pos (by omega) (by omega)
        omega
      have hq1 : 1 ≤ q := by rw [hq]; exact Nat.mul_pos (by omega) (by omega)
      have hqn : q ≤ n + 1 := by
        have h2 := hbq 0 (by omega)
        have : (q - 1 + 0 + 2) * 1 ≤ (q - 1 + 0 + 2) * 2 ^ (b - 1) := Nat.mul_le_mul_left _ Nat.one_le_two_pow
        omega
      have hfirst : ∀ i, i ≤ t → (v + 1) * 2 ^ i ≤ q := fun i hi => by
        rw [hq, hM]
        exact Nat.mul_le_mul_left _ (Nat.pow_le_pow_right (by omega) hi)
      rw [← hM, ← hq] at hord
      obtain ⟨L1, hL1⟩ : ∃ L1, L1 = ordE f v t := ⟨_, rfl⟩
      rw [← hL1] at hord
      obtain ⟨F, hF⟩ : ∃ F : Nat → List Nat, F = fun i => ordE f (q - 1 + i) b := ⟨_, rfl⟩
      rw [← hF] at hord
      have HORD := Lib.hid hord
      rw [hord] at hS
      simp only [List.length_append] at hS
      have HC1 := Lib.hid (ih v t s S W (by omega) (by omega) (by omega) hbt hp hs (by rw [← hL1]; omega))
      rw [← hL1] at HC1
      have HC2 := Lib.hid (fun i s S W (hi : i < M) hp hs hS => ih (q - 1 + i) b s S W (by omega) (by omega) (by omega) (hbq i hi) hp hs hS)
      have HF := Lib.hid hF
      have HSL := Lib.hid hS
      have HS := Lib.hid hs
      have HFI := Lib.hid hfirst
      have hhb : (h : Int).tdiv 2 = (b : Int) := by rw [Int.tdiv_eq_ediv_of_nonneg (by omega), hbd]; omega
      have hht : (h : Int) - (b : Int) = (t : Int) := by omega
      have hne : ((h : Int) == 1) = false := by simp; omega
      have HM := Lib.hid hM
      have HQ := Lib.hid hq
      clear ih hord hL1 hF hS hp hs hb hbt hbq hpow hq hM hbd htd hfirst
      go_enter Try.func41, Try.ntmps41
      go_wp2_with fail
      refine HC1.out.mono ?_
      rintro er w1 ⟨rfl, h2⟩
      obtain ⟨s1, hs1⟩ : ∃ s1, s1 = (S ++ L1).length := ⟨_, rfl⟩
      rw [← hs1]
      have H2 := Lib.hid h2
      have HS1 := Lib.hid hs1
      clear h2 hs1
      go_wp2_with fail
      go_loop [10, 11, 12] (fun s10 s11 s12 => ∃ i p e : Nat, i ≤ t ∧ p = 2 ^ i ∧ e + 1 = (v + 1) * p ∧ s10 = .int .i64 e ∧ s11 = .int .i64 p ∧ s12 = .int .i64 i) (fun _ _ s12 => t - (intOf s12).toNat)
      case atStart => exact ⟨0, 1, v, by omega, rfl, by omega, rfl, rfl, rfl⟩
      case round =>
        obtain ⟨i, p, e, hi, hp, he, rfl, rfl, rfl⟩ := hrel
        have HP := Lib.hid hp
        have HE := Lib.hid he
        have hpM : p ≤ 32768 := by rw [hp]; exact Nat.le_trans (Nat.pow_le_pow_right (by omega) (show i ≤ 15 by omega)) (by decide)
        have heq : e + 1 ≤ q := by rw [he, hp]; exact HFI.out i hi
        clear hp he
        by_cases hlt : i < t
        · have hltI : (i : Int) < (t : Int) := by omega
          obtain ⟨p2, hp2⟩ : ∃ p2 : Nat, p2 = p * 2 := ⟨_, rfl⟩
          have hpI : (p : Int) * 2 = (p2 : Int) := by omega
          obtain ⟨e2, he2⟩ : ∃ e2 : Nat, e2 = 2 * e + 1 := ⟨_, rfl⟩
          have heI : (2 : Int) * (e : Int) + 1 = (e2 : Int) := by omega
          have HP2 := Lib.hid hp2
          have HE2 := Lib.hid he2
          clear hp2 he2
          go_wp2_with fail
          go_round
          case rel =>
            refine ⟨i + 1, p2, e2, by omega, by rw [HP2.out, HP.out, Nat.pow_succ], ?_, rfl, rfl, by go_num⟩
            rw [HE2.out, HP2.out, ← Nat.mul_assoc, ← HE.out]
            omega
          case measure => simp [intOf]; omega
        · obtain rfl : i = t := by omega
          have hpM2 : p = M := by rw [HP.out, HM.out]
          have heq2 : e = q - 1 := by have h1 := HE.out; rw [hpM2, ← HQ.out] at h1; omega
          subst hpM2
          subst heq2
          clear HP HE
          go_wp2_with fail
          go_loopw [3, 13] (fun s3 s13 wr => ∃ i s2 : Nat, i ≤ p ∧ s13 = .int .i64 i ∧ s3 = .int .i64 s2 ∧ s2 = (S ++ L1 ++ (List.range i).flatMap F).length ∧ LayS w0 B g n (S ++ L1 ++ (List.range i).flatMap F) wr) (fun _ s13 _ => p - (intOf s13).toNat)
          case atStart => exact ⟨0, s1, by omega, rfl, rfl, by simpa using HS1.out, by simpa using H2.out⟩
          case round =>
            obtain ⟨j, s2, hj, rfl, rfl, hs2, hp⟩ := hrel
            have HS2 := Lib.hid hs2
            by_cases hlt2 : j < p
            · have hltI : (j : Int) < (p : Int) := by omega
              have hfl : (List.range (j + 1)).flatMap F = (List.range j).flatMap F ++ F j := by rw [List.range_succ, List.flatMap_append]; simp
              have hle : ((List.range (j + 1)).flatMap F).length ≤ ((List.range p).flatMap F).length := by
                have h3 : List.range p = List.range (j + 1) ++ (List.range (p - (j + 1))).map (j + 1 + ·) := by rw [← List.range_add]; congr 1; omega
                rw [h3, List.flatMap_append, List.length_append]
                omega
              have HC := Lib.hid (HC2.out j s2 (S ++ L1 ++ (List.range j).flatMap F) wr hlt2 hp hs2.symm (by
                rw [show ordE f (q - 1 + j) b = F j by rw [HF.out], hs2, List.length_append, List.length_append]
                rw [hfl, List.length_append] at hle
                have := HSL.out
                have := HS.out
                omega))
              rw [show ordE f (q - 1 + j) b = F j by rw [HF.out], List.append_assoc, ← hfl] at HC
              have hs2l : s2 ≤ 100000 := by
                rw [hs2, List.length_append, List.length_append]
                rw [hfl, List.length_append] at hle
                have := HSL.out
                have := HS.out
                omega
              obtain ⟨u, hu⟩ : ∃ u : Nat, u = q - 1 + j := ⟨_, rfl⟩
              have huI : ((q - 1 : Nat) : Int) + (j : Int) = (u : Int) := by omega
              rw [← hu] at HC
              clear hp hfl hle hu hs2
              go_wp2_with fail
              refine HC.out.mono ?_
              rintro er w2 ⟨rfl, h2⟩
              obtain ⟨s3, hs3⟩ : ∃ s3, s3 = (S ++ L1 ++ (List.range (j + 1)).flatMap F).length := ⟨_, rfl⟩
              rw [← hs3]
              have H3 := Lib.hid h2
              have HS3 := Lib.hid hs3
              clear h2 hs3
              go_wp2_with fail
              go_roundw
              case rel => exact ⟨j + 1, s3, by omega, by go_num, rfl, HS3.out, H3.out⟩
              case measure => simp [intOf]; omega
            · obtain rfl : j = p := by omega
              have HP := Lib.hid hp
              clear hp hs2
              go_wp2_with fail
              go_ret
              exact ⟨by rw [HORD.out, ← List.append_assoc, HS2.out]; rfl, by rw [HORD.out, ← List.append_assoc]; exact HP.out⟩
end Go.Proofs.Ytmlgbmfjnbhamaa
