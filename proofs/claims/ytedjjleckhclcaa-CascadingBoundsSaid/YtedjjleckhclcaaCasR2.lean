/- Walks: the reference's Total; slices.EqualFunc of equal rows. -/
import Derived.Test.YtedjjleckhclcaaCasR1
namespace Go.Proofs.Ytedjjleckhclcaa
open Go.RowKit
set_option maxRecDepth 100000

set_option maxHeartbeats 2000000 in
theorem rtotal_any (A : Option Addr) (cp : Nat) (M : List (List Int)) (P : Nat → Prop) (w : World) (h40 : M.length ≤ 40) (hl : ∀ c ∈ M, c.length ≤ 3000) (hA : RowsAt P w A M) :
    Calls Try.prog 15 #[.slice A M.length cp] w fun e w' => e = .returned (.int .i64 ((M.map List.length).sum : Nat)) ∧ w = w' := by
  have HA := Lib.hid hA
  have HLL := Lib.hid hl
  obtain ⟨m, hmm⟩ : ∃ m, M.length = m := ⟨_, rfl⟩
  have HM := Lib.hid hmm
  rw [hmm] at h40 ⊢
  clear hA hl hmm
  go_enter Try.func15, Try.ntmps15
  go_wp2_with fail
  go_loopw [3, 4] (fun u i wr => ∃ k q : Nat, k ≤ m ∧ i = .int .i64 k ∧ u = .int .i64 q ∧ q = ((M.take k).map List.length).sum ∧ w = wr) (fun _ i _ => m - (intOf i).toNat)
  case atStart => exact ⟨0, 0, by omega, rfl, rfl, by simp, rfl⟩
  case round =>
    obtain ⟨k, q, hk, rfl, rfl, hq, rfl⟩ := hrel
    have hqb : q ≤ k * 3000 := by rw [hq]; exact sum_le M k 3000 HLL.out
    have HQ := Lib.hid hq
    clear hq
    by_cases hlt : k < m
    · obtain ⟨c, hc⟩ : ∃ c, M[k]? = some c := ⟨M[k]'(by rw [HM.out]; exact hlt), List.getElem?_eq_getElem _⟩
      obtain ⟨b, off, hAe, _, hcc⟩ := HA.out (by rw [HM.out]; omega)
      subst hAe
      obtain ⟨A', c', r0, r1, r2, _⟩ := hcc k c hc
      have HN : Hid (q + c.length = ((M.take (k + 1)).map List.length).sum) := Lib.hid (by rw [sum_take hc, ← HQ.out])
      have hcl := HLL.out c (List.mem_of_getElem? hc)
      clear hcc hc
      go_wp2_with fail
      go_roundw
      case rel => exact ⟨k + 1, q + c.length, by omega, by go_num, by go_num, HN.out, by trivial⟩
      case measure => simp [intOf]; omega
    · have HN : Hid (q = (M.map List.length).sum) := Lib.hid (by rw [HQ.out, List.take_of_length_le (by rw [HM.out]; omega)])
      go_wp2_with fail
      go_ret
      exact ⟨retI (by rw [← HN.out]), rfl⟩

theorem eqI_same (P Q : Nat → Prop) (A1 A2 : Option Addr) (c1 c2 : Nat) (L : List Int) (w : World) (hm : L.length ≤ maxLen) (h1 : IntsAt P w A1 L) (h2 : IntsAt Q w A2 L) :
    Calls Try.prog 18 #[.slice A1 L.length c1, .slice A2 L.length c2] w fun e w' => e = .returned (.bool true) ∧ ∃ q, w' = w.drewN q :=
  (eqI_any P Q A1 A2 c1 c2 L L w hm hm h1 h2).mono fun _ _ h => ⟨by rw [h.1, decide_eq_true rfl], h.2⟩
abbrev fnEq : Value := .func (.func 18) #[] #[]
set_option maxHeartbeats 2000000 in
theorem eqf_any (A1 A2 : Option Addr) (c1 c2 : Nat) (M : List (List Int)) (P Q : Nat → Prop) (w : World) (hm : M.length ≤ maxLen) (h1 : RowsAt P w A1 M) (h2 : RowsAt Q w A2 M) :
    Calls Try.prog 16 #[.slice A1 M.length c1, .slice A2 M.length c2, fnEq] w fun e w' => e = .returned (.bool true) ∧ ∃ q, w' = w.drewN q := by
  unfold maxLen at hm
  have H1 := Lib.hid h1
  have H2 := Lib.hid h2
  obtain ⟨m, hmm⟩ : ∃ m, M.length = m := ⟨_, rfl⟩
  have HM := Lib.hid hmm
  rw [hmm] at hm ⊢
  clear h1 h2 hmm
  have hmb : ((m : Int) != (m : Int)) = false := by simp
  go_enter Try.func16, Try.ntmps16
  go_wp2_with fail
  go_loopw [17] (fun i wr => ∃ k q : Nat, k ≤ m ∧ i = .int .i64 k ∧ wr = w.drewN q) (fun i _ => m - (intOf i).toNat)
  case atStart => exact ⟨0, 0, by omega, rfl, rfl⟩
  case round =>
    obtain ⟨k, q, hk, rfl, hw⟩ := hrel
    have HW := Lib.hid hw
    have hA1 : RowsAt P wr A1 M := by rw [hw]; exact H1.out
    have hA2 : RowsAt Q wr A2 M := by rw [hw]; exact H2.out
    clear hw
    by_cases hlt : k < m
    · obtain ⟨c, hc⟩ : ∃ c, M[k]? = some c := ⟨M[k]'(by rw [HM.out]; exact hlt), List.getElem?_eq_getElem _⟩
      obtain ⟨b, off, hAe, _, hcc⟩ := hA1 (by rw [HM.out]; omega)
      subst hAe
      obtain ⟨b', off', hAe', _, hcc'⟩ := hA2 (by rw [HM.out]; omega)
      subst hAe'
      obtain ⟨B1, d1, r0, r1, r2, r3⟩ := hcc k c hc
      obtain ⟨B2, d2, s0, s1, s2, s3⟩ := hcc' k c hc
      have HE := Lib.hid (eqI_same P Q B1 B2 d1 d2 c wr (Nat.le_trans r1 r2) r3 s3)
      clear hcc hcc' hc r3 s3
      go_wp2_with fail
      refine HE.out.mono ?_
      rintro e W2 ⟨rfl, q2, hw⟩
      have HW2 := Lib.hid (show W2 = w.drewN (q + q2) by rw [hw, HW.out]; exact World.drewN_drewN _ _ _)
      clear hw
      go_wp2_with fail
      go_roundw
      case rel => exact ⟨k + 1, _, by omega, by go_num, HW2.out⟩
      case measure => simp [intOf]; omega
    · go_wp2_with fail
      go_ret
      exact ⟨rfl, q, HW.out⟩
end Go.Proofs.Ytedjjleckhclcaa
