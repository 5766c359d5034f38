/- The first law's walk. -/
import Derived.Test.YtedjjleckhclcaaCasO
namespace Go.Proofs.Ytedjjleckhclcaa
open Go.RowKit
set_option maxRecDepth 100000
theorem ranks_get {M : List (List Int)} {k : Nat} {c : List Int} (key : Int) (h : M[k]? = some c) : (ranks M key)[k]? = some (rk c key : Int) := by
  unfold ranks; rw [List.getElem?_map, h]; rfl
theorem ranks_len (M : List (List Int)) (key : Int) : (ranks M key).length = M.length := by simp [ranks]

theorem rank_q (A : Option Addr) (cp : Nat) (L : List Int) (P : Nat → Prop) (key : Int) (w : World) (hm : L.length ≤ maxLen) (hA : IntsAt P w A L) :
    Calls Try.prog 13 #[.slice A L.length cp, .int .i64 key] w fun e w' => e = .returned (.int .i64 (rk L key)) ∧ w' = w :=
  (rank_any A cp L P key w hm hA).mono fun _ _ h => ⟨h.1, h.2.symm⟩

set_option maxHeartbeats 8000000 in
theorem lawSearches_any (A : Option Addr) (cp : Nat) (M : List (List Int)) (key : Int) (w : World) (hm : M.length ≤ maxLen) (hA : RowsAt (· < w.heap.size) w A M) :
    Calls Try.prog 3 #[.slice A M.length cp, .int .i64 key] w fun e w' => e = .returned (.bool true) ∧ Below w.heap.size w w' := by
  have HM0 := Lib.hid hm
  have HA := Lib.hid hA
  unfold maxLen at hm
  obtain ⟨m, hmm⟩ : ∃ m, M.length = m := ⟨_, rfl⟩
  have HM := Lib.hid hmm
  rw [hmm] at hm ⊢
  clear hA hmm
  go_enter Try.func3, Try.ntmps3
  go_wp2_with fail
  refine (awake_any w).mono ?_
  rintro e w1 ⟨rfl, hb1⟩
  have HA1 := Lib.hid (HA.out.below hb1)
  have HB1 := Lib.hid hb1
  have HS := Lib.hid (HM.out ▸ small_any A cp M _ w1 HM0.out HA1.out : Calls Try.prog 8 #[.slice A m cp] w1 _)
  clear hb1
  go_wp2_with fail
  refine HS.out.mono ?_
  rintro e w2 ⟨⟨b, rfl⟩, rfl⟩
  clear HS
  cases b
  · go_wp2_with fail
    go_ret
    exact ⟨rfl, HB1.out⟩
  have hA1' : RowsAt (· < w1.heap.size) w1 A M := fun hp => by
    obtain ⟨b, off, h1, h2, h3⟩ := HA1.out hp
    have hs := HB1.out.size
    exact ⟨b, off, h1, Nat.lt_of_lt_of_le h2 hs, fun i l hi => by
      obtain ⟨A', c, r0, r1, r2, r3⟩ := h3 i l hi
      exact ⟨A', c, r0, r1, r2, r3.more fun b hb => Nat.lt_of_lt_of_le hb hs⟩⟩
  have HMK := Lib.hid (HM.out ▸ make_any A cp M w1 HM0.out hA1' : Calls Try.prog 9 #[.slice A m cp] w1 (MakePost w1 M))
  clear hA1'
  go_wp2_with fail
  refine HMK.out.mono ?_
  clear HMK
  rintro e w2 ⟨hb2, hcase⟩
  have HA2 := Lib.hid (HA1.out.below (hb2.mono HB1.out.size))
  have HB2 := Lib.hid (HB1.out.trans (hb2.mono HB1.out.size))
  have HCK := Lib.hid (HM.out ▸ check_any A cp M _ w2 HM0.out HA2.out : Calls Try.prog 10 #[.slice A m cp] w2 _)
  clear hb2
  rcases hcase with ⟨hne, rfl⟩ | ⟨h0, x, g, rfl, hx, hix⟩
  · generalize ckM M = ck at hne HCK ⊢
    have hcb : (ck != 0) = true := by simpa using hne
    have hcb2 : (ck == ck) = true := by simp
    go_wp2_with fail
    refine HCK.out.mono ?_
    clear HCK
    rintro e w3 ⟨rfl, q, hw⟩
    have HB3 := Lib.hid (show Below w.heap.size w w3 by rw [hw]; exact below_drewN HB2.out q)
    clear hw
    go_wp2_with fail
    go_ret
    exact ⟨rfl, HB3.out⟩
  have HOK := Lib.hid (ckM_ok h0)
  have HX := Lib.hid (Nat.le_trans HB1.out.size hx)
  have HIX := Lib.hid hix
  rw [h0] at HCK
  clear hix hx h0
  go_wp2_with fail
  refine HCK.out.mono ?_
  clear HCK
  rintro e w3 ⟨rfl, q, hw⟩
  have HB3 := Lib.hid (show Below w.heap.size w w3 by rw [hw]; exact below_drewN HB2.out q)
  have HA3 := Lib.hid (show RowsAt (· < w.heap.size) w3 A M by rw [hw]; exact HA2.out)
  have HIX3 := Lib.hid (show IX x g w2.heap.size (lsts M) 0 w3 by rw [hw]; exact ⟨HIX.out.box, HIX.out.lists, HIX.out.gx, HIX.out.gn, HIX.out.xn⟩)
  have HN3 := Lib.hid (show w2.heap.size ≤ w3.heap.size by rw [hw]; exact Nat.le_refl _)
  have HL := Lib.hid ((lsts_len M).trans HM.out ▸ len_any x g _ 0 w3 HIX3.out.box : Calls Try.prog 11 #[.pointer (some ⟨x, 0, none⟩)] w3 fun e w' => e = .returned (.int .i64 m) ∧ w3 = w')
  have HSE := Lib.hid (search_any x g _ M key 0 w3 HIX3.out HN3.out HOK.out.1 HOK.out.2.2.1 (fun c hc => (HOK.out.2.2.2 c hc).1))
  have hmb : ((m : Int) != (m : Int)) = false := by simp
  clear hw HA2 HB2 HIX
  go_wp2_with fail
  refine HL.out.mono ?_
  clear HL
  rintro e w4 ⟨rfl, rfl⟩
  go_wp2_with fail
  refine HSE.out.mono ?_
  clear HSE
  rintro e w4 ⟨rb, d, rfl, hr, _, _, hbut⟩
  have HB4 := Lib.hid (HB3.out.grown hbut HB3.out.size (fun k e => by cases e; exact HX.out))
  have HA4 := Lib.hid (show RowsAt (· < w.heap.size) w4 A M from HA.out.below HB4.out)
  have HR := Lib.hid hr
  rw [HM.out]
  clear hr hbut HB3 HA3 HN3 HIX3
  generalize (some ⟨rb, 0, none⟩ : Option Addr) = AR at HR ⊢
  go_wp2_with fail
  go_loopw [63] (fun i wr => ∃ k q : Nat, k ≤ m ∧ i = .int .i64 k ∧ wr = w4.drewN q) (fun i _ => m - (intOf i).toNat)
  case atStart => exact ⟨0, 0, by omega, rfl, rfl⟩
  case round =>
    obtain ⟨k, q2, hk, rfl, hw⟩ := hrel
    have HW := Lib.hid hw
    have hA5 : RowsAt (· < w.heap.size) wr A M := by rw [hw]; exact HA4.out
    have hR5 : IntsAt (fun b => w3.heap.size ≤ b ∧ b < w4.heap.size) wr AR (ranks M key) := by rw [hw]; exact HR.out
    clear hw
    by_cases hlt : k < m
    · obtain ⟨c, hc⟩ : ∃ c, M[k]? = some c := ⟨M[k]'(by rw [HM.out]; exact hlt), List.getElem?_eq_getElem _⟩
      obtain ⟨b, off, hAe, _, hcc⟩ := hA5 (by rw [HM.out]; omega)
      subst hAe
      obtain ⟨A', c', r0, r1, r2, r3⟩ := hcc k c hc
      obtain ⟨b', off', hAe', _, hc2⟩ := hR5 (by rw [ranks_len, HM.out]; omega)
      subst hAe'
      have x0 := hc2 k _ (ranks_get key hc)
      have HR3 := Lib.hid r3
      have HCL := Lib.hid (show c.length ≤ maxLen from Nat.le_trans r1 r2)
      have hkI : (k : Int) < (m : Int) := by omega
      have hrb : ((rk c key : Int) != (rk c key : Int)) = false := by simp
      unfold maxLen at r2
      clear hA5 hR5 hcc hc2 r3
      go_wp2_with fail
      go_quiet ((go_at_call 13; exact Calls.quiet_of_same (rank_q A' c' c _ key _ HCL.out HR3.out)))
      go_wp2_with fail
      go_roundw
      case rel => exact ⟨k + 1, _, by omega, by go_num, by rw [HW.out]; exact World.drewN_drewN _ _ _⟩
      case measure => simp [intOf]; omega
    · go_wp2_with fail
      go_ret
      exact ⟨rfl, by rw [HW.out]; exact below_drewN HB4.out q2⟩
end Go.Proofs.Ytedjjleckhclcaa
