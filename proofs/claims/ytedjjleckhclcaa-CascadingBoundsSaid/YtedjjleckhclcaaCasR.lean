/- The second law's walk. -/
import Derived.Test.YtedjjleckhclcaaCasR2
namespace Go.Proofs.Ytedjjleckhclcaa
open Go.RowKit
set_option maxRecDepth 100000
/-- The lists of numbers that Lists hands back. -/
def rlM (M : List (List Int)) : List (List Int) := (lsts M).map fun l => l.map Prod.fst
theorem rlM_len (M : List (List Int)) : (rlM M).length = M.length := by simp [rlM, lsts_len]
theorem rlM_sum (M : List (List Int)) : ((rlM M).map List.length).sum = size M := by simp [rlM, size, List.map_map, Function.comp_def]
theorem lsts_bd {M : List (List Int)} (h : ∀ c ∈ M, c.length ≤ 1000) : ∀ l ∈ lsts M, l.length ≤ 2000 := fun l hl => by
  obtain ⟨i, hi, rfl⟩ := List.mem_iff_getElem.1 hl
  have hi' : i < M.length := by rw [← lsts_len]; exact hi
  have e := lsts_get (List.getElem?_eq_getElem hi')
  rw [List.getElem?_eq_getElem hi] at e
  have e2 := Option.some.inj e
  have h2 := lsts_len_drop h i
  rw [hdk_drop (List.getElem?_eq_getElem hi'), List.length_map, ← e2] at h2
  exact h2
theorem rlM_bd {M : List (List Int)} (h : ∀ c ∈ M, c.length ≤ 1000) : ∀ l ∈ rlM M, l.length ≤ 3000 := fun l hl => by
  obtain ⟨u, hu, rfl⟩ := List.mem_map.1 hl
  have := lsts_bd h u hu
  rw [List.length_map]
  omega
theorem rows_up {w W : World} {A : Option Addr} {M : List (List Int)} (h : RowsAt (· < w.heap.size) W A M) (hs : w.heap.size ≤ W.heap.size) : RowsAt (· < W.heap.size) W A M := fun hp => by
  obtain ⟨b, off, h1, h2, h3⟩ := h hp
  exact ⟨b, off, h1, Nat.lt_of_lt_of_le h2 hs, fun i l hi => by
    obtain ⟨A', c, r0, r1, r2, r3⟩ := h3 i l hi
    exact ⟨A', c, r0, r1, r2, r3.more fun b hb => Nat.lt_of_lt_of_le hb hs⟩⟩
theorem rows_up2 {P : Nat → Prop} {W : World} {A : Option Addr} {M : List (List Int)} (h : RowsAt P W A M) (hs : ∀ b, P b → b < W.heap.size) : RowsAt (· < W.heap.size) W A M := fun hp => by
  obtain ⟨b, off, h1, h2, h3⟩ := h hp
  exact ⟨b, off, h1, hs _ h2, fun i l hi => by
    obtain ⟨A', c, r0, r1, r2, r3⟩ := h3 i l hi
    exact ⟨A', c, r0, r1, r2, r3.more hs⟩⟩
theorem total_of (M : List (List Int)) : (M.map List.length).sum = total M := rfl

set_option maxHeartbeats 8000000 in
theorem lawLists_any (A : Option Addr) (cp : Nat) (M : List (List Int)) (w : World) (hm : M.length ≤ maxLen) (hA : RowsAt (· < w.heap.size) w A M) :
    Calls Try.prog 4 #[.slice A M.length cp] w fun e w' => e = .returned (.bool true) ∧ Below w.heap.size w w' := by
  have HM0 := Lib.hid hm
  have HA := Lib.hid hA
  unfold maxLen at hm
  obtain ⟨m, hmm⟩ : ∃ m, M.length = m := ⟨_, rfl⟩
  have HM := Lib.hid hmm
  rw [hmm] at hm ⊢
  clear hA hmm
  go_enter Try.func4, Try.ntmps4
  go_wp2_with fail
  refine (awake_any w).mono ?_
  rintro e w1 ⟨rfl, hb1⟩
  have HA1 := Lib.hid (HA.out.below hb1)
  have HB1 := Lib.hid hb1
  have HS := Lib.hid (HM.out ▸ small_any A cp M _ w1 HM0.out HA1.out : Calls Try.prog 8 #[.slice A m cp] w1 _)
  have HCK := Lib.hid (HM.out ▸ check_any A cp M _ w1 HM0.out HA1.out : Calls Try.prog 10 #[.slice A m cp] w1 _)
  clear hb1
  go_wp2_with fail
  refine HS.out.mono ?_
  rintro e w2 ⟨⟨b, rfl⟩, rfl⟩
  clear HS
  cases b
  · go_wp2_with fail
    go_ret
    exact ⟨rfl, HB1.out⟩
  go_wp2_with fail
  refine HCK.out.mono ?_
  clear HCK
  rintro e w2 ⟨rfl, q, hw⟩
  have HB2 := Lib.hid (show Below w.heap.size w w2 by rw [hw]; exact below_drewN HB1.out q)
  have HA2 := Lib.hid (show RowsAt (· < w.heap.size) w2 A M by rw [hw]; exact HA1.out)
  clear hw
  by_cases h0 : ckM M = 0
  rotate_left
  · generalize ckM M = ck at h0 ⊢
    have hcb : (ck != 0) = true := by simpa using h0
    go_wp2_with fail
    go_ret
    exact ⟨rfl, HB2.out⟩
  have HMK := Lib.hid (HM.out ▸ make_any A cp M w2 HM0.out (rows_up HA2.out HB2.out.size) : Calls Try.prog 9 #[.slice A m cp] w2 (MakePost w2 M))
  rw [h0]
  go_wp2_with fail
  refine HMK.out.mono ?_
  clear HMK
  rintro e w3 ⟨hb3, ⟨hne, _⟩ | ⟨_, x, g, rfl, hx, hix⟩⟩
  · exact absurd h0 hne
  have HOK := Lib.hid (ckM_ok h0)
  have HIX := Lib.hid hix
  have HB3 := Lib.hid (HB2.out.trans (hb3.mono HB2.out.size))
  have HA3 := Lib.hid (HA2.out.below (hb3.mono HB2.out.size))
  have hm32 : m ≤ 32 := by have := HOK.out.1; rw [HM.out] at this; exact this
  have HLI := Lib.hid (HM.out ▸ rlists_any A cp M w3 HOK.out.1 HOK.out.2.2.1 (rows_up HA3.out HB3.out.size) : Calls Try.prog 14 #[.slice A m cp] w3 fun e w' => ∃ A', e = .returned (.slice A' m m) ∧ RowsAt (fun b => w3.heap.size ≤ b ∧ b < w'.heap.size) w' A' (rlM M) ∧ Below w3.heap.size w3 w')
  clear hb3 hix hx h0
  go_wp2_with fail
  refine HLI.out.mono ?_
  clear HLI
  rintro e w4 ⟨AR, rfl, hr, hb4⟩
  have HR4 := Lib.hid (rows_up2 hr fun b h => h.2)
  have HIX4 := Lib.hid (HIX.out.below (Nat.le_refl _) hb4)
  have HB4 := Lib.hid (HB3.out.trans (hb4.mono HB3.out.size))
  have HA4 := Lib.hid (HA3.out.below (hb4.mono HB3.out.size))
  have HN4 := Lib.hid hb4.size
  have HTO := Lib.hid (HM.out ▸ rtotal_any A cp M _ w4 (by rw [HM.out]; omega) (fun c hc => Nat.le_trans (HOK.out.2.2.1 c hc) (by omega)) HA4.out : Calls Try.prog 15 #[.slice A m cp] w4 fun e w' => e = .returned (.int .i64 (total M : Nat)) ∧ w4 = w')
  clear hr hb4
  go_wp2_with fail
  refine HTO.out.mono ?_
  clear HTO
  rintro e w5 ⟨rfl, rfl⟩
  have HLS := Lib.hid (lists_any x g _ (lsts M) 0 w4 HIX4.out HN4.out (by rw [lsts_len, HM.out]; omega) (fun l hl => Nat.le_trans (lsts_bd HOK.out.2.2.1 l hl) (by omega)))
  go_wp2_with fail
  refine HLS.out.mono ?_
  clear HLS
  rintro e w5 ⟨AL, cl, rfl, hr, hb5⟩
  rw [lsts_len, HM.out]
  have HIX5 := Lib.hid (HIX4.out.below HN4.out hb5)
  have HB5 := Lib.hid (HB4.out.trans (hb5.mono HB4.out.size))
  have HR5 := Lib.hid (HR4.out.below hb5)
  have HN5 := Lib.hid (Nat.le_trans HN4.out hb5.size)
  have HN45 := Lib.hid hb5.size
  have HEQ := Lib.hid (((rlM_len M).trans HM.out) ▸ eqf_any AL AR cl m (rlM M) _ _ w5 (by rw [rlM_len]; exact HM0.out) hr HR5.out : Calls Try.prog 16 #[.slice AL m cl, .slice AR m m, fnEq] w5 _)
  clear hr hb5
  go_wp2_with fail
  refine HEQ.out.mono ?_
  clear HEQ
  rintro e w6 ⟨rfl, q6, hw⟩
  have HIX6 := Lib.hid (show IX x g w3.heap.size (lsts M) 0 w6 by rw [hw]; exact ⟨HIX5.out.box, HIX5.out.lists, HIX5.out.gx, HIX5.out.gn, HIX5.out.xn⟩)
  have HB6 := Lib.hid (show Below w.heap.size w w6 by rw [hw]; exact below_drewN HB5.out q6)
  have HR6 := Lib.hid (show RowsAt (· < w4.heap.size) w6 AR (rlM M) by rw [hw]; exact HR5.out)
  have HN6 := Lib.hid (show w3.heap.size ≤ w6.heap.size by rw [hw]; exact HN5.out)
  have HN46 := Lib.hid (show w4.heap.size ≤ w6.heap.size by rw [hw]; exact HN45.out)
  clear hw
  obtain ⟨s, hs⟩ : ∃ s, s = size M := ⟨_, rfl⟩
  obtain ⟨t, ht⟩ : ∃ t, t = total M := ⟨_, rfl⟩
  have HST := Lib.hid (show (t = 0 ∧ s = 0) ∨ (0 < t ∧ s < 2 * t) by rw [hs, ht]; exact size_lt M)
  have htb : t ≤ 32000 := by
    have h := sum_le M M.length 1000 HOK.out.2.2.1
    rw [List.take_of_length_le (Nat.le_refl _), total_of, ← ht, HM.out] at h
    omega
  have HSS : Hid (∀ W : World, IX x g w3.heap.size (lsts M) 0 W → w3.heap.size ≤ W.heap.size → Calls Try.prog 19 #[.pointer (some ⟨x, 0, none⟩)] W fun e w' => e = .returned (.int .i64 s) ∧ Below W.heap.size W w') :=
    Lib.hid fun W h1 h2 => by rw [hs]; exact size_any x g _ (lsts M) 0 W h1 h2 (by rw [lsts_len, HM.out]; omega) (fun l hl => Nat.le_trans (lsts_bd HOK.out.2.2.1 l hl) (by omega))
  have HTT : Hid (∀ W : World, RowsAt (· < w4.heap.size) W AR (rlM M) → Calls Try.prog 15 #[.slice AR m m] W fun e w' => e = .returned (.int .i64 s) ∧ W = w') :=
    Lib.hid fun W h1 => by
      have h := rtotal_any AR m (rlM M) _ W (by rw [rlM_len, HM.out]; omega) (rlM_bd HOK.out.2.2.1) h1
      rw [rlM_sum, ← hs, rlM_len, HM.out] at h
      exact h
  rw [← ht]
  clear hs ht
  have hss : ((s : Int) == (s : Int)) = true := by simp
  go_wp2_with fail
  refine (HSS.out w6 HIX6.out HN6.out).mono ?_
  rintro e w7 ⟨rfl, hb7⟩
  have HIX7 := Lib.hid (HIX6.out.below HN6.out hb7)
  have HB7 := Lib.hid (HB6.out.trans (hb7.mono HB6.out.size))
  have HN7 := Lib.hid (Nat.le_trans HN6.out hb7.size)
  have hR7 : RowsAt (· < w4.heap.size) w7 AR (rlM M) := HR6.out.below (hb7.mono HN46.out)
  have HTO := Lib.hid (HTT.out w7 hR7)
  clear hb7 hR7
  go_wp2_with fail
  refine HTO.out.mono ?_
  clear HTO
  rintro e w8 ⟨rfl, rfl⟩
  by_cases ht0 : t = 0
  · have hs0 : s = 0 := by rcases HST.out with h | h <;> omega
    subst ht0 hs0
    go_wp2_with fail
    refine (HSS.out w7 HIX7.out HN7.out).mono ?_
    rintro e w8 ⟨rfl, hb8⟩
    have HB8 := Lib.hid (HB7.out.trans (hb8.mono HB7.out.size))
    clear hb8
    go_wp2_with fail
    go_ret
    exact ⟨rfl, HB8.out⟩
  · have htb2 : ((t : Int) == 0) = false := by simp; omega
    have hst : s < 2 * t := by rcases HST.out with h | h <;> omega
    have hstI : (s : Int) < 2 * (t : Int) := by omega
    have hw2 : IntKind.i64.wrap (2 * (t : Int)) = 2 * (t : Int) := IntWalk.i64_in _ (by omega)
    go_wp2_with fail
    refine (HSS.out w7 HIX7.out HN7.out).mono ?_
    rintro e w8 ⟨rfl, hb8⟩
    have HB8 := Lib.hid (HB7.out.trans (hb8.mono HB7.out.size))
    clear hb8
    go_wp2_with fail
    go_ret
    exact ⟨by simp, HB8.out⟩
end Go.Proofs.Ytedjjleckhclcaa
