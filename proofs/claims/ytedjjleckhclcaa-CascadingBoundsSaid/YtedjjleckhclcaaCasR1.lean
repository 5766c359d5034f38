/- Walks: the reference's Lists, its loop. -/
import Derived.Test.YtedjjleckhclcaaCasR0
namespace Go.Proofs.Ytedjjleckhclcaa
open Go.RowKit
set_option maxRecDepth 100000

set_option maxHeartbeats 8000000 in
theorem rlists_any (A : Option Addr) (cp : Nat) (M : List (List Int)) (w : World) (h32 : M.length ≤ 32) (hl : ∀ c ∈ M, c.length ≤ 1000) (hA : RowsAt (· < w.heap.size) w A M) :
    Calls Try.prog 14 #[.slice A M.length cp] w fun e w' => ∃ A', e = .returned (.slice A' M.length M.length) ∧ RowsAt (fun b => w.heap.size ≤ b ∧ b < w'.heap.size) w' A' ((lsts M).map fun l => l.map Prod.fst) ∧ Below w.heap.size w w' := by
  have HA := Lib.hid hA
  have HLL := Lib.hid hl
  have H0 := Lib.hid (LInv.start w M)
  obtain ⟨m, hmm⟩ : ∃ m, M.length = m := ⟨_, rfl⟩
  have HM := Lib.hid hmm
  rw [hmm] at h32 H0 ⊢
  clear hA hl hmm
  obtain ⟨i0, hi0, hz0, hz1, hz2⟩ := info_parts Try.infoInts
  obtain ⟨i1, hi1, hy0, hy1, hy2⟩ := info_parts Try.infoInt
  have hmk : ∀ W : World, (Instr.makeSlice 22 (.int .i64 (m : Int)) (.int .i64 (m : Int))).run Try.prog W = .ok (.slice (some ⟨W.heap.size, 0, none⟩) m m) (W.alloc (.cells (madeCells #[nilSl] m) 31)) := fun W => by
    have h := run_make (P := Try.prog) W 22 31 i0 _ Try.underlying22 hi0 hz0 .i64 .i64 (m : Int) (m : Int) (by omega) (Int.le_refl _) (by rw [hz2]; omega) (by omega)
    rw [hz1, Nat.mul_one] at h
    exact h
  go_enter Try.func14, Try.ntmps14
  go_wp2_with fail
  clear hmk
  go_loopw [4, 5] (fun u v wr => ∃ (j nn c4 : Nat) (A4 : Option Addr), j ≤ m ∧ nn ≤ 2000 ∧ nn ≤ c4 ∧ c4 ≤ maxLen ∧ v = .int .i64 ((j : Int) - 1) ∧ u = .slice A4 nn c4 ∧ LInv w M j (.slice A4 nn c4) wr) (fun _ v _ => ((intOf v) + 1).toNat)
  case atStart => exact ⟨m, 0, 0, none, by omega, by omega, by omega, by decide, by go_num, rfl, H0.out⟩
  case round =>
    clear H0
    obtain ⟨j, nn, c4, A4, hj, hnn, hc4, hc4m, rfl, rfl, hinv⟩ := hrel
    have HINV := Lib.hid hinv
    have hbel := hinv.bel
    have HB := Lib.hid hbel
    have hsz := hbel.size
    clear hinv hbel
    unfold maxLen at hc4m
    rcases j with _ | i
    · have HP := Lib.hid HINV.out.done
      go_wp2_with fail
      go_ret
      exact ⟨_, rfl, HP.out, HB.out⟩
    obtain ⟨nx, hnx⟩ : ∃ nx, nx = hdk (lsts (M.drop (i + 1))) := ⟨_, rfl⟩
    obtain ⟨A9, c9, he9, q1, q2, _, hNX⟩ := HINV.out.next
    rw [← hnx] at he9 q1 hNX
    have hnn2 : nx.length = nn := by injection he9 with _ h _; exact h.symm
    have hA9 : A9 = A4 := by injection he9 with h _ _; exact h.symm
    subst hA9
    have HNX := Lib.hid hNX
    have HNN := Lib.hid hnn2
    have HNXE := Lib.hid hnx
    obtain ⟨c, hc⟩ : ∃ c, M[i]? = some c := ⟨M[i]'(by rw [HM.out]; omega), List.getElem?_eq_getElem _⟩
    obtain ⟨b, off, hAe, hbA, hcc⟩ := HA.out (by rw [HM.out]; omega)
    subst hAe
    obtain ⟨A', c', r0, r1, r2, r3⟩ := hcc i c hc
    have HC := Lib.hid hc
    have HR0 := Lib.hid r0
    have HR3 := Lib.hid r3
    have HCL := HLL.out c (List.mem_of_getElem? hc)
    have e1 : ((i + 1 : Nat) : Int) - 1 = (i : Int) := by omega
    rw [e1]
    clear he9 q1 q2 hNX hnx hnn2 hcc hc r0 r3 e1
    go_wp2_with fail
    obtain ⟨w1, hw1⟩ : ∃ wo : World, wo = wr := ⟨_, rfl⟩
    have HW1 := Lib.hid hw1
    rw [← hw1] at HINV HB hsz HNX ⊢
    clear hw1
    go_loopw [6, 7] (fun u v W => ∃ (j c6 : Nat) (A6 : Option Addr), 2 * j ≤ nn ∧ v = .int .i64 (2 * (j : Int) + 1) ∧ u = .slice A6 j c6 ∧ W.ownsRow w1.heap.size 3 1 (.slice A6 j c6) j (vals ((odds nx).take j)) ∧ Below w1.heap.size w1 W) (fun _ v _ => (nn + 2 - (intOf v)).toNat)
    case atStart => exact ⟨0, 0, none, by omega, rfl, rfl, World.ownsRow_nil _ _ _ _, Below.refl _ _⟩
    case round =>
      obtain ⟨j, c6, A6, hj2, rfl, rfl, hown, hbw⟩ := hrel
      have HO := Lib.hid hown
      have HBW1 := Lib.hid hbw
      have hsz1 := hbw.size
      clear hown hbw
      by_cases hlt : 2 * j + 1 < nn
      · obtain ⟨x, hx⟩ : ∃ x, nx[2 * j + 1]? = some x := ⟨nx[2 * j + 1]'(by rw [HNN.out]; exact hlt), List.getElem?_eq_getElem _⟩
        obtain ⟨b2, off2, hA, hb2, hcx⟩ := HNX.out (by rw [HNN.out]; omega)
        subst hA
        obtain ⟨t, ht⟩ : ∃ t : Nat, t = 2 * j + 1 := ⟨_, rfl⟩
        have htI : 2 * (j : Int) + 1 = (t : Int) := by omega
        have x0 := (HBW1.out.cell (p := ⟨b2, off2 + t, none⟩) hb2.2).trans (hcx t x (by rw [ht]; exact hx))
        have HX := Lib.hid hx
        have hlt2 : (t : Int) < (nn : Int) := by omega
        have HTI := Lib.hid htI
        rw [htI]
        have hw2 : IntKind.i64.wrap ((t : Int) + 2) = (t : Int) + 2 := IntWalk.i64_in _ (by omega)
        clear hcx hx ht htI
        go_wp2_with (at_builtin; refine wpList_append_lies _ rfl (.tmp 24) (.tmp 29) 31 rfl w1.heap.size 3 i1 _ 1 8 Try.underlying31 hi1 hy0 hy1 hy2 rfl (by decide) (.slice A6 j c6) j (vals ((odds nx).take j)) rfl (HO.out.alloc _) ⟨wr.heap.size, 0, none⟩ 1 1 [.int .i64 x] rfl rfl (World.news_of_block (cs := #[.int .i64 x]) (t := 3) (fr := (0, 0)) (heap_alloc_new wr _)) (by simp [Value.oneCell']) (by omega) (by unfold maxLen; omega) (by omega) (by simp; omega) (wr.heap.size + 1) (by simp) ?_; intro g cap w2 hown2 hgrow hat hlt2)
        have HI : Hid (w2.ownsRow w1.heap.size 3 1 (.slice (some ⟨g, 0, none⟩) (j + 1) cap) (j + 1) (vals ((odds nx).take (j + 1))) ∧ Below w1.heap.size w1 w2) :=
          Lib.hid ⟨by rw [vals_take HX.out]; exact hown2, app_below HBW1.out HO.out (Nat.le_refl _) hsz1 hgrow⟩
        clear hown2 hgrow hat hlt2
        go_wp2_with fail
        go_roundw
        case rel => exact ⟨j + 1, cap, some ⟨g, 0, none⟩, by omega, by have := HTI.out; rw [show (t : Int) + 2 = 2 * ((j + 1 : Nat) : Int) + 1 by omega], rfl, HI.out⟩
        case measure => have := HTI.out; simp [intOf]; omega
      · have hjn : j = nn / 2 := by omega
        have hol : (odds nx).length = j := by rw [odds_len, HNN.out, hjn]
        have V6 : IntsV (fun x => w1.heap.size ≤ x ∧ x < wr.heap.size) wr (.slice A6 j c6) (odds nx) := by
          have := HO.out
          rw [List.take_of_length_le (by omega)] at this
          exact intsV_own (by rw [hol]; exact this) (fun x h1 h2 => ⟨h1, h2⟩)
        obtain ⟨A7, c7, he7, q1, q2, _, hI7⟩ := V6
        rw [hol] at he7
        have hBW := HB.out.trans (HBW1.out.mono hsz)
        have hr0 := (hBW.cell (p := ⟨b, off + i, none⟩) hbA).trans HR0.out
        have HMG := Lib.hid (rmerge_any A' A7 c' c7 c (odds nx) wr ((HR3.out.below hBW).more fun x hx => Nat.lt_of_lt_of_le hx (by omega)) (hI7.more fun x hx => hx.2) (by rw [hol]; omega))
        rw [hol] at HMG
        have hmi : ((i : Nat) : Int) < (m : Int) := by omega
        have hlt' : (nn : Int) ≤ 2 * (j : Int) + 1 := by omega
        injection he7 with e7 _ e8
        subst e7 e8
        have HE := Lib.hid (hdk_merge HC.out)
        clear q1 q2 hI7 hBW hlt hol hjn
        go_wp2_with fail
        refine HMG.out.mono ?_
        clear HMG
        rintro e W2 ⟨v, rfl, hv, hb⟩
        rw [HNXE.out, HE.out] at hv
        have hB2 := HBW1.out.trans (hb.mono hsz1)
        obtain ⟨u, s0, s1⟩ := HINV.out.spot (i := i) hB2 (by rw [HM.out]; omega)
        have HI := Lib.hid (HINV.out.store (i := i) hB2 (by rw [HM.out]; omega) (hv.more fun x hx => ⟨by omega, hx.2⟩))
        obtain ⟨A5, c5, rfl, p1, p2, _, _⟩ := hv
        have HP1 := Lib.hid p1
        have HP2 := Lib.hid p2
        clear hb hB2 p1 p2
        go_wp2_with fail
        go_roundw
        case rel => exact ⟨i, _, c5, A5, by omega, lsts_len_drop HLL.out i, HP1.out, HP2.out, by go_num, rfl, HI.out⟩
        case measure => simp [intOf]
end Go.Proofs.Ytedjjleckhclcaa
