/- The third law's walk. -/
import Derived.Test.YtedjjleckhclcaaCasT
namespace Go.Proofs.Ytedjjleckhclcaa
open Go.RowKit
set_option maxRecDepth 100000
theorem lo_hi (k k2 : Int) : (if k2 < k then k2 else k) ≤ (if k2 > k then k2 else k) := by split <;> split <;> omega

theorem index_q (P : Nat → Prop) (A : Option Addr) (c : Nat) (L : List Int) (x : Int) (r : Nat) (w : World) (hm : L.length ≤ maxLen) (h1 : IntsAt P w A L) (hr : idxI L x = r) :
    Calls Try.prog 22 #[.slice A L.length c, .int .i64 x] w fun e w' => e = .returned (.int .i64 r) ∧ w' = w :=
  (index_any P A c L x w hm h1).mono fun _ _ h => ⟨by rw [h.1, hr], h.2.symm⟩

set_option maxHeartbeats 8000000 in
theorem lawBounds_any (A : Option Addr) (cp : Nat) (M : List (List Int)) (k1 k2 : Int) (w : World) (hm : M.length ≤ maxLen) (hA : RowsAt (· < w.heap.size) w A M) :
    Calls Try.prog 5 #[.slice A M.length cp, .int .i64 k1, .int .i64 k2] w fun e w' => e = .returned (.bool true) ∧ Below w.heap.size w w' := by
  have HM0 := Lib.hid hm
  have HA := Lib.hid hA
  unfold maxLen at hm
  obtain ⟨m, hmm⟩ : ∃ m, M.length = m := ⟨_, rfl⟩
  have HM := Lib.hid hmm
  rw [hmm] at hm ⊢
  clear hA hmm
  go_enter Try.func5, Try.ntmps5
  go_wp2_with fail
  refine (awake_any w).mono ?_
  rintro e w1 ⟨rfl, hb1⟩
  have HA1 := Lib.hid (HA.out.below hb1)
  have HB1 := Lib.hid hb1
  have HS := Lib.hid (HM.out ▸ small_any A cp M _ w1 HM0.out HA1.out : Calls Try.prog 8 #[.slice A m cp] w1 _)
  clear hb1
  go_wp2_with fail
  refine HS.out.mono ?_
  rintro e w2 ⟨⟨b, rfl⟩, rfl⟩
  clear HS
  cases b
  · go_wp2_with fail
    go_ret
    exact ⟨rfl, HB1.out⟩
  have HMK := Lib.hid (HM.out ▸ make_any A cp M w1 HM0.out (rows_up HA1.out HB1.out.size) : Calls Try.prog 9 #[.slice A m cp] w1 (MakePost w1 M))
  go_wp2_with fail
  refine HMK.out.mono ?_
  clear HMK
  rintro e w2 ⟨hb2, hcase⟩
  have HA2 := Lib.hid (HA1.out.below (hb2.mono HB1.out.size))
  have HB2 := Lib.hid (HB1.out.trans (hb2.mono HB1.out.size))
  clear hb2
  rcases hcase with ⟨hne, rfl⟩ | ⟨h0, x, g, rfl, hx, hix⟩
  · generalize ckM M = ck at hne ⊢
    have hcb : (ck != 0) = true := by simpa using hne
    go_wp2_with fail
    go_ret
    exact ⟨rfl, HB2.out⟩
  have HOK := Lib.hid (ckM_ok h0)
  have hwx := Nat.le_trans HB1.out.size hx
  have hxn := hix.xn
  have hm32 : m ≤ 32 := by have := HOK.out.1; rw [HM.out] at this; exact this
  have hm0 : 0 < m := by have := HOK.out.2.1; rw [HM.out] at this; exact this
  have HC0 := Lib.hid (compares_any x g _ 0 w2 hix.box)
  have HSS : Hid (∀ (key c0 : Int) (W : World), IX x g w2.heap.size (lsts M) c0 W → w2.heap.size ≤ W.heap.size → Calls Try.prog 12 #[.pointer (some ⟨x, 0, none⟩), .int .i64 key] W (SearchPost W x g w2.heap.size M key)) :=
    Lib.hid fun key c0 W h1 h2 => search_any x g _ M key c0 W h1 h2 HOK.out.1 HOK.out.2.2.1 (fun c hc => (HOK.out.2.2.2 c hc).1)
  have HIX := Lib.hid hix
  clear hix h0 hx
  go_wp2_with fail
  refine HC0.out.mono ?_
  clear HC0
  rintro e w3 ⟨rfl, rfl⟩
  have hcases : (k2 < k1 ∧ ¬ k2 > k1) ∨ (¬ k2 < k1 ∧ k2 > k1) ∨ (¬ k2 < k1 ∧ ¬ k2 > k1) := by omega
  rcases hcases with ⟨hlt, hgt⟩ | ⟨hlt, hgt⟩ | ⟨hlt, hgt⟩
  all_goals
    (go_wp2_with fail
     refine (HSS.out _ 0 w2 HIX.out (Nat.le_refl _)).mono ?_
     rintro e w3 ⟨r1, d1, rfl, hr1, hix1, hd1, hbut1⟩
     rw [HM.out] at hd1 ⊢
     have HIX1 := Lib.hid hix1
     have HB3 := Lib.hid (HB2.out.grown hbut1 HB2.out.size (fun k e => by cases e; exact hwx))
     have HR1 := Lib.hid hr1
     have HD1 := Lib.hid hd1
     have hs3 := hbut1.size
     have HC1 := Lib.hid (compares_any x g _ d1 w3 hix1.box)
     clear hr1 hix1 hd1 hbut1 HIX
     go_wp2_with fail
     refine HC1.out.mono ?_
     clear HC1
     rintro e w4 ⟨rfl, rfl⟩
     go_wp2_with fail
     refine (HSS.out _ d1 w3 HIX1.out hs3).mono ?_
     rintro e w4 ⟨r2, d2, rfl, hr2, hix2, hd2, hbut2⟩
     rw [HM.out] at hd2 ⊢
     have HB4 := Lib.hid (HB3.out.grown hbut2 HB3.out.size (fun k e => by cases e; exact hwx))
     have hs4 := Nat.le_trans hs3 hbut2.size
     have HC2 := Lib.hid (compares_any x g _ d2 w4 hix2.box)
     have HD2 := Lib.hid hd2
     have HBI := Lib.hid (BInv.mk (w := w) (x := x) (g := g) (n1 := w2.heap.size) (M := M) ⟨d2, hix2⟩ hs4 (ints_but HR1.out hxn hbut2) (hr2.more fun b hb => ⟨Nat.le_trans hs3 hb.1, hb.2⟩) HB4.out)
     clear hr2 hix2 hd2 hbut2 HR1 HIX1
     go_wp2_with fail
     refine HC2.out.mono ?_
     clear HC2
     rintro e w5 ⟨rfl, rfl⟩
     have HA4 := Lib.hid (show RowsAt (· < w.heap.size) w4 A M from HA.out.below HB4.out)
     have HBO := Lib.hid (HM.out ▸ rbound_any A cp M w4 HOK.out.2.1 HOK.out.1 HOK.out.2.2.1 (rows_up HA4.out HB4.out.size) : Calls Try.prog 21 #[.slice A m cp] w4 fun e w' => (∃ K : Nat, e = .returned (.int .i64 ((K + (m - 1) : Nat) : Int)) ∧ (hdk (lsts M)).length < 2 ^ K) ∧ Below w4.heap.size w4 w')
     go_wp2_with fail
     refine HBO.out.mono ?_
     clear HBO
     rintro e w5 ⟨⟨K, rfl, hK⟩, hb5⟩
     have hk1 := HD1.out K hK
     have hk2 := HD2.out K hK
     obtain ⟨mo, hmo⟩ : ∃ mo, mo = K + (m - 1) := ⟨_, rfl⟩
     rw [← hmo] at hk1 hk2 ⊢
     have hk1I : (d1 : Int) ≤ (mo : Int) := by omega
     have q1 : decide (mo < d1) = false := decide_eq_false (by omega)
     have q2 : decide (mo < d2) = false := decide_eq_false (by omega)
     have q3 : decide ((mo : Int) < (d1 : Int)) = false := decide_eq_false (by omega)
     have q4 : decide ((mo : Int) < (d2 : Int)) = false := decide_eq_false (by omega)
     have q5 : decide ((d1 : Int) < 0) = false := decide_eq_false (by omega)
     have q6 : decide ((d2 : Int) < 0) = false := decide_eq_false (by omega)
     have hk2I : (d2 : Int) ≤ (mo : Int) := by omega
     have hmb : ((m : Int) != (m : Int)) = false := by simp
     have HB5 := Lib.hid (BInv.mk (w := w) (x := x) (g := g) (n1 := w2.heap.size) (M := M) (by obtain ⟨d, hd⟩ := HBI.out.ix; exact ⟨d, hd.below hs4 hb5⟩) (Nat.le_trans hs4 hb5.size) (ints_but HBI.out.a hxn (but_below (but_refl x w4) hb5)) (ints_but HBI.out.b hxn (but_below (but_refl x w4) hb5)) (HBI.out.bel.trans (hb5.mono HBI.out.bel.size)))
     clear hb5 hmo hK HD1 HD2 HBI HA4 HB4 HB3 HB2 HA1 HA2
     obtain ⟨lo, hi, HLH, HB6⟩ : ∃ lo hi, Hid (lo ≤ hi) ∧ Hid (BInv w x g w2.heap.size M (some ⟨r1, 0, none⟩) (some ⟨r2, 0, none⟩) lo hi w5) := ⟨_, _, by first | exact Lib.hid (Int.le_of_lt hlt) | exact Lib.hid (Int.le_of_lt hgt) | exact Lib.hid (Int.le_refl _), HB5⟩
     clear HB5 hlt hgt
     generalize (some ⟨r1, 0, none⟩ : Option Addr) = AR at HB6 ⊢
     generalize (some ⟨r2, 0, none⟩ : Option Addr) = BR at HB6 ⊢
     go_wp2_with fail
     go_loopw [99] (fun i wr => ∃ k : Nat, k ≤ m ∧ i = .int .i64 k ∧ BInv w x g w2.heap.size M AR BR lo hi wr) (fun i _ => m - (intOf i).toNat)
     case atStart => exact ⟨0, by omega, rfl, HB6.out⟩
     case round =>
       clear HB6
       obtain ⟨k, hk, rfl, hinv⟩ := hrel
       have HINV := Lib.hid hinv
       have hbel := hinv.bel
       clear hinv
       by_cases hlt : k < m
       · obtain ⟨c, hc⟩ : ∃ c, M[k]? = some c := ⟨M[k]'(by rw [HM.out]; exact hlt), List.getElem?_eq_getElem _⟩
         obtain ⟨b, off, hAe, hpb, hcc⟩ := HA.out (by rw [HM.out]; omega)
         subst hAe
         obtain ⟨A', c', r0w, r1', r2', r3⟩ := hcc k c hc
         have r0 := (hbel.cell (p := ⟨b, off + k, none⟩) hpb).trans r0w
         have HR0 := Lib.hid r0w
         obtain ⟨b1, o1, hAe, _, hc1⟩ := HINV.out.a (by rw [ranks_len, HM.out]; omega)
         subst hAe
         obtain ⟨b2, o2, hAe, _, hc2⟩ := HINV.out.b (by rw [ranks_len, HM.out]; omega)
         subst hAe
         have x0 := hc1 k _ (ranks_get lo hc)
         have y0 := hc2 k _ (ranks_get hi hc)
         have hxy := rk_mono c HLH.out
         have hyl := rk_le c hi
         obtain ⟨ra, hra⟩ : ∃ ra, rk c lo = ra := ⟨_, rfl⟩
         obtain ⟨rb, hrb⟩ : ∃ rb, rk c hi = rb := ⟨_, rfl⟩
         rw [hra] at x0 hxy
         rw [hrb] at y0 hxy hyl
         have g1 : decide ((rb : Int) < (ra : Int)) = false := decide_eq_false (by omega)
         have g1n : decide (rb < ra) = false := decide_eq_false (by omega)
         have g2 : decide ((ra : Int) < 0) = false := decide_eq_false (by omega)
         have g3 : decide ((c.length : Int) < (rb : Int)) = false := decide_eq_false (by omega)
         have g3n : decide (c.length < rb) = false := decide_eq_false (by omega)
         have hkI : (k : Int) < (m : Int) := by omega
         have HR3 := Lib.hid r3
         have HC := Lib.hid hc
         have hcl := HOK.out.2.2.1 c (List.mem_of_getElem? hc)
         unfold maxLen at r2'
         have HBEL := Lib.hid hbel
         clear hcc hc1 hc2 hc r3 hra hrb hbel r0w
         go_wp2_with fail
         go_quiet (fail)
         have HI2 := Lib.hid (HINV.out.drewN nq)
         by_cases hc0 : c.length = 0
         · have hc0I : ¬ (0 : Int) < (c.length : Int) := by omega
           go_wp2_with fail
           go_roundw
           case rel => exact ⟨k + 1, by omega, by go_num, HI2.out⟩
           case measure => simp [intOf]; omega
         have hc0I : (0 : Int) < (c.length : Int) := by omega
         obtain ⟨mid, hmid⟩ : ∃ mid, mid = c.length / 2 := ⟨_, rfl⟩
         obtain ⟨v, hv⟩ : ∃ v, c[mid]? = some v := ⟨c[mid]'(by omega), List.getElem?_eq_getElem _⟩
         obtain ⟨p, o, hAe, hpp, hcp⟩ := HR3.out (by omega)
         subst hAe
         have e0 := (HBEL.out.cell (p := ⟨p, o + mid, none⟩) hpp).trans (hcp mid v hv)
         have HE0 := Lib.hid (hcp mid v hv)
         have HV := Lib.hid hv
         have hI1 : (c.length : Int) / 2 = (mid : Int) := by omega
         have hI2 : (mid : Int) < (c.length : Int) := by omega
         obtain ⟨dd, hdd⟩ := HI2.out.ix
         have HSE := Lib.hid (HSS.out v dd _ hdd HI2.out.n)
         have HRK := Lib.hid (idxI_rk (HOK.out.2.2.2 c (List.mem_of_getElem? HC.out)).1 hv)
         clear hcp hv hmid hdd x0 y0 g1 g1n g2 g3 g3n
         go_wp2_with fail
         refine HSE.out.mono ?_
         clear HSE
         rintro e W2 hpost
         obtain ⟨r3, rfl, hI3, hR3⟩ := HI2.out.search hwx hxn hpost
         have HI3 := Lib.hid hI3
         have e1 := (hI3.bel.cell (p := ⟨p, o + mid, none⟩) hpp).trans HE0.out
         have HR4 := Lib.hid (HR3.out.below hI3.bel)
         rw [HM.out]
         generalize (some ⟨r3, 0, none⟩ : Option Addr) = RR at hR3 ⊢
         obtain ⟨b4, o4, hAe, _, hc4⟩ := hR3 (by rw [ranks_len, HM.out]; omega)
         subst hAe
         have z0 := hc4 k _ (ranks_get v HC.out)
         obtain ⟨rc, hrc⟩ : ∃ rc, rk c v = rc := ⟨_, rfl⟩
         rw [hrc] at z0 HRK
         have hrr : ((rc : Int) != (rc : Int)) = false := by simp
         have HCM := Lib.hid (show c.length ≤ maxLen by unfold maxLen; omega)
         clear hI3 hR3 hc4 hrc hpost e0 r0
         go_wp2_with fail
         go_quiet ((go_at_call 22; exact Calls.quiet_of_same (index_q _ _ c' c v rc _ HCM.out HR4.out HRK.out)))
         have HI4 := Lib.hid (HI3.out.drewN nq)
         go_wp2_with fail
         go_roundw
         case rel => exact ⟨k + 1, by omega, by go_num, HI4.out⟩
         case measure => simp [intOf]; omega
       · go_wp2_with fail
         go_ret
         exact ⟨rfl, hbel⟩)
end Go.Proofs.Ytedjjleckhclcaa
