/- The reference's wrong. -/
import Derived.BigQuiet
import Derived.Deep.QuietTactic
import Derived.StillTailTactics
import Derived.Test.YthbcfcbonmphfaaGreatDoorFormBBundle
namespace Go.Proofs.YthbcfcbonmphfaaGreatDoor
open Go.RowKit Go.Shelf
set_option maxRecDepth 100000

/-- What the first loop of wrong has looked at: nothing wrong yet. -/
theorem chk_args0 {g : Sg} {n s : ByteArray} {ks : List Tm} {d : Dc} (h : isV (.mk n s ks) = false) (hl : lookD g.ops n = some d) (hn : ks.length = d.args.length) : chk g (.mk n s ks) = if chkArgs g.ops ks d.args then 0 else 11 := by
  rw [chk_some h (by simpa using hl)]
  rw [if_neg (by simpa using hn)]; rfl

set_option maxHeartbeats 16000000 in
theorem wrong_any (g : Sg) (A1 : Option Addr) (c1 : Nat) (A2 : Option Addr) (c2 : Nat) (hv : validSg g = true) (t : Tm) : ∀ (A : Option Addr) (c n₀ : Nat) (w : World), TRep n₀ w t A → n₀ ≤ w.heap.size → okT maxLen t → okV t → SlS n₀ w A1 g.sorts → SlD n₀ w A2 g.ops →
    Calls Tryz.prog 36 #[GV g A1 c1 A2 c2, TV t A c] w fun e w' => e = .returned (.int .i64 (wrT g t)) ∧ Below w.heap.size w w' := by
  have hlen1 := (valid_parts hv).1
  have hlen2 := (valid_parts hv).2.1
  have HVG := Lib.hid hv
  clear hv
  induction t using Tm.ind with
  | h nm st ks ih =>
    intro A c n₀ w hrep hn hok hokv hss hdd
    have HD := Lib.hid hdd
    have HS := Lib.hid hss
    have HF := Lib.hid (find_said HVG.out nm)
    have hlk := hok.len
    dsimp only [Tm.nm_mk, Tm.st_mk, Tm.ks_mk] at hlk
    unfold maxLen at hlk
    have HIH := Lib.hid ih
    have HOK := Lib.hid hok
    have HOV := Lib.hid hokv
    have HREP := Lib.hid hrep
    have H0 : Hid (RB g A1 c1 A2 c2 (.mk nm st ks) A c w ((w.alloc (.cells #[.slice A1 g.sorts.length c1, .slice A2 g.ops.length c2] 25)).alloc (.cells #[.string nm, .string st, .slice A ks.length c] 28))) := Lib.hid (RB.start g A1 c1 A2 c2 (.mk nm st ks) A c w)
    obtain ⟨⟨x0, x1⟩, _⟩ := blk2 H0.out.bs
    obtain ⟨⟨y0, y1, y2⟩, _⟩ := blk3 H0.out.bt
    dsimp only [Tm.nm_mk, Tm.st_mk, Tm.ks_mk] at y0 y1 y2
    clear ih hok hokv hrep hss hdd
    unfold GV TV
    dsimp only [Tm.nm_mk, Tm.st_mk, Tm.ks_mk]
    by_cases h5 : st.toList.isEmpty = true
    · have e5 : (st.toList == []) = true := by rw [List.isEmpty_iff.1 h5]; rfl
      have HVV : Hid (isV (.mk nm st ks) = false) := Lib.hid (by rw [isV_mk, h5]; rfl)
      clear h5
      go_enter Tryz.func36, Tryz.ntmps36
      go_upto_region 5 with fail
      generalize (w.alloc (.cells #[.slice A1 g.sorts.length c1, .slice A2 g.ops.length c2] 25)).alloc (.cells #[.string nm, .string st, .slice A ks.length c] 28) = W0 at H0 x0 x1 y0 y1 y2 ⊢
      have HC := Lib.hid (Find_any g A1 c1 A2 c2 nm n₀ W0 (HD.out.later (H0.out.below.mono hn)) (by have := H0.out.below.size; omega) (by omega))
      unfold GV at HC
      go_wp2_with fail
      refine HC.out.mono ?_
      rintro e w1 ⟨rfl, hb1⟩
      have H1 := Lib.hid (H0.out.next hb1)
      clear hb1 HC H0 x0 x1 y0 y1 y2
      rcases HF.out with ⟨hl, hi⟩ | ⟨i, d, hg, hl, hi⟩
      · rw [hi]
        have HR : Hid (wrT g (.mk nm st ks) = 9) := Lib.hid (wr_bad (chk_none HVV.out (by simpa using hl)) (by decide))
        clear hl hi
        go_wp2_with fail
        go_ret
        exact ⟨ret_int (by rw [HR.out]), H1.out.below⟩
      rw [hi]
      have HL := Lib.hid hl
      have hlt : i < g.ops.length := (List.getElem?_eq_some_iff.1 hg).1
      obtain ⟨ob, oo, rfl, hob, hoc⟩ := HD.out (by omega)
      obtain ⟨A', c', d0, d1, d2, dS⟩ := hoc i d hg
      have HD1 := Lib.hid d1
      have HDS := Lib.hid dS
      have hm := List.mem_of_getElem? hg
      have hal := ((valid_parts HVG.out).2.2.2 d hm).2.1
      clear d0 d2 dS hl hi hoc hg hm
      replace d1 := (H1.out.below.cell (p := ⟨ob, _, none⟩) (Nat.lt_of_lt_of_le hob hn)).trans d1
      obtain ⟨⟨x0, x1⟩, _⟩ := blk2 H1.out.bs
      obtain ⟨⟨y0, y1, y2⟩, _⟩ := blk3 H1.out.bt
      dsimp only [Tm.nm_mk, Tm.st_mk, Tm.ks_mk] at y0 y1 y2
      have hI : (i : Int) < (g.ops.length : Int) := by omega
      have hI' : decide ((i : Int) < 0) = false := decide_eq_false (by omega)
      by_cases hnl : ks.length = d.args.length
      rotate_left
      · have hnb : ((ks.length : Int) != (d.args.length : Int)) = true := by rw [bne_iff_ne]; omega
        have HR : Hid (wrT g (.mk nm st ks) = 3) := Lib.hid (wr_bad (by rw [chk_some HVV.out (by simpa using HL.out), if_pos (by simpa using hnl)]) (by decide))
        clear hnl
        go_wp2_with fail
        go_quiet (fail)
        go_wp2_with fail
        go_ret
        exact ⟨ret_int (by rw [HR.out]), (H1.out.drewN _).below⟩
      have hnb : ((ks.length : Int) != (d.args.length : Int)) = false := by rw [hnl]; simp
      have HCA := Lib.hid (chk_args0 HVV.out HL.out hnl)
      have HNL := Lib.hid hnl
      have hk6 : ks.length ≤ 6 := by omega
      clear hnl
      go_wp2_with fail
      go_quiet (fail)
      go_wp2_with fail
      clear x0 x1 y0 y1 y2 d1 hnb
      have H2 := Lib.hid (H1.out.drewN nq)
      clear H1
      go_loopw [6] (fun y wr => ∃ k : Nat, y = .int .i64 k ∧ k ≤ ks.length ∧ RB g A1 c1 (some ⟨ob, oo, none⟩) c2 (.mk nm st ks) A c w wr ∧ chkArgs g.ops ks d.args = chkArgs g.ops (ks.drop k) (d.args.drop k)) (fun y _ => ks.length - (intOf y).toNat)
      case atStart => exact ⟨0, rfl, Nat.zero_le _, H2.out, rfl⟩
      case round =>
        clear H2
        obtain ⟨k, rfl, hk, hb, hq⟩ := hrel
        have HB := Lib.hid hb
        have HQ := Lib.hid hq
        obtain ⟨⟨x0, x1⟩, _⟩ := blk2 hb.bs
        obtain ⟨⟨y0, y1, y2⟩, _⟩ := blk3 hb.bt
        dsimp only [Tm.nm_mk, Tm.st_mk, Tm.ks_mk] at y0 y1 y2
        have hws := hb.below.size
        clear hb hq
        by_cases hlk' : k < ks.length
        · obtain ⟨x, hx⟩ : ∃ x, ks[k]? = some x := ⟨ks[k]'hlk', List.getElem?_eq_getElem _⟩
          have hla : k < d.args.length := by have := HNL.out; omega
          obtain ⟨a, ha⟩ : ∃ a, d.args[k]? = some a := ⟨d.args[k]'hla, List.getElem?_eq_getElem _⟩
          obtain ⟨tb, tq, B', b', rfl, htb, u0, u1, u2, hrx⟩ := HREP.out.kid (i := k) hx
          obtain ⟨ab, ao, rfl, hab, hac⟩ := HDS.out (by omega)
          have hbn := HB.out.below.mono hn
          replace u0 := (hbn.cell (p := ⟨tb, _, none⟩) htb).trans u0
          replace u1 := (hbn.cell (p := ⟨tb, _, none⟩) htb).trans u1
          replace u2 := (hbn.cell (p := ⟨tb, _, none⟩) htb).trans u2
          have HAC := Lib.hid (hac k a ha)
          have HAT := Lib.hid (chkArgs_at (L := g.ops) hx ha)
          have HOH := Lib.hid (own_has HVG.out x)
          have HC := Lib.hid (refOwn_any g A1 c1 (some ⟨ob, oo, none⟩) c2 x B' b' n₀ wr.drew (HD.out.later hbn.drew) (by simp; omega) HVG.out)
          have hI2 : (k : Int) < (ks.length : Int) := by omega
          have hI3 : (k : Int) < (d.args.length : Int) := by omega
          clear hx ha hrx hbn hac
          unfold GV TV at HC
          go_wp2_with fail
          go_still_tail 6, (by kernel_rfl)
          change wpList _ _ _ _ _ wr.drew
          go_wp2_with fail
          refine HC.out.mono ?_
          rintro e w5 ⟨rfl, hb5⟩
          have H5 := Lib.hid (HB.out.drew.next hb5)
          clear hb5 HC x0 x1 y0 y1 y2 u0 u1 u2
          obtain ⟨⟨x0, x1⟩, _⟩ := blk2 H5.out.bs
          have d1 := (H5.out.below.cell (p := ⟨ob, _, none⟩) (Nat.lt_of_lt_of_le hob hn)).trans HD1.out
          have z0 := (H5.out.below.cell (p := ⟨ab, _, none⟩) (Nat.lt_of_lt_of_le hab hn)).trans HAC.out
          by_cases ho : (ownS g.ops x).1.toList = []
          · have e6 : ((ownS g.ops x).1.toList == []) = true := by rw [ho]; rfl
            have HN : Hid (¬ ((ownS g.ops x).2 = true ∧ (ownS g.ops x).1 ≠ a)) := Lib.hid (fun h => HOH.out.1 h.1 ho)
            clear ho
            go_wp2_with fail
            go_roundw
            case rel => exact ⟨k + 1, by go_num, hlk', H5.out, by rw [HQ.out, HAT.out, if_neg HN.out]⟩
            case measure => simp [intOf]; omega
          · have e6 : ((ownS g.ops x).1.toList == []) = false := beq_eq_false_iff_ne.2 ho
            have HHS := Lib.hid (HOH.out.2 ho)
            clear ho
            by_cases hea : (ownS g.ops x).1 = a
            · have e7 := str_eq_true hea
              have HN : Hid (¬ ((ownS g.ops x).2 = true ∧ (ownS g.ops x).1 ≠ a)) := Lib.hid (fun h => h.2 hea)
              clear hea
              go_wp2_with fail
              go_roundw
              case rel => exact ⟨k + 1, by go_num, hlk', H5.out, by rw [HQ.out, HAT.out, if_neg HN.out]⟩
              case measure => simp [intOf]; omega
            · have e7 := str_eq_false hea
              have HR : Hid (wrT g (.mk nm st ks) = 11) := Lib.hid (wr_bad (by rw [HCA.out, show chkArgs g.ops ks d.args = false by rw [HQ.out, HAT.out, if_pos ⟨HHS.out, hea⟩]]; rfl) (by decide))
              clear hea
              go_wp2_with fail
              go_ret
              exact ⟨ret_int (by rw [HR.out]), H5.out.below⟩
        · have HG : Hid (wrT g (.mk nm st ks) = wrL g ks) := Lib.hid (wr_good (by
            rw [HCA.out, show chkArgs g.ops ks d.args = true by
              rw [HQ.out, show ks.drop k = [] by rw [show k = ks.length by omega, List.drop_length]]
              rfl]
            rfl))
          have hI2 : ¬ (k : Int) < (ks.length : Int) := by omega
          have hI2' : decide ((k : Int) < (ks.length : Int)) = false := decide_eq_false hI2
          go_wp2_with fail
          clear x0 x1 y0 y1 y2 hI2 hI2' HQ
          go_loopw [8] (fun y wr => ∃ j : Nat, y = .int .i64 j ∧ j ≤ ks.length ∧ RB g A1 c1 (some ⟨ob, oo, none⟩) c2 (.mk nm st ks) A c w wr ∧ wrL g ks = wrL g (ks.drop j)) (fun y _ => ks.length - (intOf y).toNat)
          case atStart => exact ⟨0, rfl, Nat.zero_le _, HB.out, rfl⟩
          case round =>
            clear HB
            obtain ⟨j, rfl, hj, hb, hq⟩ := hrel
            have HB := Lib.hid hb
            have HQ := Lib.hid hq
            obtain ⟨⟨x0, x1⟩, _⟩ := blk2 hb.bs
            obtain ⟨⟨y0, y1, y2⟩, _⟩ := blk3 hb.bt
            dsimp only [Tm.nm_mk, Tm.st_mk, Tm.ks_mk] at y0 y1 y2
            have hws := hb.below.size
            clear hb hq
            by_cases hlj : j < ks.length
            · obtain ⟨x, hx⟩ : ∃ x, ks[j]? = some x := ⟨ks[j]'hlj, List.getElem?_eq_getElem _⟩
              have hmem : x ∈ ks := List.mem_of_getElem? hx
              obtain ⟨tb, tq, B', b', rfl, htb, u0, u1, u2, hrx⟩ := HREP.out.kid (i := j) hx
              have hbn := HB.out.below.mono hn
              replace u0 := (hbn.cell (p := ⟨tb, _, none⟩) htb).trans u0
              replace u1 := (hbn.cell (p := ⟨tb, _, none⟩) htb).trans u1
              replace u2 := (hbn.cell (p := ⟨tb, _, none⟩) htb).trans u2
              have HAT := Lib.hid (wrs_at (g := g) hx)
              have HC := Lib.hid (HIH.out x hmem B' b' n₀ wr.drew (hrx.later hbn.drew) (by simp; omega) (HOK.out.kid hmem) (HOV.out.kid hmem) (HS.out.later hbn.drew) (HD.out.later hbn.drew))
              have hI2 : (j : Int) < (ks.length : Int) := by omega
              clear hx hrx hbn hmem
              unfold GV TV at HC
              go_wp2_with fail
              go_still_tail 6, (by kernel_rfl)
              change wpList _ _ _ _ _ wr.drew
              go_wp2_with fail
              refine HC.out.mono ?_
              rintro e w5 ⟨rfl, hb5⟩
              have H5 := Lib.hid (HB.out.drew.next hb5)
              clear hb5 HC x0 x1 y0 y1 y2 u0 u1 u2
              by_cases hz : wrT g x = 0
              · have HZ := Lib.hid hz
                rw [hz]
                clear hz
                go_wp2_with fail
                go_roundw
                case rel => exact ⟨j + 1, by go_num, hlj, H5.out, by rw [HQ.out, HAT.out, if_neg (fun h => h HZ.out)]⟩
                case measure => simp [intOf]; omega
              · have hzb : (wrT g x != 0) = true := by simp [hz]
                have HR : Hid (wrT g (.mk nm st ks) = wrT g x) := Lib.hid (by rw [HG.out, HQ.out, HAT.out, if_pos hz])
                clear hz
                go_wp2_with fail
                go_ret
                exact ⟨ret_int (by rw [HR.out]), H5.out.below⟩
            · have HK : Hid (ks.drop j = []) := Lib.hid (by rw [show j = ks.length by omega, List.drop_length])
              have hI2 : ¬ (j : Int) < (ks.length : Int) := by omega
              have hI2' : decide ((j : Int) < (ks.length : Int)) = false := decide_eq_false hI2
              go_wp2_with fail
              go_ret
              exact ⟨ret_int (by rw [HG.out, HQ.out, HK.out]; rfl), HB.out.below⟩
    · have e5 : (st.toList == []) = false := by
        cases hst : st.toList with
        | nil => rw [hst] at h5; exact absurd rfl h5
        | cons a b => rfl
      have hvv : isV (.mk nm st ks) = true := by rw [isV_mk, show st.toList.isEmpty = false by simpa using h5]; rfl
      have HK0 : Hid (ks = []) := Lib.hid (by simpa using HOV.out.var hvv)
      have HCV : Hid (chk g (.mk nm st ks) = if memS st g.sorts then 0 else 9) := Lib.hid (chk_v hvv)
      clear h5 hvv
      have hq := idxL_neg (p := eqS st) g.sorts
      rw [eqS_mem] at hq
      go_enter Tryz.func36, Tryz.ntmps36
      go_upto_region 2 with fail
      generalize (w.alloc (.cells #[.slice A1 g.sorts.length c1, .slice A2 g.ops.length c2] 25)).alloc (.cells #[.string nm, .string st, .slice A ks.length c] 28) = W0 at H0 x0 x1 y0 y1 y2 ⊢
      have HC := Lib.hid (find_names A1 c1 g.sorts st n₀ W0 (HS.out.later (H0.out.below.mono hn)) (by omega))
      by_cases hm : st ∈ g.sorts
      · rw [memS_true hm] at hq
        have hq' : decide (idxL (eqS st) 0 g.sorts < 0) = false := hq
        have HR : Hid (wrT g (.mk nm st ks) = 0) := Lib.hid (by rw [wr_good (by rw [HCV.out, memS_true hm]; rfl), HK0.out]; rfl)
        clear hm hq
        go_wp2_with fail
        refine HC.out.mono ?_
        rintro e w7 ⟨rfl, rfl⟩
        go_wp2_with fail
        go_ret
        exact ⟨ret_int (by rw [HR.out]), H0.out.below⟩
      · rw [memS_false hm] at hq
        have hq' : decide (idxL (eqS st) 0 g.sorts < 0) = true := hq
        have HR : Hid (wrT g (.mk nm st ks) = 9) := Lib.hid (wr_bad (by rw [HCV.out, memS_false hm]; rfl) (by decide))
        clear hm hq
        go_wp2_with fail
        refine HC.out.mono ?_
        rintro e w7 ⟨rfl, rfl⟩
        go_wp2_with fail
        go_ret
        exact ⟨ret_int (by rw [HR.out]), H0.out.below⟩
end Go.Proofs.YthbcfcbonmphfaaGreatDoor
