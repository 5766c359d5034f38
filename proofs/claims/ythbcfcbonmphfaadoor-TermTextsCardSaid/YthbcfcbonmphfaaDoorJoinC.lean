/- Walks: Join, by the reference. -/
import Derived.Test.YthbcfcbonmphfaaDoorJoinB
namespace Go.Proofs.YthbcfcbonmphfaaDoor
set_option maxRecDepth 100000
open Go.RowKit

theorem refValid_tk (t : Tk) (w : World) (hs : t.t.length ≤ 1000) (v : Bool) (hv : validT t.k t.t t.n = v) :
    Calls Tryd.prog 19 #[.agg #[.int .i64 t.k, .string ⟨t.t.toArray⟩, .int .i64 t.n, .int .i64 t.a, .int .i64 t.b]] w fun e w' => e = .returned (.bool v) ∧ Below w.heap.size w w' := by
  have := refValid_any t.k ⟨t.t.toArray⟩ t.n t.a t.b w (by unfold maxLen; show t.t.toArray.size ≤ _; simp; omega)
  have e : (ByteArray.mk t.t.toArray).data.toList = t.t := by simp
  rw [e, hv] at this
  exact this
theorem tkOk_mid2 (L : List Tk) (k : Nat) (t : Tk) (h5 : t.k = 5) (hk : (k : Int) < (L.length : Int) - 1) : tkOk L k t = false := tkOk_mid L k t h5 (by simp; omega)
theorem tkOk_last2 (L : List Tk) (k : Nat) (t : Tk) (hlt : k < L.length) (hv : validT t.k t.t t.n = true) (hk : (L.length : Int) - 1 ≤ (k : Int)) : tkOk L k t = true := tkOk_last L k t hv (by simp; omega)
theorem decimal_tk (t : Tk) (w : World) (hv : validT t.k t.t t.n = true) (h2 : t.k = 2) : Calls Tryd.prog 70 #[.int .i64 t.n] w fun e w' => e = .returned (.string ⟨(tkText t).toArray⟩) ∧ Below w.heap.size w w' := by
  have hn := valid_n _ _ _ hv
  obtain ⟨m, hm⟩ := Int.eq_ofNat_of_zero_le hn.1
  have e : tkText t = decF 13 m := by unfold tkText dec; rw [if_pos h2, hm, Int.toNat_natCast]
  rw [e, hm]
  exact decimal_any 12 m w (by omega) (Nat.lt_of_le_of_lt (show m ≤ 1099511627776 by omega) (by decide)) (by omega)
theorem text_tk (t : Tk) (h2 : ¬ t.k = 2) : tkText t = t.t := by unfold tkText; rw [if_neg h2]
theorem tkText_len (t : Tk) (hs : t.t.length ≤ 1000) : (tkText t).length ≤ 1000 := by
  unfold tkText
  split
  · have := decF_len 13 t.n.toNat; unfold dec; omega
  · exact hs
theorem str_fit (acc : List UInt8) (t : Tk) (h : acc.length ≤ 65537) (h2 : (tkText t).length ≤ 1000) : acc.length + (ByteArray.mk (tkText t).toArray).size ≤ maxLen ∧ acc.length + (ByteArray.mk (tkText t).toArray).size ≤ 140737488355328 := by
  have h1 : (ByteArray.mk (tkText t).toArray).size = (tkText t).length := by show (tkText t).toArray.size = _; simp
  rw [h1]
  unfold maxLen
  omega
/-- What an append of a string leaves. -/
theorem app_str {w w1 w2 : World} {base n : Nat} {v v' : Value} {ys : List UInt8} {s : List UInt8} (hb : Below base w w1) (hB : base ≤ w1.heap.size) (ho : w1.ownsRow base 5 1 v ys.length (bsC ys))
    (ho2 : w2.ownsRow base 5 1 v' n (bsC ys ++ Lib.strCells ⟨s.toArray⟩)) (hg : w1.grownBy w2 v.ownBlock) : w2.ownsRow base 5 1 v' (ys ++ s).length (bsC (ys ++ s)) ∧ Below base w w2 := by
  refine ⟨?_, hb.grown hg hB (fun k e => (ho.lt k e).1)⟩
  have e1 : Lib.strCells ⟨s.toArray⟩ = bsC s := by simp [Lib.strCells, bsC]
  rw [e1, bsC_app] at ho2
  have e3 : n = (ys ++ s).length := by have := ho2.1; rw [bsC_len] at this; omega
  rw [← e3]
  exact ho2

set_option maxRecDepth 100000 in
set_option maxHeartbeats 2000000 in
theorem refJoin_any (A : Option Addr) (cap : Nat) (L : List Tk) (w : World) (hsm : Small L) (hl : SlT w A L) :
    Calls Tryd.prog 25 #[.slice A L.length cap] w fun e w' => e = .returned (joinV L) ∧ Below w.heap.size w w' := by
  have HS := Lib.hid hsm
  have HL := Lib.hid hl
  have hlen := hsm.1
  clear hsm hl
  go_enter Tryd.func25, Tryd.ntmps25
  go_wp2_with fail
  go_loopw [4] (fun i wr => ∃ k : Nat, k ≤ L.length ∧ i = .int .i64 k ∧ jvalTo L k ∧ Below w.heap.size w wr) (fun i _ => L.length - (intOf i).toNat)
  case atStart => exact ⟨0, by omega, rfl, fun i t hi => absurd hi (by omega), Below.refl _ _⟩
  case round =>
    obtain ⟨k, hk, rfl, hjv, hbw⟩ := hrel
    have HJ := Lib.hid hjv
    have HB := Lib.hid hbw
    clear hjv hbw
    by_cases hlt : k < L.length
    · obtain ⟨t, ht⟩ : ∃ t, L[k]? = some t := ⟨L[k], List.getElem?_eq_getElem hlt⟩
      obtain ⟨b, off, hA, hblt, hc⟩ := (HL.out.below HB.out) (by omega)
      subst hA
      obtain ⟨h0, h1, h2, h3, h4⟩ := hc k t ht
      have HT := Lib.hid ht
      have HTS := Lib.hid (HS.out.2 k t ht)
      clear hc ht
      cases hv : validT t.k t.t t.n
      · go_wp2_with (go_at_call 19; refine (refValid_tk t _ HTS.out _ hv).mono ?_; rintro e w1 ⟨rfl, hb1⟩)
        go_ret2
        exact ⟨(joinV_bad L k t HT.out (tkOk_no L k t hv)).symm ▸ rfl, HB.out.trans (hb1.mono HB.out.size)⟩
      · go_wp2_with (go_at_call 19; refine (refValid_tk t _ HTS.out _ hv).mono ?_; rintro e w1 ⟨rfl, hb1⟩; have h0' : w1.cell? ⟨b, off + k * 5, none⟩ = some (.int .i64 t.k) := (hb1.cell (p := ⟨b, off + k * 5, none⟩) hblt).trans h0)
        all_goals
          have HB1 := Lib.hid (HB.out.trans (hb1.mono HB.out.size))
          clear hb1
        · have a1 : t.k = 5 := by assumption
          have a2 : (k : Int) < (L.length : Int) - 1 := by assumption
          go_ret2
          exact ⟨(joinV_bad L k t HT.out (tkOk_mid2 L k t a1 a2)).symm ▸ rfl, HB1.out⟩
        · have a2 : (L.length : Int) - 1 ≤ (k : Int) := by assumption
          have HN := Lib.hid (jvalTo_snoc L k t HJ.out HT.out (tkOk_last2 L k t hlt hv a2))
          clear a2
          go_roundw
          case rel => exact ⟨k + 1, by omega, by go_num, HN.out, HB1.out⟩
          case measure => simp [intOf]; omega
        · have a1 : ¬ t.k = 5 := by assumption
          have HN := Lib.hid (jvalTo_snoc L k t HJ.out HT.out (tkOk_plain L k t hv a1))
          clear a1
          go_roundw
          case rel => exact ⟨k + 1, by omega, by go_num, HN.out, HB1.out⟩
          case measure => simp [intOf]; omega
    · have hkL : k = L.length := by omega
      have HV := Lib.hid (jval_of L (hkL ▸ HJ.out))
      have HJ2 := Lib.hid (hkL ▸ HJ.out)
      clear HJ hkL
      go_wp2_with fail
      obtain ⟨w2, hw2⟩ : ∃ w2 : World, w2 = wr := ⟨_, rfl⟩
      subst hw2
      go_loopw [5, 6] (fun v i wr => ∃ (k : Nat) (acc : List UInt8), k ≤ L.length ∧ i = .int .i64 k ∧ JInv L w k v wr acc) (fun _ i _ => L.length - (intOf i).toNat)
      case atStart => exact ⟨0, [], by omega, rfl, World.ownsRow_nil _ _ _ _, HB.out, rfl, by simp⟩
      case round =>
        obtain ⟨k, acc, hk, rfl, ho, hb, hg, hacc⟩ := hrel
        have HO := Lib.hid ho
        have HB2 := Lib.hid hb
        have HG := Lib.hid hg
        clear ho hb hg
        by_cases hlt : k < L.length
        · obtain ⟨t, ht⟩ : ∃ t, L[k]? = some t := ⟨L[k], List.getElem?_eq_getElem hlt⟩
          obtain ⟨b, off, hA, hblt, hc⟩ := HL.out (by omega)
          subst hA
          have HC := Lib.hid (hc k t ht)
          obtain ⟨h0, h1, h2, h3, h4⟩ := cells5 HB2.out hblt HC.out
          have HT := Lib.hid ht
          have HTS := Lib.hid (HS.out.2 k t ht)
          have hok := HJ2.out k t hlt ht
          have hval := hok
          unfold tkOk at hval
          rw [Bool.and_eq_true] at hval
          have HVL := Lib.hid hval.1
          have HTL := Lib.hid (tkText_len t HTS.out)
          clear hc ht hok hval
          obtain ⟨i0, hi, hz0, hz1, hz2⟩ := info_parts Tryd.infoByte
          by_cases hk5 : t.k = 5
          · have hcv := conv_own HO.out
            have HE := Lib.hid (joinV_some L acc HV.out (by rw [HG.out]; exact jgo_end L k t _ acc HT.out hk5))
            have hk5b : (t.k == 5) = true := beq_iff_eq.2 hk5
            clear hk5
            go_wp2
            go_ret2
            exact ⟨HE.out.symm ▸ rfl, HB2.out⟩
          · have hk5b : (t.k == 5) = false := beq_eq_false_iff_ne.2 hk5
            have HK5 := Lib.hid hk5
            clear hk5
            by_cases hk0 : k = 0
            · have hkI : ¬ (0 : Int) < (k : Int) := by omega
              have HK0 := Lib.hid hk0
              clear hk0
              have hwx := HB2.out.size
              have hfit := str_fit acc t (by omega) HTL.out
              have HZ1 := Lib.hid hfit.1
              have HZ2 := Lib.hid hfit.2
              clear hfit
              obtain ⟨N, hN⟩ : ∃ N, N = (acc ++ tkText t).length := ⟨_, rfl⟩
              have HN0 := Lib.hid hN
              clear hN
              by_cases hk2 : t.k = 2
              · have hk2b : (t.k == 2) = true := beq_iff_eq.2 hk2
                have HK2 := Lib.hid hk2
                clear hk2
                go_wp2_with fail
                refine (decimal_tk t _ HVL.out HK2.out).mono ?_
                rintro e wd ⟨rfl, hbd⟩
                have HOD := Lib.hid (HO.out.kept (row := none) ⟨hbd.os, hbd.tape, hbd.output, hbd.size, fun i hi _ => hbd.block i hi⟩ (by cases hvv : Value.ownBlock _ <;> simp))
                have HBD := Lib.hid (HB2.out.trans (hbd.mono HB2.out.size))
                have hwd := HBD.out.size
                clear hbd
                go_wp2_with (at_builtin; refine Lib.wpList_append_own_string _ rfl (.tmp 57) (.tmp 63) 43 9 rfl w.heap.size 5 i0 Tryd.underlying43 Tryd.underlying9 hi hz0 hz1 hz2 _ acc.length (bsC acc) rfl HOD.out _ rfl HZ1.out HZ2.out hwd ?_)
                intro v3 w3 ho3 hg3 _
                have R := app_str (s := tkText t) HBD.out hwd HOD.out ho3 hg3
                obtain ⟨A3, cap3, hv3⟩ := own_slice R.1
                rw [← HN0.out] at hv3
                subst hv3
                have HR := Lib.hid R
                clear R ho3 hg3
                by_cases hfull : 65536 < N
                · have hfI : (65536 : Int) < (N : Int) := by omega
                  have HE := Lib.hid (joinV_none L HV.out (by rw [HG.out]; exact jgo_full L k t _ acc HT.out HK5.out (by rw [sep0 k acc HK0.out, ← HN0.out]; exact hfull)))
                  clear hfull
                  go_wp2
                  go_ret2
                  exact ⟨HE.out.symm ▸ rfl, HR.out.2⟩
                · have hfI : (N : Int) ≤ 65536 := by omega
                  have HN : Hid (JInv L w (k + 1) (.slice A3 N cap3) _ (acc ++ tkText t)) := ⟨HR.out.1, HR.out.2, by rw [HG.out, dec_succ, jgo_step L k t _ acc HT.out HK5.out (by rw [sep0 k acc HK0.out, ← HN0.out]; omega), sep0 k acc HK0.out], by rw [← HN0.out]; omega⟩
                  clear hfull
                  go_wp2
                  go_roundw
                  case rel => exact ⟨k + 1, _, by omega, by go_num, HN.out⟩
                  case measure => simp [intOf]; omega
              · have hk2b : (t.k == 2) = false := beq_eq_false_iff_ne.2 hk2
                have HTT := Lib.hid (text_tk t hk2)
                clear hk2
                go_wp2_with (at_builtin; refine Lib.wpList_append_own_string _ rfl (.tmp 65) (.tmp 70) 43 9 rfl w.heap.size 5 i0 Tryd.underlying43 Tryd.underlying9 hi hz0 hz1 hz2 _ acc.length (bsC acc) rfl HO.out _ rfl (by rw [← HTT.out]; exact HZ1.out) (by rw [← HTT.out]; exact HZ2.out) hwx ?_)
                intro v3 w3 ho3 hg3 _
                rw [← HTT.out] at ho3
                have R := app_str (s := tkText t) HB2.out hwx HO.out ho3 hg3
                obtain ⟨A3, cap3, hv3⟩ := own_slice R.1
                rw [← HN0.out] at hv3
                subst hv3
                have HR := Lib.hid R
                clear R ho3 hg3
                by_cases hfull : 65536 < N
                · have hfI : (65536 : Int) < (N : Int) := by omega
                  have HE := Lib.hid (joinV_none L HV.out (by rw [HG.out]; exact jgo_full L k t _ acc HT.out HK5.out (by rw [sep0 k acc HK0.out, ← HN0.out]; exact hfull)))
                  clear hfull
                  go_wp2
                  go_ret2
                  exact ⟨HE.out.symm ▸ rfl, HR.out.2⟩
                · have hfI : (N : Int) ≤ 65536 := by omega
                  have HN : Hid (JInv L w (k + 1) (.slice A3 N cap3) _ (acc ++ tkText t)) := ⟨HR.out.1, HR.out.2, by rw [HG.out, dec_succ, jgo_step L k t _ acc HT.out HK5.out (by rw [sep0 k acc HK0.out, ← HN0.out]; omega), sep0 k acc HK0.out], by rw [← HN0.out]; omega⟩
                  clear hfull
                  go_wp2
                  go_roundw
                  case rel => exact ⟨k + 1, _, by omega, by go_num, HN.out⟩
                  case measure => simp [intOf]; omega
            · have hkI : (0 : Int) < (k : Int) := by omega
              have HK0 := Lib.hid hk0
              clear hk0
              have h1m : acc.length + 1 ≤ maxLen := by unfold maxLen; omega
              have hwr := HB2.out.size
              go_wp2_with (at_builtin; refine wpList_append_own _ rfl (.tmp 48) (.tmp 49) 43 rfl w.heap.size 5 i0 _ 1 1 Tryd.underlying43 hi hz0 hz1 hz2 rfl (by decide) _ acc.length (bsC acc) rfl (HO.out.alloc _) _ 1 1 [.int .u8 32] rfl rfl ?c1 ?c2 h1m ?c4 ?c5 ?_)
              case c1 => exact World.news_of_block (cs := #[.int .u8 32]) (t := 5) (fr := (0, 0)) (heap_alloc_new _ _)
              case c2 => simp [Value.oneCell']
              case c4 => omega
              case c5 => simp; omega
              intro vs ws hos hgs _
              have R := app_one (xs := acc ++ [32]) (c := 32) (Below.refl _ _) hwr HO.out rfl hos hgs
              have HOS := Lib.hid R.1
              have HBS := Lib.hid (HB2.out.trans R.2)
              clear R hos hgs h0 h1 h2 h3 h4
              obtain ⟨e0, e1, e2, e3, e4⟩ := cells5 HBS.out hblt HC.out
              have hwx := HBS.out.size
              have hfit := str_fit (acc ++ [32]) t (by simp; omega) HTL.out
              have HZ1 := Lib.hid hfit.1
              have HZ2 := Lib.hid hfit.2
              clear hfit
              obtain ⟨N, hN⟩ : ∃ N, N = ((acc ++ [32]) ++ tkText t).length := ⟨_, rfl⟩
              have HN0 := Lib.hid hN
              clear hN
              by_cases hk2 : t.k = 2
              · have hk2b : (t.k == 2) = true := beq_iff_eq.2 hk2
                have HK2 := Lib.hid hk2
                clear hk2
                go_wp2_with fail
                refine (decimal_tk t _ HVL.out HK2.out).mono ?_
                rintro e wd ⟨rfl, hbd⟩
                have HOD := Lib.hid (HOS.out.kept (row := none) ⟨hbd.os, hbd.tape, hbd.output, hbd.size, fun i hi _ => hbd.block i hi⟩ (by cases hvv : Value.ownBlock _ <;> simp))
                have HBD := Lib.hid (HBS.out.trans (hbd.mono HBS.out.size))
                have hwd := HBD.out.size
                clear hbd
                go_wp2_with (at_builtin; refine Lib.wpList_append_own_string _ rfl (.tmp 57) (.tmp 63) 43 9 rfl w.heap.size 5 i0 Tryd.underlying43 Tryd.underlying9 hi hz0 hz1 hz2 _ _ _ rfl HOD.out _ rfl HZ1.out HZ2.out hwd ?_)
                intro v3 w3 ho3 hg3 _
                have R := app_str (s := tkText t) HBD.out hwd HOD.out ho3 hg3
                obtain ⟨A3, cap3, hv3⟩ := own_slice R.1
                rw [← HN0.out] at hv3
                subst hv3
                have HR := Lib.hid R
                clear R ho3 hg3
                by_cases hfull : 65536 < N
                · have hfI : (65536 : Int) < (N : Int) := by omega
                  have HE := Lib.hid (joinV_none L HV.out (by rw [HG.out]; exact jgo_full L k t _ acc HT.out HK5.out (by rw [sep1 k acc HK0.out, ← HN0.out]; exact hfull)))
                  clear hfull
                  go_wp2
                  go_ret2
                  exact ⟨HE.out.symm ▸ rfl, HR.out.2⟩
                · have hfI : (N : Int) ≤ 65536 := by omega
                  have HN : Hid (JInv L w (k + 1) (.slice A3 N cap3) _ ((acc ++ [32]) ++ tkText t)) := ⟨HR.out.1, HR.out.2, by rw [HG.out, dec_succ, jgo_step L k t _ acc HT.out HK5.out (by rw [sep1 k acc HK0.out, ← HN0.out]; omega), sep1 k acc HK0.out], by rw [← HN0.out]; omega⟩
                  clear hfull
                  go_wp2
                  go_roundw
                  case rel => exact ⟨k + 1, _, by omega, by go_num, HN.out⟩
                  case measure => simp [intOf]; omega
              · have hk2b : (t.k == 2) = false := beq_eq_false_iff_ne.2 hk2
                have HTT := Lib.hid (text_tk t hk2)
                clear hk2
                go_wp2_with (at_builtin; refine Lib.wpList_append_own_string _ rfl (.tmp 65) (.tmp 70) 43 9 rfl w.heap.size 5 i0 Tryd.underlying43 Tryd.underlying9 hi hz0 hz1 hz2 _ _ _ rfl HOS.out _ rfl (by rw [← HTT.out]; exact HZ1.out) (by rw [← HTT.out]; exact HZ2.out) hwx ?_)
                intro v3 w3 ho3 hg3 _
                rw [← HTT.out] at ho3
                have R := app_str (s := tkText t) HBS.out hwx HOS.out ho3 hg3
                obtain ⟨A3, cap3, hv3⟩ := own_slice R.1
                rw [← HN0.out] at hv3
                subst hv3
                have HR := Lib.hid R
                clear R ho3 hg3
                by_cases hfull : 65536 < N
                · have hfI : (65536 : Int) < (N : Int) := by omega
                  have HE := Lib.hid (joinV_none L HV.out (by rw [HG.out]; exact jgo_full L k t _ acc HT.out HK5.out (by rw [sep1 k acc HK0.out, ← HN0.out]; exact hfull)))
                  clear hfull
                  go_wp2
                  go_ret2
                  exact ⟨HE.out.symm ▸ rfl, HR.out.2⟩
                · have hfI : (N : Int) ≤ 65536 := by omega
                  have HN : Hid (JInv L w (k + 1) (.slice A3 N cap3) _ ((acc ++ [32]) ++ tkText t)) := ⟨HR.out.1, HR.out.2, by rw [HG.out, dec_succ, jgo_step L k t _ acc HT.out HK5.out (by rw [sep1 k acc HK0.out, ← HN0.out]; omega), sep1 k acc HK0.out], by rw [← HN0.out]; omega⟩
                  clear hfull
                  go_wp2
                  go_roundw
                  case rel => exact ⟨k + 1, _, by omega, by go_num, HN.out⟩
                  case measure => simp [intOf]; omega
        · have hcv := conv_own HO.out
          have HE := Lib.hid (joinV_some L acc HV.out (by rw [HG.out]; exact jgo_done L k _ acc (by omega)))
          go_wp2
          go_ret2
          exact ⟨HE.out.symm ▸ rfl, HB2.out⟩
end Go.Proofs.YthbcfcbonmphfaaDoor
