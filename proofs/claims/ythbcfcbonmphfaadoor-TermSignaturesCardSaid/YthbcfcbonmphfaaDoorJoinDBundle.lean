/- Walks: which lists of tokens the laws speak of; LexJoins. -/
import Derived.Test.YthbcfcbonmphfaaDoorTermPBundle
import Derived.Test.YthbcfcbonmphfaaDoorTermBBundle
/- Walks: Join, by the reference. -/
namespace Go.Proofs.YthbcfcbonmphfaaDoor
set_option maxRecDepth 100000
open Go.RowKit

theorem refValid_tk (t : Tk) (w : World) (hs : t.t.length ≤ 1000) (v : Bool) (hv : validT t.k t.t t.n = v) :
    Calls Tryd.prog 19 #[.agg #[.int .i64 t.k, .string ⟨t.t.toArray⟩, .int .i64 t.n, .int .i64 t.a, .int .i64 t.b]] w fun e w' => e = .returned (.bool v) ∧ Below w.heap.size w w' := by
  have := refValid_any t.k ⟨t.t.toArray⟩ t.n t.a t.b w (by unfold maxLen; show t.t.toArray.size ≤ _; simp; omega)
  have e : (ByteArray.mk t.t.toArray).data.toList = t.t := by simp
  rw [e, hv] at this
  exact this
theorem tkOk_mid2 (L : List Tk) (k : Nat) (t : Tk) (h5 : t.k = 5) (hk : (k : Int) < (L.length : Int) - 1) : tkOk L k t = false := tkOk_mid L k t h5 (by simp; omega)
theorem tkOk_last2 (L : List Tk) (k : Nat) (t : Tk) (hlt : k < L.length) (hv : validT t.k t.t t.n = true) (hk : (L.length : Int) - 1 ≤ (k : Int)) : tkOk L k t = true := tkOk_last L k t hv (by simp; omega)
theorem decimal_tk (t : Tk) (w : World) (hv : validT t.k t.t t.n = true) (h2 : t.k = 2) : Calls Tryd.prog 70 #[.int .i64 t.n] w fun e w' => e = .returned (.string ⟨(tkText t).toArray⟩) ∧ Below w.heap.size w w' := by
  have hn := valid_n _ _ _ hv
  obtain ⟨m, hm⟩ := Int.eq_ofNat_of_zero_le hn.1
  have e : tkText t = decF 13 m := by unfold tkText dec; rw [if_pos h2, hm, Int.toNat_natCast]
  rw [e, hm]
  exact decimal_any 12 m w (by omega) (Nat.lt_of_le_of_lt (show m ≤ 1099511627776 by omega) (by decide)) (by omega)
theorem text_tk (t : Tk) (h2 : ¬ t.k = 2) : tkText t = t.t := by unfold tkText; rw [if_neg h2]
theorem tkText_len (t : Tk) (hs : t.t.length ≤ 1000) : (tkText t).length ≤ 1000 := by
  unfold tkText
  split
  · have := decF_len 13 t.n.toNat; unfold dec; omega
  · exact hs
theorem str_fit (acc : List UInt8) (t : Tk) (h : acc.length ≤ 65537) (h2 : (tkText t).length ≤ 1000) : acc.length + (ByteArray.mk (tkText t).toArray).size ≤ maxLen ∧ acc.length + (ByteArray.mk (tkText t).toArray).size ≤ 140737488355328 := by
  have h1 : (ByteArray.mk (tkText t).toArray).size = (tkText t).length := by show (tkText t).toArray.size = _; simp
  rw [h1]
  unfold maxLen
  omega
/-- What an append of a string leaves. -/
theorem app_str {w w1 w2 : World} {base n : Nat} {v v' : Value} {ys : List UInt8} {s : List UInt8} (hb : Below base w w1) (hB : base ≤ w1.heap.size) (ho : w1.ownsRow base 5 1 v ys.length (bsC ys))
    (ho2 : w2.ownsRow base 5 1 v' n (bsC ys ++ Lib.strCells ⟨s.toArray⟩)) (hg : w1.grownBy w2 v.ownBlock) : w2.ownsRow base 5 1 v' (ys ++ s).length (bsC (ys ++ s)) ∧ Below base w w2 := by
  refine ⟨?_, hb.grown hg hB (fun k e => (ho.lt k e).1)⟩
  have e1 : Lib.strCells ⟨s.toArray⟩ = bsC s := by simp [Lib.strCells, bsC]
  rw [e1, bsC_app] at ho2
  have e3 : n = (ys ++ s).length := by have := ho2.1; rw [bsC_len] at this; omega
  rw [← e3]
  exact ho2

set_option maxRecDepth 100000 in
set_option maxHeartbeats 2000000 in
theorem refJoin_any (A : Option Addr) (cap : Nat) (L : List Tk) (w : World) (hsm : Small L) (hl : SlT w A L) :
    Calls Tryd.prog 25 #[.slice A L.length cap] w fun e w' => e = .returned (joinV L) ∧ Below w.heap.size w w' := by
  have HS := Lib.hid hsm
  have HL := Lib.hid hl
  have hlen := hsm.1
  clear hsm hl
  go_enter Tryd.func25, Tryd.ntmps25
  go_wp2_with fail
  go_loopw [4] (fun i wr => ∃ k : Nat, k ≤ L.length ∧ i = .int .i64 k ∧ jvalTo L k ∧ Below w.heap.size w wr) (fun i _ => L.length - (intOf i).toNat)
  case atStart => exact ⟨0, by omega, rfl, fun i t hi => absurd hi (by omega), Below.refl _ _⟩
  case round =>
    obtain ⟨k, hk, rfl, hjv, hbw⟩ := hrel
    have HJ := Lib.hid hjv
    have HB := Lib.hid hbw
    clear hjv hbw
    by_cases hlt : k < L.length
    · obtain ⟨t, ht⟩ : ∃ t, L[k]? = some t := ⟨L[k], List.getElem?_eq_getElem hlt⟩
      obtain ⟨b, off, hA, hblt, hc⟩ := (HL.out.below HB.out) (by omega)
      subst hA
      obtain ⟨h0, h1, h2, h3, h4⟩ := hc k t ht
      have HT := Lib.hid ht
      have HTS := Lib.hid (HS.out.2 k t ht)
      clear hc ht
      cases hv : validT t.k t.t t.n
      · go_wp2_with (go_at_call 19; refine (refValid_tk t _ HTS.out _ hv).mono ?_; rintro e w1 ⟨rfl, hb1⟩)
        go_ret2
        exact ⟨(joinV_bad L k t HT.out (tkOk_no L k t hv)).symm ▸ rfl, HB.out.trans (hb1.mono HB.out.size)⟩
      · go_wp2_with (go_at_call 19; refine (refValid_tk t _ HTS.out _ hv).mono ?_; rintro e w1 ⟨rfl, hb1⟩; have h0' : w1.cell? ⟨b, off + k * 5, none⟩ = some (.int .i64 t.k) := (hb1.cell (p := ⟨b, off + k * 5, none⟩) hblt).trans h0)
        all_goals
          have HB1 := Lib.hid (HB.out.trans (hb1.mono HB.out.size))
          clear hb1
        · have a1 : t.k = 5 := by assumption
          have a2 : (k : Int) < (L.length : Int) - 1 := by assumption
          go_ret2
          exact ⟨(joinV_bad L k t HT.out (tkOk_mid2 L k t a1 a2)).symm ▸ rfl, HB1.out⟩
        · have a2 : (L.length : Int) - 1 ≤ (k : Int) := by assumption
          have HN := Lib.hid (jvalTo_snoc L k t HJ.out HT.out (tkOk_last2 L k t hlt hv a2))
          clear a2
          go_roundw
          case rel => exact ⟨k + 1, by omega, by go_num, HN.out, HB1.out⟩
          case measure => simp [intOf]; omega
        · have a1 : ¬ t.k = 5 := by assumption
          have HN := Lib.hid (jvalTo_snoc L k t HJ.out HT.out (tkOk_plain L k t hv a1))
          clear a1
          go_roundw
          case rel => exact ⟨k + 1, by omega, by go_num, HN.out, HB1.out⟩
          case measure => simp [intOf]; omega
    · have hkL : k = L.length := by omega
      have HV := Lib.hid (jval_of L (hkL ▸ HJ.out))
      have HJ2 := Lib.hid (hkL ▸ HJ.out)
      clear HJ hkL
      go_wp2_with fail
      obtain ⟨w2, hw2⟩ : ∃ w2 : World, w2 = wr := ⟨_, rfl⟩
      subst hw2
      go_loopw [5, 6] (fun v i wr => ∃ (k : Nat) (acc : List UInt8), k ≤ L.length ∧ i = .int .i64 k ∧ JInv L w k v wr acc) (fun _ i _ => L.length - (intOf i).toNat)
      case atStart => exact ⟨0, [], by omega, rfl, World.ownsRow_nil _ _ _ _, HB.out, rfl, by simp⟩
      case round =>
        obtain ⟨k, acc, hk, rfl, ho, hb, hg, hacc⟩ := hrel
        have HO := Lib.hid ho
        have HB2 := Lib.hid hb
        have HG := Lib.hid hg
        clear ho hb hg
        by_cases hlt : k < L.length
        · obtain ⟨t, ht⟩ : ∃ t, L[k]? = some t := ⟨L[k], List.getElem?_eq_getElem hlt⟩
          obtain ⟨b, off, hA, hblt, hc⟩ := HL.out (by omega)
          subst hA
          have HC := Lib.hid (hc k t ht)
          obtain ⟨h0, h1, h2, h3, h4⟩ := cells5 HB2.out hblt HC.out
          have HT := Lib.hid ht
          have HTS := Lib.hid (HS.out.2 k t ht)
          have hok := HJ2.out k t hlt ht
          have hval := hok
          unfold tkOk at hval
          rw [Bool.and_eq_true] at hval
          have HVL := Lib.hid hval.1
          have HTL := Lib.hid (tkText_len t HTS.out)
          clear hc ht hok hval
          obtain ⟨i0, hi, hz0, hz1, hz2⟩ := info_parts Tryd.infoByte
          by_cases hk5 : t.k = 5
          · have hcv := conv_own HO.out
            have HE := Lib.hid (joinV_some L acc HV.out (by rw [HG.out]; exact jgo_end L k t _ acc HT.out hk5))
            have hk5b : (t.k == 5) = true := beq_iff_eq.2 hk5
            clear hk5
            go_wp2
            go_ret2
            exact ⟨HE.out.symm ▸ rfl, HB2.out⟩
          · have hk5b : (t.k == 5) = false := beq_eq_false_iff_ne.2 hk5
            have HK5 := Lib.hid hk5
            clear hk5
            by_cases hk0 : k = 0
            · have hkI : ¬ (0 : Int) < (k : Int) := by omega
              have HK0 := Lib.hid hk0
              clear hk0
              have hwx := HB2.out.size
              have hfit := str_fit acc t (by omega) HTL.out
              have HZ1 := Lib.hid hfit.1
              have HZ2 := Lib.hid hfit.2
              clear hfit
              obtain ⟨N, hN⟩ : ∃ N, N = (acc ++ tkText t).length := ⟨_, rfl⟩
              have HN0 := Lib.hid hN
              clear hN
              by_cases hk2 : t.k = 2
              · have hk2b : (t.k == 2) = true := beq_iff_eq.2 hk2
                have HK2 := Lib.hid hk2
                clear hk2
                go_wp2_with fail
                refine (decimal_tk t _ HVL.out HK2.out).mono ?_
                rintro e wd ⟨rfl, hbd⟩
                have HOD := Lib.hid (HO.out.kept (row := none) ⟨hbd.os, hbd.tape, hbd.output, hbd.size, fun i hi _ => hbd.block i hi⟩ (by cases hvv : Value.ownBlock _ <;> simp))
                have HBD := Lib.hid (HB2.out.trans (hbd.mono HB2.out.size))
                have hwd := HBD.out.size
                clear hbd
                go_wp2_with (at_builtin; refine Lib.wpList_append_own_string _ rfl (.tmp 57) (.tmp 63) 43 9 rfl w.heap.size 5 i0 Tryd.underlying43 Tryd.underlying9 hi hz0 hz1 hz2 _ acc.length (bsC acc) rfl HOD.out _ rfl HZ1.out HZ2.out hwd ?_)
                intro v3 w3 ho3 hg3 _
                have R := app_str (s := tkText t) HBD.out hwd HOD.out ho3 hg3
                obtain ⟨A3, cap3, hv3⟩ := own_slice R.1
                rw [← HN0.out] at hv3
                subst hv3
                have HR := Lib.hid R
                clear R ho3 hg3
                by_cases hfull : 65536 < N
                · have hfI : (65536 : Int) < (N : Int) := by omega
                  have HE := Lib.hid (joinV_none L HV.out (by rw [HG.out]; exact jgo_full L k t _ acc HT.out HK5.out (by rw [sep0 k acc HK0.out, ← HN0.out]; exact hfull)))
                  clear hfull
                  go_wp2
                  go_ret2
                  exact ⟨HE.out.symm ▸ rfl, HR.out.2⟩
                · have hfI : (N : Int) ≤ 65536 := by omega
                  have HN : Hid (JInv L w (k + 1) (.slice A3 N cap3) _ (acc ++ tkText t)) := ⟨HR.out.1, HR.out.2, by rw [HG.out, dec_succ, jgo_step L k t _ acc HT.out HK5.out (by rw [sep0 k acc HK0.out, ← HN0.out]; omega), sep0 k acc HK0.out], by rw [← HN0.out]; omega⟩
                  clear hfull
                  go_wp2
                  go_roundw
                  case rel => exact ⟨k + 1, _, by omega, by go_num, HN.out⟩
                  case measure => simp [intOf]; omega
              · have hk2b : (t.k == 2) = false := beq_eq_false_iff_ne.2 hk2
                have HTT := Lib.hid (text_tk t hk2)
                clear hk2
                go_wp2_with (at_builtin; refine Lib.wpList_append_own_string _ rfl (.tmp 65) (.tmp 70) 43 9 rfl w.heap.size 5 i0 Tryd.underlying43 Tryd.underlying9 hi hz0 hz1 hz2 _ acc.length (bsC acc) rfl HO.out _ rfl (by rw [← HTT.out]; exact HZ1.out) (by rw [← HTT.out]; exact HZ2.out) hwx ?_)
                intro v3 w3 ho3 hg3 _
                rw [← HTT.out] at ho3
                have R := app_str (s := tkText t) HB2.out hwx HO.out ho3 hg3
                obtain ⟨A3, cap3, hv3⟩ := own_slice R.1
                rw [← HN0.out] at hv3
                subst hv3
                have HR := Lib.hid R
                clear R ho3 hg3
                by_cases hfull : 65536 < N
                · have hfI : (65536 : Int) < (N : Int) := by omega
                  have HE := Lib.hid (joinV_none L HV.out (by rw [HG.out]; exact jgo_full L k t _ acc HT.out HK5.out (by rw [sep0 k acc HK0.out, ← HN0.out]; exact hfull)))
                  clear hfull
                  go_wp2
                  go_ret2
                  exact ⟨HE.out.symm ▸ rfl, HR.out.2⟩
                · have hfI : (N : Int) ≤ 65536 := by omega
                  have HN : Hid (JInv L w (k + 1) (.slice A3 N cap3) _ (acc ++ tkText t)) := ⟨HR.out.1, HR.out.2, by rw [HG.out, dec_succ, jgo_step L k t _ acc HT.out HK5.out (by rw [sep0 k acc HK0.out, ← HN0.out]; omega), sep0 k acc HK0.out], by rw [← HN0.out]; omega⟩
                  clear hfull
                  go_wp2
                  go_roundw
                  case rel => exact ⟨k + 1, _, by omega, by go_num, HN.out⟩
                  case measure => simp [intOf]; omega
            · have hkI : (0 : Int) < (k : Int) := by omega
              have HK0 := Lib.hid hk0
              clear hk0
              have h1m : acc.length + 1 ≤ maxLen := by unfold maxLen; omega
              have hwr := HB2.out.size
              go_wp2_with (at_builtin; refine wpList_append_own _ rfl (.tmp 48) (.tmp 49) 43 rfl w.heap.size 5 i0 _ 1 1 Tryd.underlying43 hi hz0 hz1 hz2 rfl (by decide) _ acc.length (bsC acc) rfl (HO.out.alloc _) _ 1 1 [.int .u8 32] rfl rfl ?c1 ?c2 h1m ?c4 ?c5 ?_)
              case c1 => exact World.news_of_block (cs := #[.int .u8 32]) (t := 5) (fr := (0, 0)) (heap_alloc_new _ _)
              case c2 => simp [Value.oneCell']
              case c4 => omega
              case c5 => simp; omega
              intro vs ws hos hgs _
              have R := app_one (xs := acc ++ [32]) (c := 32) (Below.refl _ _) hwr HO.out rfl hos hgs
              have HOS := Lib.hid R.1
              have HBS := Lib.hid (HB2.out.trans R.2)
              clear R hos hgs h0 h1 h2 h3 h4
              obtain ⟨e0, e1, e2, e3, e4⟩ := cells5 HBS.out hblt HC.out
              have hwx := HBS.out.size
              have hfit := str_fit (acc ++ [32]) t (by simp; omega) HTL.out
              have HZ1 := Lib.hid hfit.1
              have HZ2 := Lib.hid hfit.2
              clear hfit
              obtain ⟨N, hN⟩ : ∃ N, N = ((acc ++ [32]) ++ tkText t).length := ⟨_, rfl⟩
              have HN0 := Lib.hid hN
              clear hN
              by_cases hk2 : t.k = 2
              · have hk2b : (t.k == 2) = true := beq_iff_eq.2 hk2
                have HK2 := Lib.hid hk2
                clear hk2
                go_wp2_with fail
                refine (decimal_tk t _ HVL.out HK2.out).mono ?_
                rintro e wd ⟨rfl, hbd⟩
                have HOD := Lib.hid (HOS.out.kept (row := none) ⟨hbd.os, hbd.tape, hbd.output, hbd.size, fun i hi _ => hbd.block i hi⟩ (by cases hvv : Value.ownBlock _ <;> simp))
                have HBD := Lib.hid (HBS.out.trans (hbd.mono HBS.out.size))
                have hwd := HBD.out.size
                clear hbd
                go_wp2_with (at_builtin; refine Lib.wpList_append_own_string _ rfl (.tmp 57) (.tmp 63) 43 9 rfl w.heap.size 5 i0 Tryd.underlying43 Tryd.underlying9 hi hz0 hz1 hz2 _ _ _ rfl HOD.out _ rfl HZ1.out HZ2.out hwd ?_)
                intro v3 w3 ho3 hg3 _
                have R := app_str (s := tkText t) HBD.out hwd HOD.out ho3 hg3
                obtain ⟨A3, cap3, hv3⟩ := own_slice R.1
                rw [← HN0.out] at hv3
                subst hv3
                have HR := Lib.hid R
                clear R ho3 hg3
                by_cases hfull : 65536 < N
                · have hfI : (65536 : Int) < (N : Int) := by omega
                  have HE := Lib.hid (joinV_none L HV.out (by rw [HG.out]; exact jgo_full L k t _ acc HT.out HK5.out (by rw [sep1 k acc HK0.out, ← HN0.out]; exact hfull)))
                  clear hfull
                  go_wp2
                  go_ret2
                  exact ⟨HE.out.symm ▸ rfl, HR.out.2⟩
                · have hfI : (N : Int) ≤ 65536 := by omega
                  have HN : Hid (JInv L w (k + 1) (.slice A3 N cap3) _ ((acc ++ [32]) ++ tkText t)) := ⟨HR.out.1, HR.out.2, by rw [HG.out, dec_succ, jgo_step L k t _ acc HT.out HK5.out (by rw [sep1 k acc HK0.out, ← HN0.out]; omega), sep1 k acc HK0.out], by rw [← HN0.out]; omega⟩
                  clear hfull
                  go_wp2
                  go_roundw
                  case rel => exact ⟨k + 1, _, by omega, by go_num, HN.out⟩
                  case measure => simp [intOf]; omega
              · have hk2b : (t.k == 2) = false := beq_eq_false_iff_ne.2 hk2
                have HTT := Lib.hid (text_tk t hk2)
                clear hk2
                go_wp2_with (at_builtin; refine Lib.wpList_append_own_string _ rfl (.tmp 65) (.tmp 70) 43 9 rfl w.heap.size 5 i0 Tryd.underlying43 Tryd.underlying9 hi hz0 hz1 hz2 _ _ _ rfl HOS.out _ rfl (by rw [← HTT.out]; exact HZ1.out) (by rw [← HTT.out]; exact HZ2.out) hwx ?_)
                intro v3 w3 ho3 hg3 _
                rw [← HTT.out] at ho3
                have R := app_str (s := tkText t) HBS.out hwx HOS.out ho3 hg3
                obtain ⟨A3, cap3, hv3⟩ := own_slice R.1
                rw [← HN0.out] at hv3
                subst hv3
                have HR := Lib.hid R
                clear R ho3 hg3
                by_cases hfull : 65536 < N
                · have hfI : (65536 : Int) < (N : Int) := by omega
                  have HE := Lib.hid (joinV_none L HV.out (by rw [HG.out]; exact jgo_full L k t _ acc HT.out HK5.out (by rw [sep1 k acc HK0.out, ← HN0.out]; exact hfull)))
                  clear hfull
                  go_wp2
                  go_ret2
                  exact ⟨HE.out.symm ▸ rfl, HR.out.2⟩
                · have hfI : (N : Int) ≤ 65536 := by omega
                  have HN : Hid (JInv L w (k + 1) (.slice A3 N cap3) _ ((acc ++ [32]) ++ tkText t)) := ⟨HR.out.1, HR.out.2, by rw [HG.out, dec_succ, jgo_step L k t _ acc HT.out HK5.out (by rw [sep1 k acc HK0.out, ← HN0.out]; omega), sep1 k acc HK0.out], by rw [← HN0.out]; omega⟩
                  clear hfull
                  go_wp2
                  go_roundw
                  case rel => exact ⟨k + 1, _, by omega, by go_num, HN.out⟩
                  case measure => simp [intOf]; omega
        · have hcv := conv_own HO.out
          have HE := Lib.hid (joinV_some L acc HV.out (by rw [HG.out]; exact jgo_done L k _ acc (by omega)))
          go_wp2
          go_ret2
          exact ⟨HE.out.symm ▸ rfl, HB2.out⟩
end Go.Proofs.YthbcfcbonmphfaaDoor
/- Walks: awake. -/
namespace Go.Proofs.YthbcfcbonmphfaaDoor
open Go.RowKit

theorem toks_c1 : toks [120, 46, 108, 101, 102, 116, 60, 61, 51, 32, 35, 32, 110, 111] 1 1 = .ok [⟨1, [120], 0, 1, 1⟩, ⟨4, [46], 0, 1, 2⟩, ⟨1, [108, 101, 102, 116], 0, 1, 3⟩, ⟨4, [60, 61], 0, 1, 7⟩, ⟨2, [], 3, 1, 9⟩, ⟨5, [], 0, 1, 15⟩] := by rfl
theorem toks_c2 : toks [97, 32, 61, 32, 48, 49] 1 1 = .error (1, 5) := by rfl

theorem tokens_c1 (w : World) (hp : Pairs w) : Calls Tryd.prog 20 #[.string ⟨#[120, 46, 108, 101, 102, 116, 60, 61, 51, 32, 35, 32, 110, 111]⟩] w fun e w' => ∃ g cap, e = .returned (.tuple #[.slice (some ⟨g, 0, none⟩) 6 cap, .agg #[.int .i64 0, .int .i64 0], .int .i64 0]) ∧
    w'.cell? ⟨g, 16, none⟩ = some (.string ⟨#[60, 61]⟩) ∧ w'.cell? ⟨g, 22, none⟩ = some (.int .i64 3) ∧ g < w'.heap.size ∧ Below w.heap.size w w' := by
  refine (tokens_any _ w (by decide) hp).mono ?_
  rintro e w' ⟨hb, hT⟩
  have e1 : toks (ByteArray.mk #[120, 46, 108, 101, 102, 116, 60, 61, 51, 32, 35, 32, 110, 111]).data.toList 1 1 = _ := toks_c1
  rw [e1] at hT
  simp only at hT
  obtain ⟨v, he, ho⟩ := hT
  obtain ⟨g, cap, hv, _, hlt⟩ := ho.form (by decide)
  subst hv
  have h16 := ho.cellAt 16 (by decide)
  have h22 := ho.cellAt 22 (by decide)
  exact ⟨g, cap, he, h16, h22, hlt, hb⟩
theorem tokens_c2 (w : World) (hp : Pairs w) : Calls Tryd.prog 20 #[.string ⟨#[97, 32, 61, 32, 48, 49]⟩] w fun e w' => e = .returned (.tuple #[.slice none 0 0, .agg #[.int .i64 1, .int .i64 5], .int .i64 7]) ∧ Below w.heap.size w w' := by
  refine (tokens_any _ w (by decide) hp).mono ?_
  rintro e w' ⟨hb, hT⟩
  have e1 : toks (ByteArray.mk #[97, 32, 61, 32, 48, 49]).data.toList 1 1 = _ := toks_c2
  rw [e1] at hT
  exact ⟨hT, hb⟩

set_option maxHeartbeats 1000000 in
theorem awake_any (w : World) (hp : Pairs w) : Calls Tryd.prog 13 #[] w fun e w' => e = .returned (.bool true) ∧ Below w.heap.size w w' := by
  have HP := Lib.hid hp
  clear hp
  go_enter Tryd.func13, Tryd.ntmps13
  go_wp2_with fail
  refine (tokens_c1 _ HP.out).mono ?_
  rintro e w1 ⟨g, cap, rfl, h16, h22, hlt, hb1⟩
  have HP1 := Lib.hid ((HP.out.below hb1 HP.out.lt).alloc (.cells #[.int .i64 0, .int .i64 0] 23))
  have HB1 := Lib.hid hb1
  have H16 := Lib.hid h16
  have H22 := Lib.hid h22
  clear hb1 h16 h22
  go_wp2_with fail
  refine (tokens_c2 _ HP1.out).mono ?_
  rintro e w2 ⟨rfl, hb2⟩
  have h16 : w2.cell? ⟨g, 16, none⟩ = some (.string ⟨#[60, 61]⟩) := (hb2.cell (p := ⟨g, 16, none⟩) (by simp; omega)).trans ((World.cell?_alloc_lt w1 _ _ hlt).trans H16.out)
  have h22 : w2.cell? ⟨g, 22, none⟩ = some (.int .i64 3) := (hb2.cell (p := ⟨g, 22, none⟩) (by simp; omega)).trans ((World.cell?_alloc_lt w1 _ _ hlt).trans H22.out)
  have HB2 := Lib.hid (((HB1.out.alloc HB1.out.size _).trans (hb2.mono (by have := HB1.out.size; simp; omega))))
  have hlt2 : g < w2.heap.size := by have := hb2.size; simp at this; omega
  clear hb2
  go_wp2
  go_ret
  exact ⟨rfl, HB2.out.alloc HB2.out.size _⟩

/-- What the law keeps across its calls. -/
theorem held5 {W W' : World} {B : Nat} {c0 c1 c2 c3 c4 : Value} (h : (W.cell? ⟨B, 0, none⟩ = some c0 ∧ W.cell? ⟨B, 1, none⟩ = some c1 ∧ W.cell? ⟨B, 2, none⟩ = some c2 ∧ W.cell? ⟨B, 3, none⟩ = some c3 ∧ W.cell? ⟨B, 4, none⟩ = some c4) ∧ B < W.heap.size ∧ Pairs W)
    (hb : Below W.heap.size W W') : (W'.cell? ⟨B, 0, none⟩ = some c0 ∧ W'.cell? ⟨B, 1, none⟩ = some c1 ∧ W'.cell? ⟨B, 2, none⟩ = some c2 ∧ W'.cell? ⟨B, 3, none⟩ = some c3 ∧ W'.cell? ⟨B, 4, none⟩ = some c4) ∧ B < W'.heap.size ∧ Pairs W' := by
  obtain ⟨⟨h0, h1, h2, h3, h4⟩, hl, hp⟩ := h
  have hs := hb.size
  exact ⟨⟨(hb.cell (p := ⟨B, 0, none⟩) hl).trans h0, (hb.cell (p := ⟨B, 1, none⟩) hl).trans h1, (hb.cell (p := ⟨B, 2, none⟩) hl).trans h2, (hb.cell (p := ⟨B, 3, none⟩) hl).trans h3, (hb.cell (p := ⟨B, 4, none⟩) hl).trans h4⟩, by omega, hp.below hb hp.lt⟩

theorem held5S {w W W' : World} {B : Nat} {c0 c1 c2 c3 c4 : Value} (hb : Below W.heap.size W W') (h : ((W.cell? ⟨B, 0, none⟩ = some c0 ∧ W.cell? ⟨B, 1, none⟩ = some c1 ∧ W.cell? ⟨B, 2, none⟩ = some c2 ∧ W.cell? ⟨B, 3, none⟩ = some c3 ∧ W.cell? ⟨B, 4, none⟩ = some c4) ∧ B < W.heap.size ∧ Pairs W) ∧ Below B w W) :
    ((W'.cell? ⟨B, 0, none⟩ = some c0 ∧ W'.cell? ⟨B, 1, none⟩ = some c1 ∧ W'.cell? ⟨B, 2, none⟩ = some c2 ∧ W'.cell? ⟨B, 3, none⟩ = some c3 ∧ W'.cell? ⟨B, 4, none⟩ = some c4) ∧ B < W'.heap.size ∧ Pairs W') ∧ Below B w W' :=
  ⟨held5 h.1 hb, h.2.trans (hb.mono (Nat.le_of_lt h.1.2.1))⟩
theorem pairs_held {w W : World} {B : Nat} {c0 c1 c2 c3 c4 : Value} (h : ((W.cell? ⟨B, 0, none⟩ = some c0 ∧ W.cell? ⟨B, 1, none⟩ = some c1 ∧ W.cell? ⟨B, 2, none⟩ = some c2 ∧ W.cell? ⟨B, 3, none⟩ = some c3 ∧ W.cell? ⟨B, 4, none⟩ = some c4) ∧ B < W.heap.size ∧ Pairs W) ∧ Below B w W) : Pairs W := h.1.2.2
theorem below_held {w W : World} {B : Nat} {c0 c1 c2 c3 c4 : Value} (h : ((W.cell? ⟨B, 0, none⟩ = some c0 ∧ W.cell? ⟨B, 1, none⟩ = some c1 ∧ W.cell? ⟨B, 2, none⟩ = some c2 ∧ W.cell? ⟨B, 3, none⟩ = some c3 ∧ W.cell? ⟨B, 4, none⟩ = some c4) ∧ B < W.heap.size ∧ Pairs W) ∧ Below B w W) : Below B w W := h.2
theorem pairs_box {w : World} (hp : Pairs w) (o : Obj) : Pairs (w.alloc o) := hp.alloc o

set_option maxHeartbeats 2000000 in
theorem lexNames_small (s ts : ByteArray) (k n a b : Int) (w : World) (hs : s.size ≤ 100) (ht : ts.size ≤ 100) (hp : Pairs w) :
    Calls Tryd.prog 3 #[.string s, .agg #[.int .i64 k, .string ts, .int .i64 n, .int .i64 a, .int .i64 b]] w fun e w' => e = .returned (.bool true) ∧ Below w.heap.size w w' := by
  have HP := Lib.hid (hp.alloc (.cells #[.int .i64 k, .string ts, .int .i64 n, .int .i64 a, .int .i64 b] 25))
  have HS := Lib.hid (show s.size ≤ maxLen by unfold maxLen; omega)
  have HT := Lib.hid (show ts.size ≤ maxLen by unfold maxLen; omega)
  have hsI : decide ((100 : Int) < (s.size : Int)) = false := by simp; omega
  have htI : decide ((100 : Int) < (ts.size : Int)) = false := by simp; omega
  clear hp
  go_enter Tryd.func3, Tryd.ntmps3
  go_wp2_with fail
  refine (awake_any _ HP.out).mono ?_
  rintro e w1 ⟨rfl, hb1⟩
  have HB1 := Lib.hid (((Below.refl _ _).alloc (Nat.le_refl _) _).trans (hb1.mono (by simp)))
  have HH : Hid ((w1.cell? ⟨w.heap.size, 0, none⟩ = some (.int .i64 k) ∧ w1.cell? ⟨w.heap.size, 1, none⟩ = some (.string ts) ∧ w1.cell? ⟨w.heap.size, 2, none⟩ = some (.int .i64 n) ∧ w1.cell? ⟨w.heap.size, 3, none⟩ = some (.int .i64 a) ∧ w1.cell? ⟨w.heap.size, 4, none⟩ = some (.int .i64 b)) ∧ w.heap.size < w1.heap.size ∧ Pairs w1) :=
    held5 ⟨(blk5 (heap_alloc_new w _)).1, by simp, HP.out⟩ hb1
  have c1 := HH.out.1.2.1
  clear hb1
  have hS1 := And.intro HH.out HB1.out
  have HS1 := Lib.hid hS1
  clear hS1
  go_wp2_with fail
  go_region_held3 (fun w' => ((w'.cell? ⟨w.heap.size, 0, none⟩ = some (.int .i64 k) ∧ w'.cell? ⟨w.heap.size, 1, none⟩ = some (.string ts) ∧ w'.cell? ⟨w.heap.size, 2, none⟩ = some (.int .i64 n) ∧ w'.cell? ⟨w.heap.size, 3, none⟩ = some (.int .i64 a) ∧ w'.cell? ⟨w.heap.size, 4, none⟩ = some (.int .i64 b)) ∧ w.heap.size < w'.heap.size ∧ Pairs w') ∧ Below w.heap.size w w')
        (first | exact ⟨HS1.out.1, HS1.out.2.drew⟩ | assumption | exact held5S hbx (by assumption))
        (first
          | (go_at_call 14; refine (isName_any _ _ HS.out).mono ?_; rintro e wx ⟨rfl, rfl⟩)
          | (go_at_call 15; refine (refIsName_any _ _ HS.out).mono ?_; rintro e wx ⟨rfl, hbx⟩)
          | (go_at_call 16; refine (iskw_any _ _).mono ?_; rintro e wx ⟨rfl, rfl⟩)
          | (go_at_call 17; refine (refIsKw_any _ _).mono ?_; rintro e wx ⟨rfl, hbx⟩)
          | (go_at_call 18; refine (valid_any k ts n a b _ HT.out (pairs_held (by assumption))).mono ?_; rintro e wx ⟨rfl, hbx⟩)
          | (go_at_call 19; refine (refValid_any k ts n a b _ HT.out).mono ?_; rintro e wx ⟨rfl, hbx⟩))
  go_wp2
  go_ret
  exact ⟨rfl, below_held (by assumption)⟩

set_option maxHeartbeats 1000000 in
theorem lexNames_big (s ts : ByteArray) (k n a b : Int) (w : World) (hb : 100 < s.size ∨ (s.size ≤ 100 ∧ 100 < ts.size)) (hp : Pairs w) :
    Calls Tryd.prog 3 #[.string s, .agg #[.int .i64 k, .string ts, .int .i64 n, .int .i64 a, .int .i64 b]] w fun e w' => e = .returned (.bool true) ∧ Below w.heap.size w w' := by
  have HP := Lib.hid (hp.alloc (.cells #[.int .i64 k, .string ts, .int .i64 n, .int .i64 a, .int .i64 b] 25))
  clear hp
  rcases hb with h | ⟨h, h2⟩
  · have hsI : decide ((100 : Int) < (s.size : Int)) = true := by simp; omega
    clear h
    go_enter Tryd.func3, Tryd.ntmps3
    go_wp2_with fail
    refine (awake_any _ HP.out).mono ?_
    rintro e w1 ⟨rfl, hb1⟩
    have HB1 := Lib.hid (((Below.refl _ _).alloc (Nat.le_refl _) _).trans (hb1.mono (by simp)))
    clear hb1
    go_wp2
    go_ret
    exact ⟨rfl, HB1.out⟩
  · have hsI : decide ((100 : Int) < (s.size : Int)) = false := by simp; omega
    have htI : decide ((100 : Int) < (ts.size : Int)) = true := by simp; omega
    clear h h2
    go_enter Tryd.func3, Tryd.ntmps3
    go_wp2_with fail
    refine (awake_any _ HP.out).mono ?_
    rintro e w1 ⟨rfl, hb1⟩
    have HB1 := Lib.hid (((Below.refl _ _).alloc (Nat.le_refl _) _).trans (hb1.mono (by simp)))
    have c1 : w1.cell? ⟨w.heap.size, 1, none⟩ = some (.string ts) := (held5 ⟨(blk5 (heap_alloc_new w _)).1, by simp, HP.out⟩ hb1).1.2.1
    clear hb1
    go_wp2
    go_ret
    exact ⟨rfl, HB1.out⟩

theorem lexNames_any (s ts : ByteArray) (k n a b : Int) (w : World) (hp : Pairs w) :
    Calls Tryd.prog 3 #[.string s, .agg #[.int .i64 k, .string ts, .int .i64 n, .int .i64 a, .int .i64 b]] w fun e w' => e = .returned (.bool true) ∧ Below w.heap.size w w' := by
  by_cases h : 100 < s.size
  · exact lexNames_big s ts k n a b w (.inl h) hp
  · by_cases h2 : 100 < ts.size
    · exact lexNames_big s ts k n a b w (.inr ⟨by omega, h2⟩) hp
    · exact lexNames_small s ts k n a b w (by omega) (by omega) hp
end Go.Proofs.YthbcfcbonmphfaaDoor
namespace Go.Proofs.YthbcfcbonmphfaaDoor
set_option maxRecDepth 100000
open Go.RowKit

def bigT (t : Tk) : Bool := decide (60 < t.t.length)
def smallB (L : List Tk) : Bool := decide (L.length ≤ 60) && !(L.any bigT)
set_option maxHeartbeats 400000 in
theorem big_any (t : Tk) (w : World) (hs : t.t.length ≤ maxLen) : Calls Tryd.prog 68 #[.agg #[.int .i64 t.k, .string ⟨t.t.toArray⟩, .int .i64 t.n, .int .i64 t.a, .int .i64 t.b]] w fun e w' => e = .returned (.bool (bigT t)) ∧ Below w.heap.size w w' := by
  unfold maxLen at hs
  go_enter Tryd.func68, Tryd.ntmps68
  go_wp2
  all_goals
    go_ret
    exact ⟨ret_bool (by unfold bigT; rw [Bool.eq_iff_iff]; simp; try omega), (Below.refl _ _).alloc (Nat.le_refl _) _⟩

/-- The texts can be read. -/
def Texts (L : List Tk) : Prop := ∀ (i : Nat) (t : Tk), L[i]? = some t → t.t.length ≤ maxLen
def idxI (L : List Tk) : Int := match L.findIdx? bigT with | some i => i | none => -1
theorem idx_hit (L : List Tk) (k : Nat) (t : Tk) (h : L[k]? = some t) (hb : bigT t = true) : L.any bigT = true := List.any_eq_true.2 ⟨t, List.mem_of_getElem? h, hb⟩
theorem idx_none (L : List Tk) (hno : ∀ (i : Nat) (u : Tk), i < L.length → L[i]? = some u → bigT u = false) : L.any bigT = false := by
  rw [List.any_eq_false]
  intro t ht
  obtain ⟨i, hi, rfl⟩ := List.mem_iff_getElem.1 ht
  rw [hno i _ hi (List.getElem?_eq_getElem hi)]
  exact Bool.false_ne_true

theorem big_snoc (L : List Tk) (k : Nat) (t : Tk) (h : L[k]? = some t) (hb : bigT t = false) (hno : ∀ (i : Nat) (u : Tk), i < k → L[i]? = some u → bigT u = false) : ∀ (i : Nat) (u : Tk), i < k + 1 → L[i]? = some u → bigT u = false := by
  intro i u hi hu
  rcases Nat.lt_or_ge i k with hl | hl
  · exact hno i u hl hu
  · have : i = k := by omega
    subst this
    rw [h] at hu
    rw [← Option.some.inj hu]
    exact hb

set_option maxHeartbeats 1000000 in
theorem indexFunc_any (A : Option Addr) (cap : Nat) (L : List Tk) (w : World) (hlen : L.length ≤ 60) (hT : Texts L) (hl : SlT w A L) :
    Calls Tryd.prog 117 #[.slice A L.length cap, .func (.func 68) #[] #[]] w fun e w' => ∃ r : Int, e = .returned (.int .i64 r) ∧ decide (0 ≤ r) = L.any bigT ∧ Below w.heap.size w w' := by
  have HL := Lib.hid hl
  have HX := Lib.hid hT
  clear hl hT
  go_enter Tryd.func117, Tryd.ntmps117
  go_wp2_with fail
  go_loopw [8] (fun i wr => ∃ k : Nat, k ≤ L.length ∧ i = .int .i64 k ∧ (∀ (i : Nat) (u : Tk), i < k → L[i]? = some u → bigT u = false) ∧ Below w.heap.size w wr) (fun i _ => L.length - (intOf i).toNat)
  case atStart => exact ⟨0, by omega, rfl, fun i t hi => absurd hi (by omega), Below.refl _ _⟩
  case round =>
    obtain ⟨k, hk, rfl, hno, hbw⟩ := hrel
    have HN := Lib.hid hno
    have HB := Lib.hid hbw
    clear hno hbw
    by_cases hlt : k < L.length
    · obtain ⟨t, ht⟩ : ∃ t, L[k]? = some t := ⟨L[k], List.getElem?_eq_getElem hlt⟩
      obtain ⟨b, off, hA, hblt, hc⟩ := HL.out (by omega)
      subst hA
      obtain ⟨h0, h1, h2, h3, h4⟩ := cells5 HB.out hblt (hc k t ht)
      have HT := Lib.hid ht
      have HTS := Lib.hid (HX.out k t ht)
      clear hc ht
      go_wp2_with (go_at_call 68; refine (big_any t _ HTS.out).mono ?_; rintro e w1 ⟨rfl, hb1⟩)
      · have hbig : bigT t = true := by assumption
        go_ret
        exact ⟨_, rfl, by rw [idx_hit L k t HT.out hbig]; simp, HB.out.trans (hb1.mono HB.out.size)⟩
      · have hbig : bigT t = false := by assumption
        have HBig := Lib.hid hbig
        have HB1 := Lib.hid (HB.out.trans (hb1.mono HB.out.size))
        clear hbig hb1
        go_roundw
        case rel => exact ⟨k + 1, by omega, by go_num, big_snoc L k t HT.out HBig.out HN.out, HB1.out⟩
        case measure => simp [intOf]; omega
    · have hkL : k = L.length := by omega
      have HE := Lib.hid (idx_none L (hkL ▸ HN.out))
      clear hkL
      go_wp2
      go_ret
      exact ⟨_, rfl, by rw [HE.out]; rfl, HB.out⟩

set_option maxHeartbeats 400000 in
theorem containsFunc_any (A : Option Addr) (cap : Nat) (L : List Tk) (w : World) (hlen : L.length ≤ 60) (hT : Texts L) (hl : SlT w A L) :
    Calls Tryd.prog 67 #[.slice A L.length cap, .func (.func 68) #[] #[]] w fun e w' => e = .returned (.bool (L.any bigT)) ∧ Below w.heap.size w w' := by
  have HC := Lib.hid (indexFunc_any A cap L w hlen hT hl)
  clear hl hT
  go_enter Tryd.func67, Tryd.ntmps67
  go_wp2_with fail
  refine HC.out.mono ?_
  rintro e w1 ⟨r, rfl, hr, hb⟩
  have HR := Lib.hid hr
  have HB := Lib.hid hb
  clear hr hb
  go_wp2
  all_goals
    go_ret
    exact ⟨ret_bool (by rw [← HR.out]), HB.out⟩

set_option maxHeartbeats 400000 in
theorem small_any (A : Option Addr) (cap : Nat) (L : List Tk) (w : World) (hm : L.length ≤ maxLen) (hT : Texts L) (hl : SlT w A L) :
    Calls Tryd.prog 23 #[.slice A L.length cap] w fun e w' => e = .returned (.bool (smallB L)) ∧ Below w.heap.size w w' := by
  unfold maxLen at hm
  by_cases h : L.length ≤ 60
  · have HC := Lib.hid (containsFunc_any A cap L w h hT hl)
    have E := Lib.hid (show smallB L = !(L.any bigT) from by unfold smallB; rw [decide_eq_true h, Bool.true_and])
    have hI : decide ((L.length : Int) ≤ 60) = true := by simp; omega
    clear hl hT h
    go_enter Tryd.func23, Tryd.ntmps23
    go_wp2_with fail
    refine HC.out.mono ?_
    rintro e w1 ⟨rfl, hb⟩
    go_wp2
    go_ret
    exact ⟨ret_bool (by rw [E.out]), hb⟩
  · have E := Lib.hid (show smallB L = false from by unfold smallB; rw [decide_eq_false h, Bool.false_and])
    have hI : decide ((L.length : Int) ≤ 60) = false := by simp; omega
    clear hl hT h
    go_enter Tryd.func23, Tryd.ntmps23
    go_wp2
    go_ret
    exact ⟨ret_bool (by rw [E.out]), Below.refl _ _⟩

theorem small_of (L : List Tk) (h : smallB L = true) : Small L := by
  unfold smallB at h
  rw [Bool.and_eq_true] at h
  have h1 : L.length ≤ 60 := by simpa using h.1
  refine ⟨by omega, fun i t ht => ?_⟩
  have h2 : L.any bigT = false := by simpa using h.2
  rw [List.any_eq_false] at h2
  have := h2 t (List.mem_of_getElem? ht)
  unfold bigT at this
  simp at this
  omega

set_option maxHeartbeats 400000 in
theorem lexJoins_any (A : Option Addr) (cap : Nat) (L : List Tk) (w : World) (hp : Pairs w) (hm : L.length ≤ maxLen) (hT : Texts L) (hl : SlT w A L) :
    Calls Tryd.prog 5 #[.slice A L.length cap] w fun e w' => e = .returned (.bool true) ∧ Below w.heap.size w w' := by
  have HP := Lib.hid hp
  have HL := Lib.hid hl
  have HT := Lib.hid hT
  have HM := Lib.hid hm
  clear hp hl hT hm
  cases hs : smallB L
  all_goals
    have HS := Lib.hid hs
    clear hs
    go_enter Tryd.func5, Tryd.ntmps5
    go_wp2_with fail
    refine (awake_any _ HP.out).mono ?_
    rintro e w1 ⟨rfl, hb1⟩
    have HB1 := Lib.hid hb1
    clear hb1
    go_wp2_with fail
    have hc := small_any A cap L w1 HM.out HT.out (HL.out.below HB1.out)
    rw [HS.out] at hc
    refine hc.mono ?_
    rintro e w2 ⟨rfl, hb2⟩
    have HB2 := Lib.hid (HB1.out.trans (hb2.mono HB1.out.size))
    clear hb2 hc
  · go_wp2
    go_ret
    exact ⟨rfl, HB2.out⟩
  · have HSm := Lib.hid (small_of L HS.out)
    go_wp2_with fail
    refine (join_any A cap L w2 (HP.out.below HB2.out HP.out.lt) HSm.out (HL.out.below HB2.out)).mono ?_
    unfold joinV
    rintro e w3 ⟨rfl, hb3⟩
    have HB3 := Lib.hid (HB2.out.trans (hb3.mono HB2.out.size))
    clear hb3
    go_wp2_with fail
    refine (refJoin_any A cap L w3 HSm.out (HL.out.below HB3.out)).mono ?_
    unfold joinV
    rintro e w4 ⟨rfl, hb4⟩
    have HB4 := Lib.hid (HB3.out.trans (hb4.mono HB3.out.size))
    clear hb4
    go_wp2
    go_goals
    all_goals
      go_ret
      exact ⟨rfl, HB4.out⟩
end Go.Proofs.YthbcfcbonmphfaaDoor
