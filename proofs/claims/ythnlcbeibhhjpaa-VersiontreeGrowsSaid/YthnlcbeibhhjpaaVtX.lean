/- VersiontreeGrows: its walk. -/
import Derived.Deep.DeepCutAuto
import Derived.Test.YthnlcbeibhhjpaaVtV
namespace Go.Proofs.Ythnlcbeibhhjpaa
open Go.RowKit
set_option maxRecDepth 100000
set_option maxHeartbeats 16000000 in
theorem lawGrows_any (A0 AM : Option Addr) (c0 cM q : Nat) (L M : List Int) (a b : Int) (w : World) (hm : L.length ≤ maxLen) (hA : IntsAt (· < w.heap.size) w A0 L) (hM : Mk w AM cM q M) (hqm : q ≤ maxLen) :
    Calls Try.prog 8 #[.slice A0 L.length c0, .slice AM q cM, .int .i64 a, .int .i64 b] w fun e w' => e = .returned (.bool true) ∧ Below w.heap.size w w' := by
  unfold maxLen at hm hqm
  have HW := Lib.hid (awakeV_any w)
  have HA := Lib.hid hA
  have HMK := Lib.hid hM
  obtain ⟨n, hn⟩ : ∃ n, L.length = n := ⟨_, rfl⟩
  rw [hn] at hm ⊢
  have HN := Lib.hid hn
  clear hn hA hM
  have HN1 := Lib.hid branch_nil
  have HN2 := Lib.hid depth_nil
  have HN3 := Lib.hid anc_nil
  have HN4 := Lib.hid common_nil
  have HN5 := Lib.hid near_nil
  have HN6 := Lib.hid len_nil
  have HN7 := Lib.hid tree_nil
  have hfv := field_vers
  go_enter Try.func8, Try.ntmps8
  go_wp2_with fail
  refine HW.out.mono ?_
  rintro er w0 ⟨rfl, hb0⟩
  have HB0 := Lib.hid hb0
  clear hb0 HW
  go_wp2_with fail
  refine (HN1.out _).mono ?_
  rintro er v1 ⟨rfl, hb1⟩
  have HB1 := Lib.hid (HB0.out.trans (hb1.mono HB0.out.size))
  clear hb1
  go_wp2_with fail
  refine (HN2.out _).mono ?_
  rintro er v2 ⟨rfl, hb2⟩
  have HB2 := Lib.hid (HB1.out.trans (hb2.mono HB1.out.size))
  clear hb2
  go_wp2_with fail
  refine (HN3.out _).mono ?_
  rintro er v3 ⟨rfl, hb3⟩
  have HB3 := Lib.hid (HB2.out.trans (hb3.mono HB2.out.size))
  clear hb3
  go_wp2_with fail
  refine (HN4.out _).mono ?_
  rintro er v4 ⟨rfl, hb4⟩
  have HB4 := Lib.hid (HB3.out.trans (hb4.mono HB3.out.size))
  clear hb4
  go_wp2_with fail
  refine (HN5.out _).mono ?_
  rintro er v5 ⟨rfl, hb5⟩
  have HB5 := Lib.hid (HB4.out.trans (hb5.mono HB4.out.size))
  clear hb5
  go_wp2_with fail
  refine (HN6.out _).mono ?_
  rintro er v6 ⟨rfl, hb6⟩
  have HB6 := Lib.hid (HB5.out.trans (hb6.mono HB5.out.size))
  clear hb6
  go_wp2_with fail
  refine (HN7.out _).mono ?_
  rintro er v7 ⟨rfl, hb7⟩
  have HB7 := Lib.hid (HB6.out.trans (hb7.mono HB6.out.size))
  clear hb7
  clear HN1 HN2 HN3 HN4 HN5 HN6 HN7
  by_cases h40 : n ≤ 40 ∧ q ≤ 40
  case neg =>
    by_cases h1 : n ≤ 40
    · have d1 : decide ((40 : Int) < (n : Int)) = false := decide_eq_false (by omega)
      have d2 : decide ((40 : Int) < (q : Int)) = true := decide_eq_true (by omega)
      clear h40 h1
      go_wp2_with fail
      go_ret
      exact ⟨rfl, HB7.out⟩
    · have d1 : decide ((40 : Int) < (n : Int)) = true := decide_eq_true (by omega)
      clear h40 h1
      go_wp2_with fail
      go_ret
      exact ⟨rfl, HB7.out⟩
  have hn40 : n ≤ 40 := h40.1
  have hq40 : q ≤ 40 := h40.2
  have d1 : decide ((40 : Int) < (n : Int)) = false := decide_eq_false (by omega)
  have d2 : decide ((40 : Int) < (q : Int)) = false := decide_eq_false (by omega)
  clear h40
  have HP := Lib.hid (grown_any A0 c0 n L v7 HN.out (by omega) ((HA.out.below HB7.out).more (fun b hb => by have := HB7.out.size; omega)))
  go_wp2_with fail
  refine HP.out.mono ?_
  rintro er w2 ⟨x, Vs, A, cap, rfl, hix, hr, hmk, hb2⟩
  obtain ⟨m, hme⟩ : ∃ m, Vs.length = m := ⟨_, rfl⟩
  rw [hme] at hmk ⊢
  have HR0 := Lib.hid (QL.start (m := m) HB7.out hix hr hb2)
  have hml : m ≤ 41 := by omega
  have hm1 : 0 < m := by have := hix.pos; omega
  have HM := Lib.hid hme
  have HOK := Lib.hid hix.ok
  have HSZ : Hid (w.heap.size ≤ v7.heap.size ∧ v7.heap.size < w2.heap.size) := Lib.hid ⟨HB7.out.size, by
    obtain ⟨⟨tl, G, cp, mv, E, h1, _⟩, _⟩ := hix
    have := bdLt h1.box; have := h1.hB; omega⟩
  clear hix hr hb2 hme HP
  obtain ⟨d, e, f, g, c, is, hq1, hq2, hq3, hq4⟩ := q_cases w v7.heap.size x w2.heap.size m Vs A cap HM.out (by omega) HOK.out a b
  have HQ1 := Lib.hid hq1
  have HQ2 := Lib.hid hq2
  have HQ3 := Lib.hid hq3
  have HQ4 := Lib.hid hq4
  clear hq1 hq2 hq3 hq4
  go_wp2_with fail
  refine (HQ1.out _ HR0.out).mono ?_
  rintro er w3 ⟨rfl, hb3⟩
  have HR3 := Lib.hid (HR0.out.next hb3)
  clear hb3
  go_wp2_with fail
  refine (HQ2.out _ HR3.out).mono ?_
  rintro er w4 ⟨rfl, hb4⟩
  have HR4 := Lib.hid (HR3.out.next hb4)
  clear hb4
  go_wp2_with fail
  refine (HQ3.out _ HR4.out).mono ?_
  rintro er w5 ⟨rfl, hb5⟩
  have HR5 := Lib.hid (HR4.out.next hb5)
  clear hb5 HQ1 HQ2 HQ3 HR3 HR4
  have HTR := Lib.hid (ix_tree (v7.heap.size + 1) x m Vs w5 HR5.out.ix HM.out (by omega))
  go_wp2_with fail
  refine HTR.out.mono ?_
  rintro er w6 ⟨⟨A1, cp1, rfl, hr1⟩, hb6⟩
  obtain ⟨g1, hA1⟩ : ∃ g1, A1 = some ⟨g1, 0, none⟩ := by
    obtain ⟨g, cap', hv, hg, hgl⟩ := World.ownsRow.form hr1 (by rw [parV_len, HM.out]; exact hm1)
    exact ⟨g, by injection hv⟩
  subst hA1
  have hpl : (parV Vs).length = m := by rw [parV_len, HM.out]
  unfold ORow at hr1
  rw [hpl] at hr1
  have hg1 := hr1.lt g1 rfl
  have HR6 := Lib.hid hr1
  have HB6 := Lib.hid hb6
  have hz6 := hb6.size
  have hg15 : w5.heap.size ≤ g1 := hg1.1
  have hg16 : g1 < w6.heap.size := hg1.2
  have HPL := Lib.hid hpl
  clear hr1 hb6 hg1 HTR hpl
  go_wp2_with fail
  go_loopw [135] (fun s wr => ∃ (k : Nat) (Y : List Int), k ≤ m ∧ s = .int .i64 k ∧ Y.length = m ∧ wr.ownsRow w5.heap.size 3 1 (.slice (some ⟨g1, 0, none⟩) m cp1) m (Y.map (Value.int .i64)) ∧ wr.heap[w6.heap.size]? = some (.cells #[.slice (some ⟨g1, 0, none⟩) m cp1] 24 (0, 0)) ∧ Below w5.heap.size w5 wr) (fun s _ => m - (intOf s).toNat)
  case atStart => exact ⟨0, parV Vs, by omega, rfl, HPL.out, HR6.out.alloc _, bdNew _ _, HB6.out.alloc hz6 _⟩
  case round =>
    obtain ⟨k, Y, hk, rfl, hY, how, hbx, hb⟩ := hrel
    have HOW := Lib.hid how
    have HB := Lib.hid hb
    have HY := Lib.hid hY
    have HBX := Lib.hid hbx
    obtain ⟨t0, _⟩ := bk1 hbx
    have hszr := hb.size
    have hne : w6.heap.size ≠ g1 := by omega
    have hne' : g1 ≠ w6.heap.size := by omega
    by_cases hlt : k < m
    · have hltI : (k : Int) < (m : Int) := by omega
      have hk0 : (0 : Int) ≤ (k : Int) := by omega
      obtain ⟨y, hy⟩ : ∃ y, Y[k]? = some y := ⟨Y[k]'(by omega), List.getElem?_eq_getElem _⟩
      have x0 : wr.cell? ⟨g1, k, none⟩ = some (.int .i64 y) := (how.cellAt k (by omega)).trans (by rw [List.getElem?_map, hy]; rfl)
      have f0 := how.frozenAt k
      have HS := Lib.hid (how.stored k (.int .i64 (-9))).1
      clear how hb hY hbx hy
      go_wp2_with fail
      go_roundw
      case rel =>
        refine ⟨k + 1, Y.set k (-9), by omega, by go_num, by rw [List.length_set]; exact HY.out, ?_, (heap_off hne).trans HBX.out, HB.out.setCell (p := ⟨g1, k, none⟩) hg15 _⟩
        have h1 := HS.out
        rw [← List.map_set] at h1
        exact h1
      case measure => simp [intOf]; omega
    · obtain ⟨wo, rfl⟩ : ∃ wo, wo = wr := ⟨_, rfl⟩
      have HG0 := Lib.hid (HR5.out.next hb).g2
      clear how hb hY hbx
      go_wp2_with fail
      go_loopw [145] (fun s wr => ∃ (k : Nat) (Vs' : List Vn), k ≤ q ∧ s = .int .i64 k ∧ Vs'.length ≤ m + k ∧ G2 w v7.heap.size x w2.heap.size Vs Vs' A cap m wr) (fun s _ => q - (intOf s).toNat)
      case atStart => exact ⟨0, Vs, by omega, rfl, by rw [HM.out]; exact Nat.le_refl _, HG0.out⟩
      case round =>
        obtain ⟨j, Vs', hj, rfl, hl', hg2⟩ := hrel
        have HG2 := Lib.hid hg2
        have hszr2 := hg2.bel.size
        have hbB := bdLt hg2.bx
        by_cases hlt2 : j < q
        · have hltI : (j : Int) < (q : Int) := by omega
          obtain ⟨y, hy⟩ : ∃ y, M[j]? = some y := ⟨M[j]'(by rw [HMK.out.len]; exact hlt2), List.getElem?_eq_getElem _⟩
          obtain ⟨b', off, hA, hbl, y0⟩ := (HMK.out.at'.below hg2.bel).get hy
          subst hA
          have HBR := Lib.hid (g2_branch hg2 HSZ.out.1 (by have := HSZ.out.2; omega) rfl (by omega) y)
          clear hg2 hy
          go_wp2_with fail
          refine HBR.out.mono ?_
          rintro er w8 ⟨⟨r1, r2, rfl⟩, Vs'', hl'', hg3⟩
          have HG3 := Lib.hid hg3
          clear hg3
          go_wp2_with fail
          go_roundw
          case rel => exact ⟨j + 1, Vs'', by omega, by go_num, by omega, HG3.out⟩
          case measure => simp [intOf]; omega
        · have hjq : j = q := by omega
          obtain ⟨m', hm'⟩ : ∃ m', Vs'.length = m' := ⟨_, rfl⟩
          rw [hm'] at hl'
          have hmm' : m ≤ m' := by have := hg2.ext.len; have := HM.out; omega
          have HM' := Lib.hid hm'
          have HTR := Lib.hid (ix_tree (v7.heap.size + 1) x m' Vs' wr hg2.ix hm' (by omega))
          clear hg2 hm' hjq
          go_wp2_with fail
          refine HTR.out.mono ?_
          rintro er w8 ⟨⟨A2, cp2, rfl, hr2⟩, hb8⟩
          have HR8 := Lib.hid hr2
          have HG8 := Lib.hid (HG2.out.next hb8)
          have hcl := hr2.len
          have HCL := Lib.hid hcl
          have hcap2 : m' ≤ cp2 := by have := hcl.2.1; rw [parV_len, HM'.out] at this; exact this
          have hcapm : cp2 ≤ maxLen := hcl.2.2
          unfold maxLen at hcapm
          have b0 := (bk1 HG8.out.bx).1
          have HEQ := Lib.hid (fun q0 => (eqI_any (fun _ => True) (fun _ => True) A2 A cp2 cap ((parV Vs').take m) (parV Vs) (w8.drewN q0) (by rw [List.length_take, parV_len]; unfold maxLen; omega) (by rw [parV_len, HM.out]; unfold maxLen; omega) ((intsAt_own hr2 (fun _ _ _ => trivial)).take m) (intsAt_own HG8.out.row (fun _ _ _ => trivial))))
          have HTK : Hid ((parV Vs').take m = parV Vs) := Lib.hid (by have := HG8.out.ext.take; rw [HM.out] at this; exact this)
          rw [HTK.out, decide_eq_true rfl, HPL.out] at HEQ
          have d3 : decide ((m' : Int) < (m : Int)) = false := decide_eq_false (by omega)
          have hmI : (m : Int) ≤ (cp2 : Int) := by omega
          have hm0I : (0 : Int) ≤ (m : Int) := by omega
          clear hr2 hb8 hcl
          go_wp2_with fail
          go_quiet ((go_at_call 16; exact Calls.quiet_of (HEQ.out _)))
          have HG9 := Lib.hid (fun k0 => G2.next HG8.out (bdN (Below.refl _ _) k0))
          have HQ4' := Lib.hid HQ4.out
          rcases HQ4.out with rfl | ⟨rfl, rfl⟩ | ⟨rfl, rfl, rfl, hlater⟩
          · go_wp2_with fail
            go_ret
            exact ⟨rfl, (HG9.out _).bel⟩
          · go_wp2_with fail
            go_ret
            exact ⟨rfl, (HG9.out _).bel⟩
          · have HLT := Lib.hid (fun W h => hlater Vs' W (by rw [HM'.out]; omega) h)
            have hdd : (d == d) = true := by simp
            have hcc : (c == c) = true := by simp
            have hii : (is == is) = true := by simp
            clear hlater
            go_wp2_with fail
            refine (HLT.out _ (HG9.out _)).1.mono ?_
            rintro er w9 ⟨rfl, hb9⟩
            have HGa := Lib.hid ((HG9.out _).next hb9)
            clear hb9
            go_wp2_with fail
            refine (HLT.out _ HGa.out).2.1.mono ?_
            rintro er w10 ⟨rfl, hb10⟩
            have HGb := Lib.hid (HGa.out.next hb10)
            clear hb10
            go_wp2_with fail
            refine (HLT.out _ HGb.out).2.2.mono ?_
            rintro er w11 ⟨rfl, hb11⟩
            have HGc := Lib.hid (HGb.out.next hb11)
            clear hb11
            go_wp2_with fail
            go_ret
            exact ⟨rfl, HGc.out.bel⟩
end Go.Proofs.Ythnlcbeibhhjpaa
