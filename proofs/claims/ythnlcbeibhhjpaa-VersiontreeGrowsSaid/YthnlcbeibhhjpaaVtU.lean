/- VersiontreeNearest: its walk. -/
import Derived.Test.YthnlcbeibhhjpaaVtT
namespace Go.Proofs.Ythnlcbeibhhjpaa
open Go.RowKit
set_option maxRecDepth 100000
set_option maxHeartbeats 16000000 in
theorem lawNearest_any (A0 AM : Option Addr) (c0 cM q : Nat) (L M : List Int) (k : Int) (w : World) (hm : L.length ≤ maxLen) (hA : IntsAt (· < w.heap.size) w A0 L) (hM : Mk w AM cM q M) (hqm : q ≤ maxLen) :
    Calls Try.prog 5 #[.slice A0 L.length c0, .slice AM q cM, .int .i64 k] w fun e w' => e = .returned (.bool true) ∧ Below w.heap.size w w' := by
  unfold maxLen at hm hqm
  have HW := Lib.hid (awakeV_any w)
  have HA := Lib.hid hA
  have HMK := Lib.hid hM
  obtain ⟨n, hn⟩ : ∃ n, L.length = n := ⟨_, rfl⟩
  rw [hn] at hm ⊢
  have HN := Lib.hid hn
  clear hn hA hM
  by_cases h60 : n ≤ 60
  case neg =>
    have d1 : decide ((60 : Int) < (n : Int)) = true := decide_eq_true (by omega)
    go_enter Try.func5, Try.ntmps5
    go_wp2_with fail
    refine HW.out.mono ?_
    rintro er w1 ⟨rfl, hb1⟩
    go_wp2_with fail
    go_ret
    exact ⟨rfl, hb1⟩
  have d1 : decide ((60 : Int) < (n : Int)) = false := decide_eq_false (by omega)
  by_cases hq1 : 60 < q ∧ q ≤ 1000
  · have d2 : decide ((60 : Int) < (q : Int)) = true := decide_eq_true (by omega)
    have d3 : decide ((q : Int) ≤ 1000) = true := decide_eq_true (by omega)
    clear hq1
    go_enter Try.func5, Try.ntmps5
    go_wp2_with fail
    refine HW.out.mono ?_
    rintro er w1 ⟨rfl, hb1⟩
    go_wp2_with fail
    go_ret
    exact ⟨rfl, hb1⟩
  by_cases hq2 : 1100 < q
  · have d2 : decide ((60 : Int) < (q : Int)) = true := decide_eq_true (by omega)
    have d3 : decide ((q : Int) ≤ 1000) = false := decide_eq_false (by omega)
    have d4 : decide ((1100 : Int) < (q : Int)) = true := decide_eq_true (by omega)
    clear hq1 hq2
    go_enter Try.func5, Try.ntmps5
    go_wp2_with fail
    refine HW.out.mono ?_
    rintro er w1 ⟨rfl, hb1⟩
    go_wp2_with fail
    go_ret
    exact ⟨rfl, hb1⟩
  by_cases hq3 : 1000 < q
  · have d2 : decide ((60 : Int) < (q : Int)) = true := decide_eq_true (by omega)
    have d3 : decide ((q : Int) ≤ 1000) = false := decide_eq_false (by omega)
    have d4 : decide ((1100 : Int) < (q : Int)) = false := decide_eq_false (by omega)
    have hq5 : q ≤ 1100 := by omega
    clear hq1 hq2
    go_enter Try.func5, Try.ntmps5
    go_wp2_with fail
    refine HW.out.mono ?_
    rintro er w1 ⟨rfl, hb1⟩
    have HB1 := Lib.hid hb1
    have HP := Lib.hid (grown_any A0 c0 n L w1 HN.out (by omega) ((HA.out.below hb1).more (fun b hb => by have := hb1.size; omega)))
    clear hb1 HW
    go_wp2_with fail
    refine HP.out.mono ?_
    rintro er w2 ⟨x, Vs, A, cap, rfl, hix, hr, hmk, hb2⟩
    obtain ⟨m, hme⟩ : ∃ m, Vs.length = m := ⟨_, rfl⟩
    rw [hme] at hmk ⊢
    have HR0 := Lib.hid (QL.start (m := m) HB1.out hix hr hb2)
    have hml : m ≤ 100 := by omega
    have HM := Lib.hid hme
    have HOK := Lib.hid hix.ok
    have HMK0 := Lib.hid (HMK.out.below HR0.out.bel)
    clear hix hr hb2 hme HP
    have HNR := Lib.hid (near_full (w1.heap.size + 1) x m q cM k AM Vs _ HR0.out.ix hq3 (by omega))
    go_wp2_with fail
    refine HNR.out.mono ?_
    rintro er w3 ⟨rfl, hb3⟩
    have HR3 := Lib.hid (HR0.out.next hb3)
    have HMK3 := Lib.hid (HMK0.out.below hb3)
    have b0 := HR3.out.cell
    have HRN := Lib.hid (refNear_full A cap m q cM k AM w3 (by omega) hq3 (by omega))
    clear hb3
    go_wp2_with fail
    refine HRN.out.mono ?_
    rintro er w4 ⟨rfl, hb4⟩
    have HR4 := Lib.hid (HR3.out.next hb4)
    clear hb4 b0
    go_wp2_with fail
    go_ret
    exact ⟨rfl, HR4.out.bel⟩
  have d2 : decide ((60 : Int) < (q : Int)) = false := decide_eq_false (by omega)
  have d4 : decide ((1100 : Int) < (q : Int)) = false := decide_eq_false (by omega)
  have hq4 : q ≤ 1000 := by omega
  clear hq1 hq2 hq3
  go_enter Try.func5, Try.ntmps5
  go_wp2_with fail
  refine HW.out.mono ?_
  rintro er w1 ⟨rfl, hb1⟩
  have HB1 := Lib.hid hb1
  have HP := Lib.hid (grown_any A0 c0 n L w1 HN.out (by omega) ((HA.out.below hb1).more (fun b hb => by have := hb1.size; omega)))
  clear hb1 HW
  go_wp2_with fail
  refine HP.out.mono ?_
  rintro er w2 ⟨x, Vs, A, cap, rfl, hix, hr, hmk, hb2⟩
  obtain ⟨m, hme⟩ : ∃ m, Vs.length = m := ⟨_, rfl⟩
  rw [hme] at hmk ⊢
  have HR0 := Lib.hid (QL.start (m := m) HB1.out hix hr hb2)
  have hml : m ≤ 100 := by omega
  have HM := Lib.hid hme
  have HOK := Lib.hid hix.ok
  have HMK0 := Lib.hid (HMK.out.below HR0.out.bel)
  clear hix hr hb2 hme HP
  by_cases hin : InV m (k :: M)
  case neg =>
    have HNO := Lib.hid hin
    clear hin
    have HNR := Lib.hid (near_no (w1.heap.size + 1) x m q cM k AM M Vs _ HR0.out.ix HM.out (by omega) HMK0.out hq4 HNO.out)
    go_wp2_with fail
    refine HNR.out.mono ?_
    rintro er w3 ⟨rfl, hb3⟩
    have HR3 := Lib.hid (HR0.out.next hb3)
    have HMK3 := Lib.hid (HMK0.out.below hb3)
    have b0 := HR3.out.cell
    have HRN := Lib.hid (refNear_any A cap m q cM k AM M Vs w3 HOK.out HM.out (by omega) HR3.out.ints HMK3.out hq4)
    clear hb3
    go_wp2_with fail
    refine HRN.out.mono ?_
    rintro er w4 ⟨⟨r1, r2, rfl, hrn⟩, hb4⟩
    have HR4 := Lib.hid (HR3.out.next hb4)
    obtain ⟨rfl, rfl⟩ : r1 = 0 ∧ r2 = 24 := by
      rcases hrn with ⟨_, he⟩ | ⟨hi, _⟩
      · injection he with h1 h2; exact ⟨h1, h2⟩
      · exact absurd hi HNO.out
    clear hrn
    clear hb4 b0
    go_wp2_with fail
    go_ret
    exact ⟨rfl, HR4.out.bel⟩
  obtain ⟨kn, rfl⟩ : ∃ kn : Nat, k = (kn : Int) := ⟨k.toNat, by have := hin k (by simp); omega⟩
  have hkn : kn < m := by have := hin (kn : Int) (by simp); omega
  have hinM : InV m M := fun y hy => hin y (List.mem_cons_of_mem _ hy)
  have HIN := Lib.hid hin
  clear hin
  have HNR := Lib.hid (near_yes (w1.heap.size + 1) x m q cM kn AM M Vs _ HR0.out.ix HM.out (by omega) HMK0.out hq4 hkn hinM)
  go_wp2_with fail
  refine HNR.out.mono ?_
  rintro er w3 ⟨⟨⟨r1, r2⟩, rfl, hnp⟩, hb3⟩
  have HR3 := Lib.hid (HR0.out.next hb3)
  have HMK3 := Lib.hid (HMK0.out.below hb3)
  have b0 := HR3.out.cell
  have HRN := Lib.hid (refNear_any A cap m q cM (kn : Int) AM M Vs w3 HOK.out HM.out (by omega) HR3.out.ints HMK3.out hq4)
  have HNP := Lib.hid hnp
  clear hnp
  clear hb3
  go_wp2_with fail
  refine HRN.out.mono ?_
  rintro er w4 ⟨⟨s1, s2, rfl, hrn⟩, hb4⟩
  have HR4 := Lib.hid (HR3.out.next hb4)
  obtain ⟨rfl, rfl⟩ : s1 = r1 ∧ s2 = r2 := by
    rcases hrn with ⟨hi, _⟩ | ⟨_, kk, hk, hnp'⟩
    · exact absurd HIN.out hi
    · have : kn = kk := by omega
      subst this
      have he := hnp'.one HOK.out HNP.out
      injection he with h1 h2
      exact ⟨h1, h2⟩
  clear hrn
  have e1 : (s1 == s1) = true := by simp
  have e2 : (s2 == s2) = true := by simp
  clear hb4 b0
  go_wp2_with fail
  go_ret
  exact ⟨rfl, HR4.out.bel⟩
end Go.Proofs.Ythnlcbeibhhjpaa
