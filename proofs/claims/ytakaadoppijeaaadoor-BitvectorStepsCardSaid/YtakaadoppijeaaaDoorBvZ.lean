/- The law of steps: its walk. -/
import Derived.Test.YtakaadoppijeaaaDoorBvY
namespace Go.Proofs.YtakaadoppijeaaaDoor
open Go.RowKit
set_option maxRecDepth 100000
set_option maxHeartbeats 8000000 in
theorem lawBvSteps_any (A : Option Addr) (cp : Nat) (l : List Bool) (b : Bool) (i : Int) (w : World) (hT : TabAt w) (hA : BitsAt (· < w.heap.size) w A l) :
    Calls Tryd.prog 5 #[.slice A l.length cp, .bool b, .int .i64 i] w fun e w' => e = .returned (.bool true) ∧ Below w.heap.size w w' := by
  have HT := Lib.hid hT
  have HA := Lib.hid hA
  clear hT hA
  go_enter Tryd.func5, Tryd.ntmps5
  go_wp2_with fail
  refine (awake_any w HT.out).mono ?_
  rintro e w1 ⟨rfl, hb⟩
  have HB1 := Lib.hid hb
  clear hb
  by_cases hbig : 2000 < l.length
  · have hd : decide (2000 < (l.length : Int)) = true := decide_eq_true (by omega)
    go_wp2_with fail
    go_ret
    exact ⟨rfl, HB1.out⟩
  have hd : decide (2000 < (l.length : Int)) = false := decide_eq_false (by omega)
  have hl2 : l.length ≤ 2000 := by omega
  go_wp2_with fail
  refine (make_any A cp l (· < w.heap.size) w1 (fun b hb => Nat.lt_of_lt_of_le hb HB1.out.size) (HA.out.below HB1.out) (by omega)).mono ?_
  rintro e w2 ⟨x, wb, bb, rfl, hv, hb⟩
  have HV := Lib.hid hv
  have HB2 := Lib.hid (HB1.out.trans (hb.mono HB1.out.size))
  clear hv hb HB1
  go_wp2_with fail
  by_cases ho : i < 0 ∨ (l.length : Int) < i
  · refine (bv_next_out x wb bb b i l w2 HV.out ho).mono ?_
    rintro e w3 ⟨rfl, hb⟩
    have HV3 := Lib.hid (HV.out.below hb)
    have HB3 := Lib.hid (HB2.out.trans (hb.mono HB2.out.size))
    clear hb HB2 HV
    go_wp2_with fail
    refine (bv_prev_out x wb bb b i l w3 HV3.out ho).mono ?_
    rintro e w4 ⟨rfl, hb⟩
    have HB4 := Lib.hid (HB3.out.trans (hb.mono HB3.out.size))
    clear hb
    rcases ho with h0 | h1
    · have h0b : decide (i < 0) = true := decide_eq_true h0
      go_wp2_with fail
      go_ret
      exact ⟨rfl, HB4.out⟩
    · have h0b : decide (i < 0) = false := decide_eq_false (by omega)
      have h1b : decide ((l.length : Int) < i) = true := decide_eq_true h1
      go_wp2_with fail
      go_ret
      exact ⟨rfl, HB4.out⟩
  obtain ⟨k, rfl⟩ : ∃ k : Nat, i = k := ⟨i.toNat, by omega⟩
  have hkl : k ≤ l.length := by omega
  have hl3 : l.length ≤ 2000000 := by omega
  have h1b : decide ((l.length : Int) < (k : Int)) = false := decide_eq_false (by omega)
  clear ho
  by_cases hs : rkB l b k < rkB l b l.length
  · obtain ⟨j, hj⟩ := sel_ex (Nat.le_refl _) hs
    have HJ := Lib.hid hj
    clear hj hs
    refine (bv_next_in x wb bb k j b l w2 HV.out (HT.out.below HB2.out) hl3 hkl HJ.out).mono ?_
    rintro e w3 ⟨rfl, hb⟩
    have HV3 := Lib.hid (HV.out.below hb)
    have HB3 := Lib.hid (HB2.out.trans (hb.mono HB2.out.size))
    clear hb
    go_wp2_with fail
    by_cases hr : rkB l b k = 0
    · have HR := Lib.hid hr
      clear hr
      refine (bv_prev_none x wb bb k b l w3 HV3.out hl3 hkl HR.out).mono ?_
      rintro e w4 ⟨rfl, hb⟩
      have HB4 := Lib.hid (HB3.out.trans (hb.mono HB3.out.size))
      clear hb
      go_wp2_with fail
      refine (refNext_any A cp k b l (· < w.heap.size) w4 hl3 hkl (HA.out.below HB4.out)).mono ?_
      rintro e w5 ⟨z, rfl, hz, rfl⟩
      obtain rfl := hz.yes HJ.out
      clear hz
      go_wp2_with fail
      refine (number_yes j w4).mono ?_
      rintro e w5 ⟨rfl, rfl⟩
      go_wp2_with fail
      refine (refPrev_any A cp k b l (· < w.heap.size) w4 hl3 hkl (HA.out.below HB4.out)).mono ?_
      rintro e w5 ⟨z, rfl, hz, rfl⟩
      rw [HR.out] at hz
      obtain rfl := hz.no
      clear hz
      go_wp2_with fail
      refine (number_no w4).mono ?_
      rintro e w5 ⟨rfl, rfl⟩
      go_wp2_with fail
      go_ret
      exact ⟨rfl, HB4.out⟩
    · obtain ⟨r, hr'⟩ : ∃ r, rkB l b k = r + 1 := ⟨rkB l b k - 1, by omega⟩
      obtain ⟨p, hp⟩ := sel_ex (l := l) (b := b) (k := r) hkl (by omega)
      have HR := Lib.hid hr'
      have HP := Lib.hid hp
      clear hr hr' hp
      refine (bv_prev_in x wb bb k p r b l w3 HV3.out (HT.out.below HB3.out) hl3 hkl HR.out HP.out).mono ?_
      rintro e w4 ⟨rfl, hb⟩
      have HB4 := Lib.hid (HB3.out.trans (hb.mono HB3.out.size))
      clear hb
      go_wp2_with fail
      refine (refNext_any A cp k b l (· < w.heap.size) w4 hl3 hkl (HA.out.below HB4.out)).mono ?_
      rintro e w5 ⟨z, rfl, hz, rfl⟩
      obtain rfl := hz.yes HJ.out
      clear hz
      go_wp2_with fail
      refine (number_yes j w4).mono ?_
      rintro e w5 ⟨rfl, rfl⟩
      go_wp2_with fail
      refine (refPrev_any A cp k b l (· < w.heap.size) w4 hl3 hkl (HA.out.below HB4.out)).mono ?_
      rintro e w5 ⟨z, rfl, hz, rfl⟩
      rw [HR.out] at hz
      obtain rfl := hz.yes HP.out
      clear hz
      go_wp2_with fail
      refine (number_yes p w4).mono ?_
      rintro e w5 ⟨rfl, rfl⟩
      go_wp2_with fail
      go_ret
      exact ⟨rfl, HB4.out⟩
  · have HJ := Lib.hid (Nat.le_of_not_lt hs)
    clear hs
    refine (bv_next_none x wb bb k b l w2 HV.out hl3 hkl HJ.out).mono ?_
    rintro e w3 ⟨rfl, hb⟩
    have HV3 := Lib.hid (HV.out.below hb)
    have HB3 := Lib.hid (HB2.out.trans (hb.mono HB2.out.size))
    clear hb
    go_wp2_with fail
    by_cases hr : rkB l b k = 0
    · have HR := Lib.hid hr
      clear hr
      refine (bv_prev_none x wb bb k b l w3 HV3.out hl3 hkl HR.out).mono ?_
      rintro e w4 ⟨rfl, hb⟩
      have HB4 := Lib.hid (HB3.out.trans (hb.mono HB3.out.size))
      clear hb
      go_wp2_with fail
      refine (refNext_any A cp k b l (· < w.heap.size) w4 hl3 hkl (HA.out.below HB4.out)).mono ?_
      rintro e w5 ⟨z, rfl, hz, rfl⟩
      obtain rfl := hz.no HJ.out
      clear hz
      go_wp2_with fail
      refine (number_no w4).mono ?_
      rintro e w5 ⟨rfl, rfl⟩
      go_wp2_with fail
      refine (refPrev_any A cp k b l (· < w.heap.size) w4 hl3 hkl (HA.out.below HB4.out)).mono ?_
      rintro e w5 ⟨z, rfl, hz, rfl⟩
      rw [HR.out] at hz
      obtain rfl := hz.no
      clear hz
      go_wp2_with fail
      refine (number_no w4).mono ?_
      rintro e w5 ⟨rfl, rfl⟩
      go_wp2_with fail
      go_ret
      exact ⟨rfl, HB4.out⟩
    · obtain ⟨r, hr'⟩ : ∃ r, rkB l b k = r + 1 := ⟨rkB l b k - 1, by omega⟩
      obtain ⟨p, hp⟩ := sel_ex (l := l) (b := b) (k := r) hkl (by omega)
      have HR := Lib.hid hr'
      have HP := Lib.hid hp
      clear hr hr' hp
      refine (bv_prev_in x wb bb k p r b l w3 HV3.out (HT.out.below HB3.out) hl3 hkl HR.out HP.out).mono ?_
      rintro e w4 ⟨rfl, hb⟩
      have HB4 := Lib.hid (HB3.out.trans (hb.mono HB3.out.size))
      clear hb
      go_wp2_with fail
      refine (refNext_any A cp k b l (· < w.heap.size) w4 hl3 hkl (HA.out.below HB4.out)).mono ?_
      rintro e w5 ⟨z, rfl, hz, rfl⟩
      obtain rfl := hz.no HJ.out
      clear hz
      go_wp2_with fail
      refine (number_no w4).mono ?_
      rintro e w5 ⟨rfl, rfl⟩
      go_wp2_with fail
      refine (refPrev_any A cp k b l (· < w.heap.size) w4 hl3 hkl (HA.out.below HB4.out)).mono ?_
      rintro e w5 ⟨z, rfl, hz, rfl⟩
      rw [HR.out] at hz
      obtain rfl := hz.yes HP.out
      clear hz
      go_wp2_with fail
      refine (number_yes p w4).mono ?_
      rintro e w5 ⟨rfl, rfl⟩
      go_wp2_with fail
      go_ret
      exact ⟨rfl, HB4.out⟩
end Go.Proofs.YtakaadoppijeaaaDoor
