/- The law of codes: its walk. -/
import Derived.Test.YtakaadoppijeaaaDoorBvDg
namespace Go.Proofs.YtakaadoppijeaaaDoor
open Go.RowKit
set_option maxRecDepth 100000
theorem errD_zero {b : List Nat} (h : errD b = 0) : dnum b ≤ 65536 := by
  apply Nat.le_of_not_lt
  intro h1
  by_cases h4 : b.length < 4
  · rw [errD_a h4] at h; omega
  · rw [errD_b h4 h1] at h; omega
theorem errD_le (b : List Nat) : errD b ≤ 8 := by
  unfold errD
  repeat' split
  all_goals omega
set_option maxHeartbeats 8000000 in
theorem lawBvCodes_any (A B : Option Addr) (cp cb : Nat) (l : List Bool) (b : List Nat) (w : World) (hT : TabAt w) (hA : BitsAt (· < w.heap.size) w A l) (hcb : b.length ≤ cb) (hby : ∀ x ∈ b, x < 256) (hB : BytesO (· < w.heap.size) w B b) :
    Calls Tryd.prog 6 #[.slice A l.length cp, .slice B b.length cb] w fun e w' => e = .returned (.bool true) ∧ Below w.heap.size w w' := by
  have HT := Lib.hid hT
  have HA := Lib.hid hA
  have HBB := Lib.hid hB
  have HBY := Lib.hid hby
  have HCB := Lib.hid hcb
  clear hT hA hB hby hcb
  go_enter Tryd.func6, Tryd.ntmps6
  go_wp2_with fail
  refine (awake_any w HT.out).mono ?_
  rintro e w1 ⟨rfl, hb⟩
  have HB1 := Lib.hid hb
  clear hb
  by_cases hbig : 2000 < l.length
  · have hd : decide (2000 < (l.length : Int)) = true := decide_eq_true (by omega)
    go_wp2_with fail
    go_ret
    exact ⟨rfl, HB1.out⟩
  have hd : decide (2000 < (l.length : Int)) = false := decide_eq_false (by omega)
  have hl2 : l.length ≤ 2000 := by omega
  by_cases hbg2 : 300 < b.length
  · have hd2 : decide (300 < (b.length : Int)) = true := decide_eq_true (by omega)
    go_wp2_with fail
    go_ret
    exact ⟨rfl, HB1.out⟩
  have hd2 : decide (300 < (b.length : Int)) = false := decide_eq_false (by omega)
  have hb2 : b.length ≤ 300 := by omega
  go_wp2_with fail
  refine (make_any A cp l (· < w.heap.size) w1 (fun b hb => Nat.lt_of_lt_of_le hb HB1.out.size) (HA.out.below HB1.out) (by omega)).mono ?_
  rintro e w2 ⟨x, wb, bb, rfl, hv, hb⟩
  have HV := Lib.hid hv
  have HB2 := Lib.hid (HB1.out.trans (hb.mono HB1.out.size))
  clear hv hb HB1
  go_wp2_with fail
  refine (bv_encode x wb bb l w2 HV.out (by omega)).mono ?_
  rintro e w3 ⟨rfl, hbe, hb⟩
  have HB3 := Lib.hid (HB2.out.trans (hb.mono HB2.out.size))
  have HE3 := Lib.hid hbe
  clear hbe hb HV HB2
  go_wp2_with fail
  refine (refEncode_any A cp l w3 (by omega) ((HA.out.below HB3.out).keep_lt HB3.out.size)).mono ?_
  rintro e w4 ⟨⟨g, cap, rfl, hbe⟩, hb⟩
  have HB4 := Lib.hid (HB3.out.trans (hb.mono HB3.out.size))
  have HE4 := Lib.hid hbe
  have HE3' := Lib.hid (HE3.out.below hb)
  clear hbe hb HE3 HB3
  go_wp2_with fail
  have hq := beq_any w2.heap.size g (4 + nby l) (4 + nby l) (4 + nby l) cap (enc l) (enc l) w4 (by rw [enc_len]; rfl) (by rw [enc_len]; rfl) (enc_lt l) (enc_lt l) HE3'.out HE4.out
  rw [decide_eq_true rfl] at hq
  refine hq.mono ?_
  rintro e w5 ⟨rfl, rfl⟩
  clear hq HE3' HE4
  go_wp2_with fail
  refine (decode_any B cb b w4 (by omega) HCB.out HBY.out (fun hp => by
    obtain ⟨p, off, h1, h2, h3⟩ := HBB.out.below HB4.out hp
    exact ⟨p, off, h1, Nat.lt_of_lt_of_le h2 HB4.out.size, h3⟩)).mono ?_
  rintro e w5 hdec
  obtain ⟨er, her⟩ : ∃ er, er = errD b := ⟨_, rfl⟩
  have hle := errD_le b
  rcases hdec with ⟨h0, rfl, hb⟩ | ⟨h0, y, yb, yc, rfl, hv, hb⟩
  · rw [← her] at h0 hle ⊢
    have HER := Lib.hid her
    have HB5 := Lib.hid (HB4.out.trans (hb.mono HB4.out.size))
    have h0b : ((er : Int) == 0) = false := by simp; omega
    clear hb her
    go_wp2_with fail
    refine (refDecode_any B cb b w5 (by omega) HBY.out (fun hp => by
      obtain ⟨p, off, h1, h2, h3⟩ := HBB.out.below HB5.out hp
      exact ⟨p, off, h1, Nat.lt_of_lt_of_le h2 HB5.out.size, h3⟩)).mono ?_
    rintro e w6 ⟨G, cg, L, rfl, _, _, hb⟩
    rw [← HER.out]
    have HB6 := Lib.hid (HB5.out.trans (hb.mono HB5.out.size))
    clear hb
    go_wp2_with fail
    go_ret
    exact ⟨rfl, HB6.out⟩
  · have HER := Lib.hid h0
    have HB5 := Lib.hid (HB4.out.trans (hb.mono HB4.out.size))
    have HY := Lib.hid hv
    clear hb her h0 hv hle
    go_wp2_with fail
    refine (refDecode_any B cb b w5 (by omega) HBY.out (fun hp => by
      obtain ⟨p, off, h1, h2, h3⟩ := HBB.out.below HB5.out hp
      exact ⟨p, off, h1, Nat.lt_of_lt_of_le h2 HB5.out.size, h3⟩)).mono ?_
    rintro e w6 ⟨G, cg, L, rfl, hL, hG, hb⟩
    rw [HER.out]
    obtain rfl : L = decB b (dnum b) := hL HER.out
    have hdl : (decB b (dnum b)).length ≤ 2000000 := by rw [decB_len]; have := errD_zero HER.out; omega
    have HB6 := Lib.hid (HB5.out.trans (hb.mono HB5.out.size))
    have HY6 := Lib.hid (HY.out.below hb)
    have HG := Lib.hid hG
    clear hb hL hG HY HB5
    generalize decB b (dnum b) = D at HY6 HG hdl ⊢
    go_wp2_with fail
    refine (bv_bits y yb yc D w6 HY6.out hdl).mono ?_
    rintro e w7 ⟨rfl, hbt, hb⟩
    have HB7 := Lib.hid (HB6.out.trans (hb.mono HB6.out.size))
    have HBT := Lib.hid hbt
    have HG7 := Lib.hid (HG.out.keep (w' := w7) fun q o hq => hb.cell (p := ⟨q, o, none⟩) hq.2)
    clear hbt hb HG
    go_wp2_with fail
    refine (eqB_same _ _ _ G D.length cg D w7 hdl HBT.out HG7.out).mono ?_
    rintro e w8 ⟨rfl, q8, rfl⟩
    have HB8 := Lib.hid (bdN HB7.out q8)
    clear HB7 HBT HG7
    generalize w7.drewN q8 = w8 at HB8 ⊢
    go_wp2_with fail
    go_ret
    exact ⟨rfl, HB8.out⟩
end Go.Proofs.YtakaadoppijeaaaDoor
