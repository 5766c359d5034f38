/- The law of what is made: its walk. -/
import Derived.Test.YtakaadoppijeaaaDoorBvO
namespace Go.Proofs.YtakaadoppijeaaaDoor
open Go.RowKit
set_option maxRecDepth 100000
theorem BitsAt.keep_lt {n m : Nat} {w : World} {A : Option Addr} {L : List Bool} (h : BitsAt (· < n) w A L) (hm : n ≤ m) : BitsAt (· < m) w A L := fun hl => by
  obtain ⟨b, off, rfl, hp, hc⟩ := h hl
  exact ⟨b, off, rfl, Nat.lt_of_lt_of_le hp hm, hc⟩
set_option maxHeartbeats 8000000 in
theorem lawBvMakes_any (A : Option Addr) (cp : Nat) (l : List Bool) (i : Int) (w : World) (hT : TabAt w) (hA : BitsAt (· < w.heap.size) w A l) :
    Calls Tryd.prog 3 #[.slice A l.length cp, .int .i64 i] w fun e w' => e = .returned (.bool true) ∧ Below w.heap.size w w' := by
  have HT := Lib.hid hT
  have HA := Lib.hid hA
  clear hT hA
  go_enter Tryd.func3, Tryd.ntmps3
  go_wp2_with fail
  refine (awake_any w HT.out).mono ?_
  rintro e w1 ⟨rfl, hb⟩
  have HB1 := Lib.hid hb
  clear hb
  obtain ⟨n, hn⟩ : ∃ n, n = l.length := ⟨_, rfl⟩
  rw [← hn]
  have HN := Lib.hid hn
  clear hn
  by_cases h1 : 2000 < n
  · have d1 : decide (2000 < (n : Int)) = true := decide_eq_true (by omega)
    by_cases h2 : n ≤ 65536
    · have d2 : decide ((n : Int) ≤ 65536) = true := decide_eq_true (by omega)
      go_wp2_with fail
      go_ret
      exact ⟨rfl, HB1.out⟩
    have d2 : decide ((n : Int) ≤ 65536) = false := decide_eq_false (by omega)
    by_cases h3 : 65546 < n
    · have d3 : decide (65546 < (n : Int)) = true := decide_eq_true (by omega)
      go_wp2_with fail
      go_ret
      exact ⟨rfl, HB1.out⟩
    have d3 : decide (65546 < (n : Int)) = false := decide_eq_false (by omega)
    have d4 : decide (65536 < (n : Int)) = true := decide_eq_true (by omega)
    go_wp2_with fail
    refine (make_full A n cp w1 (by omega)).mono ?_
    rintro e w2 ⟨rfl, rfl⟩
    go_wp2_with fail
    go_ret
    exact ⟨rfl, HB1.out⟩
  have d1 : decide (2000 < (n : Int)) = false := decide_eq_false (by omega)
  have d3 : decide (65546 < (n : Int)) = false := decide_eq_false (by omega)
  have d4 : decide (65536 < (n : Int)) = false := decide_eq_false (by omega)
  have hn2 : n ≤ 2000 := by omega
  have hl2 : l.length ≤ 2000000 := by rw [← HN.out]; omega
  go_wp2_with fail
  have hmk := make_any A cp l (· < w.heap.size) w1 (fun b hb => Nat.lt_of_lt_of_le hb HB1.out.size) (HA.out.below HB1.out) (by rw [← HN.out]; omega)
  rw [← HN.out] at hmk
  refine hmk.mono ?_
  rintro e w2 ⟨x, wb, bb, rfl, hv, hb⟩
  have HV := Lib.hid hv
  have HB2 := Lib.hid (HB1.out.trans (hb.mono HB1.out.size))
  clear hv hb HB1 hmk
  go_wp2_with fail
  have hln := bv_len x wb bb l w2 HV.out
  rw [← HN.out] at hln
  refine hln.mono ?_
  rintro e w3 ⟨rfl, rfl⟩
  clear hln
  go_wp2_with fail
  refine (bv_ones x wb bb l w2 HV.out hl2).mono ?_
  rintro e w3 ⟨rfl, q, rfl⟩
  have HV3 := Lib.hid (HV.out.drewN q)
  have HB3 := Lib.hid (bdN HB2.out q)
  clear HV HB2
  generalize w2.drewN q = w3 at HV3 HB3 ⊢
  go_wp2_with fail
  have hrr := refRank_any A cp l.length true l (· < w.heap.size) w3 hl2 (Nat.le_refl _) (HA.out.below HB3.out)
  generalize rkB l true l.length = r at hrr ⊢
  rw [← HN.out] at hrr
  refine hrr.mono ?_
  rintro e w4 ⟨rfl, rfl⟩
  clear hrr
  go_wp2_with fail
  have hbi := bv_bits x wb bb l w3 HV3.out hl2
  rw [← HN.out] at hbi
  refine hbi.mono ?_
  rintro e w4 ⟨rfl, hbt, hb⟩
  have HV4 := Lib.hid (HV3.out.below hb)
  have HB4 := Lib.hid (HB3.out.trans (hb.mono HB3.out.size))
  have HBT := Lib.hid hbt
  clear hb hbt hbi HV3 HB3
  go_wp2_with fail
  have heq := eqB_same _ _ _ A n cp l w4 hl2 HBT.out (HA.out.below HB4.out)
  rw [← HN.out] at heq
  refine heq.mono ?_
  rintro e w5 ⟨rfl, q5, rfl⟩
  have HV5 := Lib.hid (HV4.out.drewN q5)
  have HB5 := Lib.hid (bdN HB4.out q5)
  clear HV4 HB4 heq HBT
  generalize w4.drewN q5 = w5 at HV5 HB5 ⊢
  go_wp2_with fail
  refine (bv_runs x wb bb l w5 HV5.out hl2).mono ?_
  rintro e w6 ⟨A6, c6, rfl, hA6, hb⟩
  have HV6 := Lib.hid (HV5.out.below hb)
  have HB6 := Lib.hid (HB5.out.trans (hb.mono HB5.out.size))
  have HA6 := Lib.hid hA6
  clear hb hA6 HV5 HB5
  have hrl := runsB_len l
  have hrf := refRuns_any A cp l w6 hl2 ((HA.out.below HB6.out).keep_lt HB6.out.size)
  rw [← HN.out] at hrl hrf
  generalize runsB l = R at HA6 hrl hrf ⊢
  have HRF := Lib.hid hrf
  have HRL := Lib.hid hrl
  clear hrf hrl
  go_wp2_with fail
  refine HRF.out.mono ?_
  rintro e w7 ⟨A7, c7, rfl, hA7, hb⟩
  have HV7 := Lib.hid (HV6.out.below hb)
  have HB7 := Lib.hid (HB6.out.trans (hb.mono HB6.out.size))
  have hA6' : IntsAt (fun b => w5.heap.size ≤ b ∧ b < w6.heap.size) w7 A6 R := HA6.out.keep fun b o hp => hb.cell (p := ⟨b, o, none⟩) hp.2
  have HA6' := Lib.hid hA6'
  have HA7 := Lib.hid hA7
  clear hb hA6' hA7 HV6 HB6 HRF HA6
  go_wp2_with fail
  have heI := eqI_any _ _ A6 A7 c6 c7 R R w7 (by have := HRL.out; unfold maxLen; omega) (by have := HRL.out; unfold maxLen; omega) HA6'.out HA7.out
  rw [decide_eq_true rfl] at heI
  refine heI.mono ?_
  rintro e w8 ⟨rfl, q8, rfl⟩
  have HV8 := Lib.hid (HV7.out.drewN q8)
  have HB8 := Lib.hid (bdN HB7.out q8)
  clear HV7 HB7 heI HA6' HA7 HRL
  generalize w7.drewN q8 = w8 at HV8 HB8 ⊢
  go_wp2_with fail
  by_cases ho : i < 0 ∨ (l.length : Int) ≤ i
  · refine (bv_get_out x wb bb i l w8 HV8.out ho).mono ?_
    rintro e w9 ⟨rfl, rfl⟩
    rw [← HN.out] at ho
    rcases ho with h0 | h1
    · have h0b : decide (i < 0) = true := decide_eq_true h0
      go_wp2_with fail
      go_ret
      exact ⟨rfl, HB8.out⟩
    · have h0b : decide (i < 0) = false := decide_eq_false (by omega)
      have h1b : decide ((n : Int) ≤ i) = true := decide_eq_true h1
      go_wp2_with fail
      go_ret
      exact ⟨rfl, HB8.out⟩
  obtain ⟨k, rfl⟩ : ∃ k : Nat, i = k := ⟨i.toNat, by omega⟩
  have hkl : k < l.length := by omega
  obtain ⟨v, hv⟩ : ∃ v, l[k]? = some v := ⟨l[k]'hkl, List.getElem?_eq_getElem _⟩
  have hg := bv_get_in x wb bb k l w8 HV8.out hl2 hkl
  rw [List.getD_eq_getElem?_getD, hv, Option.getD_some] at hg
  refine hg.mono ?_
  rintro e w9 ⟨rfl, rfl⟩
  obtain ⟨p, off, hAe, hp, hc⟩ := HA.out (by omega)
  subst hAe
  have x0 := (HB8.out.cell (p := ⟨p, off + k, none⟩) hp).trans (hc k v hv)
  have hkn : k < n := by rw [HN.out]; exact hkl
  have hknI : (k : Int) < (n : Int) := by omega
  have h1b : decide ((n : Int) ≤ (k : Int)) = false := decide_eq_false (by omega)
  have h1c : decide (n ≤ k) = false := decide_eq_false (by omega)
  have hvv : (v == v) = true := by simp
  clear hg hc hp hv ho hkl
  go_wp2_with fail
  go_ret
  exact ⟨rfl, HB8.out⟩
end Go.Proofs.YtakaadoppijeaaaDoor
