/- The law of inverses: its walk. -/
import Derived.Test.YtakaadoppijeaaaDoorBvCo
namespace Go.Proofs.YtakaadoppijeaaaDoor
open Go.RowKit
set_option maxRecDepth 100000
theorem run_nonneg (m : List Bool) : ∀ s : List Int × Bool × Nat, (∀ x ∈ s.1, 0 ≤ x) → ∀ x ∈ (m.foldl runStep s).1, 0 ≤ x := by
  induction m with
  | nil => intro s h; exact h
  | cons a m ih =>
    intro s h
    rw [List.foldl_cons]
    apply ih
    unfold runStep
    split
    · exact h
    · intro x hx
      rcases List.mem_append.1 hx with h' | h'
      · exact h x h'
      · simp at h'; omega
theorem runsB_nonneg (l : List Bool) : ∀ x ∈ runsB l, 0 ≤ x := by
  cases l with
  | nil => simp [runsB]
  | cons a l =>
    rw [runsB_pos (by simp)]
    intro x hx
    rcases List.mem_append.1 hx with h | h
    · exact run_nonneg _ _ (by simp) x h
    · simp at h; omega
theorem sum_pos (L : List Int) (h : ∀ x ∈ L, 0 ≤ x) : 0 ≤ L.sum := by
  induction L with
  | nil => simp
  | cons a L ih =>
    have := h a (by simp)
    have := ih fun x hx => h x (by simp [hx])
    rw [List.sum_cons]; omega
theorem sum_take (L : List Int) (h : ∀ x ∈ L, 0 ≤ x) (k : Nat) : 0 ≤ (L.take k).sum ∧ (L.take k).sum ≤ L.sum := by
  refine ⟨sum_pos _ fun x hx => h x (List.mem_of_mem_take hx), ?_⟩
  have e : L.sum = (L.take k).sum + (L.drop k).sum := by rw [← List.sum_append, List.take_append_drop]
  have := sum_pos (L.drop k) fun x hx => h x (List.mem_of_mem_drop hx)
  omega
theorem sum_succ {L : List Int} {k : Nat} {x : Int} (h : L[k]? = some x) : (L.take (k + 1)).sum = (L.take k).sum + x := by
  rw [List.take_add_one, h, Option.toList_some, List.sum_append]; simp
/-- The index that was selected last. -/
def LastZ (l : List Bool) (b : Bool) (k : Nat) (z : Int) : Prop := (k = 0 ∧ z = -1) ∨ ∃ k' j : Nat, k = k' + 1 ∧ z = j ∧ IsSel l b k' j
theorem LastZ.rank {l : List Bool} {b : Bool} {k : Nat} {z : Int} (h : LastZ l b k z) : ∃ j : Nat, z + 1 = j ∧ j ≤ l.length ∧ rkB l b j = k := by
  rcases h with ⟨rfl, rfl⟩ | ⟨k', j, rfl, rfl, hj⟩
  · exact ⟨0, by omega, by omega, rkB_zero _ _⟩
  · exact ⟨j + 1, by omega, by have := hj.lt; omega, by rw [rkB_hit hj.1, hj.2]⟩
theorem LastZ.below {l : List Bool} {b : Bool} {k i : Nat} {z : Int} (h : LastZ l b k z) (hi : IsSel l b k i) : z < i := by
  rcases h with ⟨rfl, rfl⟩ | ⟨k', j, rfl, rfl, hj⟩
  · omega
  · have h1 := rkB_hit hj.1
    have : ¬ i ≤ j := fun hle => by
      have := rkB_mono l b hle
      have := hi.2; have := hj.2
      omega
    omega
theorem LastZ.low {l : List Bool} {b : Bool} {k : Nat} {z : Int} (h : LastZ l b k z) : -1 ≤ z ∧ z < l.length + 1 := by
  rcases h with ⟨rfl, rfl⟩ | ⟨k', j, rfl, rfl, hj⟩
  · omega
  · have := hj.lt; omega
set_option maxHeartbeats 16000000 in
theorem lawBvInverse_any (A : Option Addr) (cp : Nat) (l : List Bool) (b : Bool) (w : World) (hT : TabAt w) (hA : BitsAt (· < w.heap.size) w A l) :
    Calls Tryd.prog 7 #[.slice A l.length cp, .bool b] w fun e w' => e = .returned (.bool true) ∧ Below w.heap.size w w' := by
  have HT := Lib.hid hT
  have HA := Lib.hid hA
  clear hT hA
  go_enter Tryd.func7, Tryd.ntmps7
  go_wp2_with fail
  refine (awake_any w HT.out).mono ?_
  rintro e w1 ⟨rfl, hb⟩
  have HB1 := Lib.hid hb
  clear hb
  obtain ⟨m, hm⟩ : ∃ m, m = l.length := ⟨_, rfl⟩
  rw [← hm]
  have HM := Lib.hid hm
  clear hm
  by_cases hbig : 300 < m
  · have hd : decide (300 < (m : Int)) = true := decide_eq_true (by omega)
    go_wp2_with fail
    go_ret
    exact ⟨rfl, HB1.out⟩
  have hd : decide (300 < (m : Int)) = false := decide_eq_false (by omega)
  have hm3 : m ≤ 300 := by omega
  have hl2 : l.length ≤ 2000000 := by rw [← HM.out]; omega
  go_wp2_with fail
  have hmk := make_any A cp l (· < w.heap.size) w1 (fun b hb => Nat.lt_of_lt_of_le hb HB1.out.size) (HA.out.below HB1.out) (by rw [← HM.out]; omega)
  rw [← HM.out] at hmk
  refine hmk.mono ?_
  rintro e w2 ⟨x, wb, bb, rfl, hv, hb⟩
  have HV := Lib.hid hv
  have HB2 := Lib.hid (HB1.out.trans (hb.mono HB1.out.size))
  clear hv hb HB1 hmk
  go_wp2_with fail
  have hln := bv_len x wb bb l w2 HV.out
  rw [← HM.out] at hln
  refine hln.mono ?_
  rintro e w3 ⟨rfl, rfl⟩
  clear hln
  go_wp2_with fail
  have hrk := bv_rank_in x wb bb l.length b l w2 HV.out hl2 (Nat.le_refl _)
  obtain ⟨n, hn⟩ : ∃ n, n = rkB l b l.length := ⟨_, rfl⟩
  rw [← hn, ← HM.out] at hrk
  refine hrk.mono ?_
  rintro e w3 ⟨rfl, q, rfl⟩
  have HV3 := Lib.hid (HV.out.drewN q)
  have HB3 := Lib.hid (bdN HB2.out q)
  have HN := Lib.hid hn
  have hnm : n ≤ m := by rw [hn, HM.out]; exact rkB_le l b _
  clear HV HB2 hrk hn
  generalize w2.drewN q = w3 at HV3 HB3 ⊢
  have hnmI : decide ((m : Int) < (n : Int)) = false := decide_eq_false (by omega)
  have hnmN : decide (m < n) = false := decide_eq_false (by omega)
  go_wp2_with fail
  go_loopw [9, 69] (fun s9 s69 wr => ∃ (k : Nat) (z : Int), k ≤ n ∧ s69 = .int .i64 k ∧ s9 = .int .i64 z ∧ LastZ l b k z ∧ BV x wb bb l wr ∧ Below w.heap.size w wr) (fun _ s69 _ => n - (intOf s69).toNat)
  case atStart => exact ⟨0, -1, by omega, rfl, rfl, Or.inl ⟨rfl, rfl⟩, HV3.out, HB3.out⟩
  case round =>
    clear HV3 HB3
    obtain ⟨k, z, hk, rfl, rfl, hz, hv, hb⟩ := hrel
    have HZ := Lib.hid hz
    have HV := Lib.hid hv
    have HB := Lib.hid hb
    clear hz hv hb
    by_cases hlt : k < n
    · have hltI : (k : Int) < (n : Int) := by omega
      obtain ⟨i, hi⟩ := sel_ex (l := l) (b := b) (k := k) (Nat.le_refl _) (by rw [← HN.out]; exact hlt)
      have HI := Lib.hid hi
      have him : i < m := by rw [HM.out]; exact hi.lt
      have hzi := HZ.out.below hi
      have hzl := HZ.out.low
      clear hi
      go_wp2_with fail
      refine (bv_select_in x wb bb k i b l wr HV.out (HT.out.below HB.out) hl2 HI.out).mono ?_
      rintro e w4 ⟨rfl, hb⟩
      have HV4 := Lib.hid (HV.out.below hb)
      have HB4 := Lib.hid (HB.out.trans (hb.mono HB.out.size))
      clear hb HV HB
      obtain ⟨p, off, hAe, hp, hc⟩ := HA.out (by rw [← HM.out]; omega)
      subst hAe
      have x0 := (HB4.out.cell (p := ⟨p, off + i, none⟩) hp).trans (hc i b HI.out.1)
      have himI : (i : Int) < (m : Int) := by omega
      have d1 : decide ((i : Int) ≤ z) = false := decide_eq_false (by omega)
      have d2 : decide ((m : Int) ≤ (i : Int)) = false := decide_eq_false (by omega)
      have d3 : decide (m ≤ i) = false := decide_eq_false (by omega)
      have d4 : (b == b) = true := by simp
      clear hc hp hzi
      go_wp2_with fail
      clear x0
      have hrk := bv_rank_in x wb bb i b l w4 HV4.out hl2 (by rw [← HM.out]; omega)
      rw [HI.out.2] at hrk
      refine hrk.mono ?_
      rintro e w5 ⟨rfl, q5, rfl⟩
      have HV5 := Lib.hid (HV4.out.drewN q5)
      have HB5 := Lib.hid (bdN HB4.out q5)
      clear HV4 HB4 hrk
      generalize w4.drewN q5 = w5 at HV5 HB5 ⊢
      go_wp2_with fail
      obtain ⟨j, hj, hjl, hjr⟩ := HZ.out.rank
      have hnx := bv_next_in x wb bb j i b l w5 HV5.out (HT.out.below HB5.out) hl2 hjl (by rw [hjr]; exact HI.out)
      rw [← hj] at hnx
      refine hnx.mono ?_
      rintro e w6 ⟨rfl, hb⟩
      have HV6 := Lib.hid (HV5.out.below hb)
      have HB6 := Lib.hid (HB5.out.trans (hb.mono HB5.out.size))
      clear hb HV5 HB5 hnx hj hjl hjr
      go_wp2_with fail
      have hpv := bv_prev_in x wb bb (i + 1) i k b l w6 HV6.out (HT.out.below HB6.out) hl2 (by rw [← HM.out]; omega) (by rw [rkB_hit HI.out.1, HI.out.2]) HI.out
      rw [show ((i + 1 : Nat) : Int) = (i : Int) + 1 by omega] at hpv
      refine hpv.mono ?_
      rintro e w7 ⟨rfl, hb⟩
      have HV7 := Lib.hid (HV6.out.below hb)
      have HB7 := Lib.hid (HB6.out.trans (hb.mono HB6.out.size))
      have HZ7 : Hid (LastZ l b (k + 1) (i : Int)) := Lib.hid (Or.inr ⟨k, i, rfl, rfl, HI.out⟩)
      clear hb HV6 HB6 hpv
      go_wp2_with fail
      go_roundw
      case rel => exact ⟨k + 1, i, by omega, by go_num, rfl, HZ7.out, HV7.out, HB7.out⟩
      case measure => simp [intOf]; omega
    · have hkn : k = n := by omega
      subst hkn
      clear HZ
      go_wp2_with fail
      go_loopw [153] (fun s153 wi => ∃ i : Nat, i ≤ m + 1 ∧ s153 = .int .i64 i ∧ BV x wb bb l wi ∧ Below w.heap.size w wi) (fun s153 _ => m + 1 - (intOf s153).toNat)
      case atStart => exact ⟨0, by omega, rfl, HV.out, HB.out⟩
      case round =>
        clear HV HB
        obtain ⟨i, hi, rfl, hv, hb⟩ := hrel
        have HV := Lib.hid hv
        have HB := Lib.hid hb
        clear hv hb
        by_cases hlt2 : i < m + 1
        · have hltI2 : (i : Int) < (m : Int) + 1 := by omega
          have him : i ≤ l.length := by rw [← HM.out]; omega
          have hsum := rkB_add l i him
          have HR1 := Lib.hid (bv_rank_in x wb bb i true l wr HV.out hl2 him)
          have HR2 := Lib.hid (fun q => bv_rank_in x wb bb i false l (wr.drewN q) (HV.out.drewN q) hl2 him)
          generalize rkB l true i = r1 at hsum HR1
          generalize rkB l false i = r2 at hsum HR2
          have hsI : (r1 : Int) + (r2 : Int) = (i : Int) := by omega
          clear hsum
          go_wp2_with fail
          refine HR1.out.mono ?_
          rintro e w5 ⟨rfl, q5, rfl⟩
          go_wp2_with fail
          refine (HR2.out q5).mono ?_
          rintro e w6 ⟨rfl, q6, rfl⟩
          have HV6 := Lib.hid ((HV.out.drewN q5).drewN q6)
          have HB6 := Lib.hid (bdN (bdN HB.out q5) q6)
          clear HV HB HR1 HR2
          generalize (wr.drewN q5).drewN q6 = w6 at HV6 HB6 ⊢
          go_wp2_with fail
          go_roundw
          case rel => exact ⟨i + 1, by omega, by go_num, HV6.out, HB6.out⟩
          case measure => simp [intOf]; omega
        · have hltI2 : decide ((i : Int) < (m : Int) + 1) = false := decide_eq_false (by omega)
          have hltN2 : decide (i < m + 1) = false := decide_eq_false hlt2
          go_wp2_with fail
          refine (bv_runs x wb bb l wr HV.out hl2).mono ?_
          rintro e w5 ⟨A5, c5, rfl, hA5, hb⟩
          have HV5 := Lib.hid (HV.out.below hb)
          have HB5 := Lib.hid (HB.out.trans (hb.mono HB.out.size))
          have HA5 := Lib.hid hA5
          have hnn := runsB_nonneg l
          have hsm := runsB_sum l
          have hrb := runsB_len l
          rw [← HM.out] at hsm hrb
          clear hA5 hb HV HB
          generalize runsB l = R at HA5 hnn hsm hrb ⊢
          have HNN := Lib.hid hnn
          have HSM := Lib.hid hsm
          clear hnn hsm
          obtain ⟨rl, hrl⟩ : ∃ rl, rl = R.length := ⟨_, rfl⟩
          rw [← hrl] at hrb ⊢
          have HRL := Lib.hid hrl
          clear hrl
          go_wp2_with fail
          go_loopw [24, 185] (fun s24 s185 wi => ∃ (k : Nat) (t : Int), k ≤ rl ∧ s185 = .int .i64 k ∧ s24 = .int .i64 t ∧ t = (R.take k).sum ∧ w5 = wi) (fun _ s185 _ => rl - (intOf s185).toNat)
          case atStart => exact ⟨0, 0, by omega, rfl, rfl, by simp, rfl⟩
          case round =>
            obtain ⟨k, t, hk, rfl, rfl, ht, rfl⟩ := hrel
            have hst := sum_take R HNN.out k
            have HT3 := Lib.hid ht
            rw [← ht, HSM.out] at hst
            clear ht
            obtain ⟨hst1, hst2⟩ := hst
            by_cases hlt3 : k < rl
            · have hltI3 : (k : Int) < (rl : Int) := by omega
              obtain ⟨y, hy⟩ : ∃ y, R[k]? = some y := ⟨R[k]'(by rw [← HRL.out]; exact hlt3), List.getElem?_eq_getElem _⟩
              obtain ⟨p, off, hAe, _, hc⟩ := HA5.out (by rw [← HRL.out]; omega)
              subst hAe
              have x0 := hc k y hy
              have hst3 := sum_take R HNN.out (k + 1)
              rw [sum_succ hy, ← HT3.out, HSM.out] at hst3
              obtain ⟨hst4, hst5⟩ := hst3
              have HNT : Hid (t + y = (R.take (k + 1)).sum) := Lib.hid (by rw [sum_succ hy, ← HT3.out])
              clear hc hy
              go_wp2_with fail
              go_roundw
              case rel => exact ⟨k + 1, t + y, by omega, by go_num, by go_num, HNT.out, by trivial⟩
              case measure => simp [intOf]; omega
            · have hkr : k = rl := by omega
              have hte : t = (m : Int) := by rw [HT3.out, hkr, HRL.out, List.take_length]; exact HSM.out
              subst hte
              clear HT3 hst1 hst2 hkr
              go_wp2_with fail
              refine (bv_encode x wb bb l w5 HV5.out hl2).mono ?_
              rintro e w6 ⟨rfl, hbe, hb⟩
              have HB6 := Lib.hid (HB5.out.trans (hb.mono HB5.out.size))
              have HE6 := Lib.hid hbe
              have hsz5 : w.heap.size ≤ w5.heap.size := HB5.out.size
              clear hbe hb
              go_wp2_with fail
              have hdc := decode_any (some ⟨w5.heap.size, 0, none⟩) (4 + nby l) (enc l) w6 (by rw [enc_len, ← HM.out]; omega) (by rw [enc_len]; exact Nat.le_refl _) (enc_lt l) (fun hp => ⟨w5.heap.size, 0, rfl, World.block_lt_of_cell? _ _ (HE6.out 0 _ (List.getElem?_eq_getElem hp)), fun i y hy => by rw [Nat.zero_add]; exact HE6.out i y hy⟩)
              rw [show (enc l).length = 4 + nby l from enc_len l] at hdc
              refine hdc.mono ?_
              clear hdc
              rintro e w7 hdec
              rcases hdec with ⟨h0, rfl, hb⟩ | ⟨h0, y, yb, yc, rfl, hv, hb⟩
              · exact absurd (errD_enc l (by rw [← HM.out]; omega)) h0
              · rw [decB_enc l (by rw [← HM.out]; omega)] at hv
                have HY := Lib.hid hv
                have HB7 := Lib.hid (HB6.out.trans (hb.mono HB6.out.size))
                clear hb hv h0
                go_wp2_with fail
                have hbi := bv_bits y yb yc l w7 HY.out hl2
                rw [← HM.out] at hbi
                refine hbi.mono ?_
                rintro e w8 ⟨rfl, hbt, hb⟩
                have HB8 := Lib.hid (HB7.out.trans (hb.mono HB7.out.size))
                have HBT := Lib.hid hbt
                clear hbt hb hbi
                go_wp2_with fail
                have heq := eqB_same _ _ _ A m cp l w8 hl2 HBT.out (HA.out.below HB8.out)
                rw [← HM.out] at heq
                refine heq.mono ?_
                rintro e w9 ⟨rfl, q9, rfl⟩
                have HB9 := Lib.hid (bdN HB8.out q9)
                clear heq
                generalize w8.drewN q9 = w9 at HB9 ⊢
                go_wp2_with fail
                go_ret
                exact ⟨rfl, HB9.out⟩
end Go.Proofs.YtakaadoppijeaaaDoor
