/- The laws of ranks and of steps: their walks. -/
import Derived.Test.YtakaadoppijeaaaDoorBvX
namespace Go.Proofs.YtakaadoppijeaaaDoor
open Go.RowKit
set_option maxRecDepth 100000
theorem BitsAt.keep {P : Nat → Prop} {w w' : World} {A : Option Addr} {L : List Bool} (h : BitsAt P w A L) (hk : ∀ b o, P b → w'.cell? ⟨b, o, none⟩ = w.cell? ⟨b, o, none⟩) : BitsAt P w' A L := fun hl => by
  obtain ⟨b, off, rfl, hp, hc⟩ := h hl
  exact ⟨b, off, rfl, hp, fun i x hi => (hk b _ hp).trans (hc i x hi)⟩
theorem BitsAt.below {n : Nat} {w w' : World} {A : Option Addr} {L : List Bool} (h : BitsAt (· < n) w A L) (hb : Below n w w') : BitsAt (· < n) w' A L := h.keep fun b o hp => hb.cell (p := ⟨b, o, none⟩) hp
theorem sel_ex {l : List Bool} {b : Bool} {k : Nat} : ∀ {n : Nat}, n ≤ l.length → k < rkB l b n → ∃ i, IsSel l b k i
  | 0, _, h => by rw [rkB_zero] at h; omega
  | n + 1, hn, h => by
    by_cases h' : k < rkB l b n
    · exact sel_ex (by omega) h'
    · have hx : l[n]? = some l[n] := List.getElem?_eq_getElem (by omega)
      by_cases hb : l[n] = b
      · refine ⟨n, by rw [hx, hb], ?_⟩
        rw [rkB_hit (by rw [hx, hb])] at h
        omega
      · rw [rkB_miss hx hb] at h
        exact absurd h h'
theorem SelZ.yes {l : List Bool} {b : Bool} {k i : Nat} {z : Int} (h : SelZ l b k z) (hi : IsSel l b k i) : z = i := by
  rcases h with ⟨j, rfl, hj⟩ | ⟨_, hle⟩
  · rw [hj.one hi]
  · have := hi.count; omega
theorem SelZ.no {l : List Bool} {b : Bool} {k : Nat} {z : Int} (h : SelZ l b k z) (hi : rkB l b l.length ≤ k) : z = -1 := by
  rcases h with ⟨j, rfl, hj⟩ | ⟨hz, _⟩
  · have := hj.count; omega
  · exact hz
theorem PrevZ.yes {l : List Bool} {b : Bool} {k j : Nat} {z : Int} (h : PrevZ l b (k + 1) z) (hj : IsSel l b k j) : z = j := by
  rcases h with ⟨j', k', rfl, e, hj'⟩ | ⟨_, e⟩
  · obtain rfl : k = k' := by omega
    rw [hj'.one hj]
  · omega
theorem PrevZ.no {l : List Bool} {b : Bool} {z : Int} (h : PrevZ l b 0 z) : z = -1 := by
  rcases h with ⟨j', k', rfl, e, hj'⟩ | ⟨hz, _⟩
  · omega
  · exact hz
theorem number_yes (i : Nat) (w : World) : Calls Tryd.prog 22 #[.int .i64 i, .int .i64 0, .int .i64 i, .int .i64 12] w fun e w' => e = .returned (.bool true) ∧ w = w' := by
  go_enter Tryd.func22, Tryd.ntmps22
  go_wp2_with fail
  go_ret
  exact ⟨rfl, rfl⟩
theorem number_no (w : World) : Calls Tryd.prog 22 #[.int .i64 0, .int .i64 12, .int .i64 (-1), .int .i64 12] w fun e w' => e = .returned (.bool true) ∧ w = w' := by
  go_enter Tryd.func22, Tryd.ntmps22
  go_wp2_with fail
  go_ret
  exact ⟨rfl, rfl⟩
set_option maxHeartbeats 8000000 in
theorem lawBvRanks_any (A : Option Addr) (cp : Nat) (l : List Bool) (b : Bool) (i : Int) (w : World) (hT : TabAt w) (hA : BitsAt (· < w.heap.size) w A l) :
    Calls Tryd.prog 4 #[.slice A l.length cp, .bool b, .int .i64 i] w fun e w' => e = .returned (.bool true) ∧ Below w.heap.size w w' := by
  have HT := Lib.hid hT
  have HA := Lib.hid hA
  clear hT hA
  go_enter Tryd.func4, Tryd.ntmps4
  go_wp2_with fail
  refine (awake_any w HT.out).mono ?_
  rintro e w1 ⟨rfl, hb⟩
  have HB1 := Lib.hid hb
  clear hb
  by_cases hbig : 2000 < l.length
  · have hd : decide (2000 < (l.length : Int)) = true := decide_eq_true (by omega)
    go_wp2_with fail
    go_ret
    exact ⟨rfl, HB1.out⟩
  have hd : decide (2000 < (l.length : Int)) = false := decide_eq_false (by omega)
  have hl2 : l.length ≤ 2000 := by omega
  go_wp2_with fail
  refine (make_any A cp l (· < w.heap.size) w1 (fun b hb => Nat.lt_of_lt_of_le hb HB1.out.size) (HA.out.below HB1.out) (by omega)).mono ?_
  rintro e w2 ⟨x, wb, bb, rfl, hv, hb⟩
  have HV := Lib.hid hv
  have HB2 := Lib.hid (HB1.out.trans (hb.mono HB1.out.size))
  clear hv hb HB1
  go_wp2_with fail
  by_cases h0 : i < 0
  · have h0b : decide (i < 0) = true := decide_eq_true h0
    refine (bv_rank_out x wb bb b i l w2 HV.out (Or.inl h0)).mono ?_
    rintro e w3 ⟨rfl, rfl⟩
    go_wp2_with fail
    refine (bv_select_out x wb bb i b l w2 HV.out h0).mono ?_
    rintro e w3 ⟨rfl, rfl⟩
    go_wp2_with fail
    go_ret
    exact ⟨rfl, HB2.out⟩
  have h0b : decide (i < 0) = false := decide_eq_false h0
  obtain ⟨k, rfl⟩ : ∃ k : Nat, i = k := ⟨i.toNat, by omega⟩
  by_cases h1 : l.length < k
  · have h1b : decide ((l.length : Int) < (k : Int)) = true := decide_eq_true (by omega)
    refine (bv_rank_out x wb bb b k l w2 HV.out (Or.inr (by omega))).mono ?_
    rintro e w3 ⟨rfl, rfl⟩
    go_wp2_with fail
    refine (bv_select_none x wb bb k b l w2 HV.out (by omega) (by have := rkB_le l b l.length; omega)).mono ?_
    rintro e w3 ⟨rfl, hb⟩
    have HB3 := Lib.hid (HB2.out.trans (hb.mono HB2.out.size))
    clear hb
    go_wp2_with fail
    go_ret
    exact ⟨rfl, HB3.out⟩
  have h1b : decide ((l.length : Int) < (k : Int)) = false := decide_eq_false (by omega)
  refine (bv_rank_in x wb bb k b l w2 HV.out (by omega) (by omega)).mono ?_
  rintro e w3 ⟨rfl, q, rfl⟩
  have HV3 := Lib.hid (HV.out.drewN q)
  have HB3 := Lib.hid (bdN HB2.out q)
  clear HV HB2
  generalize w2.drewN q = w3 at HV3 HB3 ⊢
  have hkl : k ≤ l.length := by omega
  have hk2 : k ≤ 2000000 := by omega
  have hl3 : l.length ≤ 2000000 := by omega
  obtain ⟨r, hr⟩ : ∃ r, r = rkB l b k := ⟨_, rfl⟩
  rw [← hr]
  have HR := Lib.hid hr
  clear hr
  go_wp2_with fail
  by_cases hs : k < rkB l b l.length
  · obtain ⟨j, hj⟩ := sel_ex (Nat.le_refl _) hs
    have HJ := Lib.hid hj
    clear hj hs
    refine (bv_select_in x wb bb k j b l w3 HV3.out (HT.out.below HB3.out) hl3 HJ.out).mono ?_
    rintro e w4 ⟨rfl, hb⟩
    have HB4 := Lib.hid (HB3.out.trans (hb.mono HB3.out.size))
    clear hb
    go_wp2_with fail
    have hrr := refRank_any A cp k b l (· < w.heap.size) w4 hl3 hkl (HA.out.below HB4.out)
    rw [← HR.out] at hrr
    refine hrr.mono ?_
    rintro e w5 ⟨rfl, rfl⟩
    clear hrr
    go_wp2_with fail
    refine (refSelect_any A cp k b l (· < w.heap.size) w4 hl3 hk2 (HA.out.below HB4.out)).mono ?_
    rintro e w5 ⟨z, rfl, hz, rfl⟩
    obtain rfl := hz.yes HJ.out
    clear hz
    go_wp2_with fail
    refine (number_yes j w4).mono ?_
    rintro e w5 ⟨rfl, rfl⟩
    go_wp2_with fail
    go_ret
    exact ⟨rfl, HB4.out⟩
  · have HS := Lib.hid (Nat.le_of_not_lt hs)
    clear hs
    refine (bv_select_none x wb bb k b l w3 HV3.out hl3 HS.out).mono ?_
    rintro e w4 ⟨rfl, hb⟩
    have HB4 := Lib.hid (HB3.out.trans (hb.mono HB3.out.size))
    clear hb
    go_wp2_with fail
    have hrr := refRank_any A cp k b l (· < w.heap.size) w4 hl3 hkl (HA.out.below HB4.out)
    rw [← HR.out] at hrr
    refine hrr.mono ?_
    rintro e w5 ⟨rfl, rfl⟩
    clear hrr
    go_wp2_with fail
    refine (refSelect_any A cp k b l (· < w.heap.size) w4 hl3 hk2 (HA.out.below HB4.out)).mono ?_
    rintro e w5 ⟨z, rfl, hz, rfl⟩
    obtain rfl := hz.no HS.out
    clear hz
    go_wp2_with fail
    refine (number_no w4).mono ?_
    rintro e w5 ⟨rfl, rfl⟩
    go_wp2_with fail
    go_ret
    exact ⟨rfl, HB4.out⟩
end Go.Proofs.YtakaadoppijeaaaDoor
