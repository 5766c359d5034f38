/- Walks: awake. -/
import Derived.Test.YtakaadoppijeaaaDoorBvU
namespace Go.Proofs.YtakaadoppijeaaaDoor
open Go.RowKit
set_option maxRecDepth 100000
def awL : List Bool := [false, true, true, false, true]
theorem aw_rank : rkB awL true 3 = 2 := by decide
theorem aw_sel : IsSel awL true 2 4 := ⟨rfl, by decide⟩
theorem aw_runs : runsB awL = [1, 2, 1, 1] := by decide
theorem aw_enc : enc awL = [0, 0, 0, 5, 104] := by decide +kernel
theorem lit_bits (w : World) (cs : Array Value) (L : List Bool) (t : TypeId) (h : cs.toList = L.map Value.bool) : BitsAt (· = w.heap.size) (w.alloc (.cells cs t)) (some ⟨w.heap.size, 0, none⟩) L := fun _ => by
  refine ⟨w.heap.size, 0, rfl, rfl, fun i x hx => ?_⟩
  rw [Nat.zero_add, cell_of_row _ _ _ _ _ _ (bdNew w (.cells cs t)), ← Array.getElem?_toList, h, List.getElem?_map, hx]
  rfl
theorem lit_ints (w : World) (cs : Array Value) (L : List Int) (t : TypeId) (h : cs.toList = L.map (Value.int .i64)) : IntsAt (· = w.heap.size) (w.alloc (.cells cs t)) (some ⟨w.heap.size, 0, none⟩) L := fun _ => by
  refine ⟨w.heap.size, 0, rfl, rfl, fun i x hx => ?_⟩
  rw [Nat.zero_add, cell_of_row _ _ _ _ _ _ (bdNew w (.cells cs t)), ← Array.getElem?_toList, h, List.getElem?_map, hx]
  rfl
theorem lit_bytes (w : World) (cs : Array Value) (L : List Nat) (t : TypeId) (h : cs.toList = L.map fun n : Nat => Value.int .u8 (n : Int)) : BytesAt (w.alloc (.cells cs t)) w.heap.size L := fun i x hx => by
  rw [cell_of_row _ _ _ _ _ _ (bdNew w (.cells cs t)), ← Array.getElem?_toList, h, List.getElem?_map, hx]
  rfl
theorem BytesAt.below {w w' : World} {g : Nat} {L : List Nat} (h : BytesAt w g L) (hb : Below w.heap.size w w') : BytesAt w' g L := fun i y hy =>
  (hb.cell (p := ⟨g, i, none⟩) (World.block_lt_of_cell? _ _ (h i y hy))).trans (h i y hy)
set_option maxHeartbeats 8000000 in
theorem awake_any (w : World) (hT : TabAt w) : Calls Tryd.prog 9 #[] w fun e w' => e = .returned (.bool true) ∧ Below w.heap.size w w' := by
  have HT := Lib.hid hT
  obtain ⟨W1, hW1⟩ : ∃ W1, W1 = w.alloc (.cells #[.bool false, .bool true, .bool true, .bool false, .bool true] 4) := ⟨_, rfl⟩
  have hb1 : Below w.heap.size w W1 := by rw [hW1]; exact (Below.refl _ _).alloc (Nat.le_refl _) _
  have hlit : BitsAt (· = w.heap.size) W1 (some ⟨w.heap.size, 0, none⟩) awL := by rw [hW1]; exact lit_bits w _ awL _ rfl
  have HMK := Lib.hid (make_any (some ⟨w.heap.size, 0, none⟩) 5 awL (· = w.heap.size) W1 (fun b hb => by rw [hb, hW1]; simp) hlit (by decide))
  have HB1 := Lib.hid hb1
  have HW1 := Lib.hid hW1
  clear hT hb1 hlit hW1
  go_enter Tryd.func9, Tryd.ntmps9
  go_wp2_with fail
  rw [← HW1.out]
  refine HMK.out.mono ?_
  rintro e w1 ⟨x, wb, bb, rfl, hv, hb⟩
  have HV := Lib.hid hv
  have HB := Lib.hid (HB1.out.trans (hb.mono HB1.out.size))
  clear hv hb HMK HB1
  go_wp2_with fail
  have hR := bv_rank_in x wb bb 3 true awL w1 HV.out (by decide) (by decide)
  rw [aw_rank] at hR
  refine hR.mono ?_
  rintro e w2 ⟨rfl, q, rfl⟩
  clear hR
  have HV2 := Lib.hid (HV.out.drewN q)
  have HB2 := Lib.hid (bdN HB.out q)
  clear HV HB
  generalize w1.drewN q = w2 at HV2 HB2 ⊢
  go_wp2_with fail
  have hTw : TabAt w2 := HT.out.below HB2.out
  refine (bv_select_in x wb bb 2 4 true awL w2 HV2.out hTw (by decide) aw_sel).mono ?_
  rintro e w3 ⟨rfl, hb⟩
  have HV3 := Lib.hid (HV2.out.below hb)
  have HB3 := Lib.hid (HB2.out.trans (hb.mono HB2.out.size))
  clear hb hTw HV2 HB2
  go_wp2_with fail
  have hRU := bv_runs x wb bb awL w3 HV3.out (by decide)
  rw [aw_runs] at hRU
  refine hRU.mono ?_
  rintro e w4 ⟨A, cap, rfl, hA, hb⟩
  have HV4 := Lib.hid (HV3.out.below hb)
  have HB4 := Lib.hid (HB3.out.trans (hb.mono HB3.out.size))
  have HA4 := Lib.hid hA
  clear hA hb hRU HV3 HB3
  go_wp2_with fail
  have hli := lit_ints w4 #[.int .i64 1, .int .i64 2, .int .i64 1, .int .i64 1] [1, 2, 1, 1] 3 rfl
  have hba : Below w4.heap.size w4 (w4.alloc (.cells #[.int .i64 1, .int .i64 2, .int .i64 1, .int .i64 1] 3)) := (Below.refl _ _).alloc (Nat.le_refl _) _
  have hA5 : IntsAt (fun b => w3.heap.size ≤ b ∧ b < w4.heap.size) (w4.alloc (.cells #[.int .i64 1, .int .i64 2, .int .i64 1, .int .i64 1] 3)) A [1, 2, 1, 1] := HA4.out.keep fun b o hp => hba.cell (p := ⟨b, o, none⟩) hp.2
  have hQ := eqI_any _ _ A (some ⟨w4.heap.size, 0, none⟩) cap 4 [1, 2, 1, 1] [1, 2, 1, 1] _ (by decide) (by decide) hA5 hli
  rw [decide_eq_true rfl] at hQ
  refine hQ.mono ?_
  rintro e w5 ⟨rfl, q5, rfl⟩
  have HV5 := Lib.hid ((HV4.out.below hba).drewN q5)
  have HB5 := Lib.hid (bdN (HB4.out.trans (hba.mono HB4.out.size)) q5)
  clear hli hba hA5 hQ HV4 HB4 HA4
  generalize (w4.alloc (.cells #[.int .i64 1, .int .i64 2, .int .i64 1, .int .i64 1] 3)).drewN q5 = w5 at HV5 HB5 ⊢
  go_wp2_with fail
  refine (bv_encode x wb bb awL w5 HV5.out (by decide)).mono ?_
  rintro e w6 ⟨rfl, hbe, hb⟩
  have HB6 := Lib.hid (HB5.out.trans (hb.mono HB5.out.size))
  rw [aw_enc] at hbe
  have HE := Lib.hid hbe
  have hg : w5.heap.size < w6.heap.size := World.block_lt_of_cell? _ _ (hbe 0 0 rfl)
  clear hbe hb
  go_wp2_with fail
  have hbc : Below w6.heap.size w6 (w6.alloc (.cells #[.int .u8 0, .int .u8 0, .int .u8 0, .int .u8 5, .int .u8 104] 5)) := (Below.refl _ _).alloc (Nat.le_refl _) _
  have hly := lit_bytes w6 #[.int .u8 0, .int .u8 0, .int .u8 0, .int .u8 5, .int .u8 104] [0, 0, 0, 5, 104] 5 rfl
  have hQ2 := beq_any w5.heap.size w6.heap.size (4 + nby awL) 5 (4 + nby awL) 5 [0, 0, 0, 5, 104] [0, 0, 0, 5, 104] _ (by decide) rfl (by decide) (by decide) (HE.out.below hbc) hly
  rw [decide_eq_true rfl] at hQ2
  refine hQ2.mono ?_
  rintro e w7 ⟨rfl, rfl⟩
  have HB7 := Lib.hid (HB6.out.trans (hbc.mono HB6.out.size))
  clear hly hQ2 hbc HE HB6
  generalize w6.alloc (.cells #[.int .u8 0, .int .u8 0, .int .u8 0, .int .u8 5, .int .u8 104] 5) = w7 at HB7 ⊢
  go_wp2_with fail
  go_ret
  exact ⟨rfl, HB7.out⟩
end Go.Proofs.YtakaadoppijeaaaDoor
