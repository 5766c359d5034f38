/- Walks: InsertAfter (under way). -/
import Derived.Test.YthnlcbeibhhjpaaOrdG
namespace Go.Proofs.Ythnlcbeibhhjpaa
open Go.RowKit
set_option maxRecDepth 100000
theorem ol_after_q (B x cap made k : Nat) (G : Option Addr) (mv : Int) (E : List El) (w : World) (h : OL B x G cap made mv E w) (hk : k ≤ E.length) :
    Calls Try.prog 51 #[.pointer (some ⟨x, 0, none⟩), .pointer (prvE E k)] w fun e w' => e = .returned (.pointer (ptrE E k)) ∧ w' = w :=
  (ol_after_at B x cap made k G mv E w h hk).mono fun _ _ h => ⟨h.1, h.2.symm⟩
theorem OL.drewN {B x cap made : Nat} {G : Option Addr} {mv : Int} {E : List El} {W : World} (h : OL B x G cap made mv E W) (q : Nat) : OL B x G cap made mv E (W.drewN q) := ⟨h.box, h.row, ⟨h.chain.el, h.chain.nums⟩, h.low⟩
/- Under way: this walk reaches the append of region 18 (the world there: ((w.setCell first).alloc element).alloc literal, drawn once):
set_option maxHeartbeats 4000000 in
theorem ol_insert_first (B x cap made : Nat) (G : Option Addr) (mv : Int) (E : List El) (w : World) (h : OL B x G cap made mv E w) (hm : made < 2000) (hE : E.length = 0) (hB : B ≤ x) :
    Calls Try.prog 46 #[.pointer (some ⟨x, 0, none⟩), .int .i64 (-1)] w fun e w' => e = .returned (.tuple #[.int .i64 made, .int .i64 0]) ∧ (∃ G' cap' lab, OL B x G' cap' (made + 1) mv (insE E 0 ⟨made, lab, w.heap.size⟩) w') ∧ Below B w w' := by
  have HF := Lib.hid (ol_find B x cap made G mv E (-1) w h (by omega))
  rw [show fP E (-1) = none from by unfold fP; rw [if_pos (by omega)]] at HF
  have HG := Lib.hid (ol_gap B x cap made 0 G mv E w h (by omega))
  have hE0 : E = [] := List.length_eq_zero_iff.1 hE
  have e0 : ptrE E 0 = none := ptrE_none (by omega)
  have HA := Lib.hid (fun q => ol_after_q B x cap made 0 G mv E (w.drewN q) (h.drewN q) (by omega))
  rw [show loE E 0 = -1 from rfl, show hiE E 0 = 1099511627777 from by rw [hE0]; rfl, show prvE E 0 = none from rfl] at HG
  rw [e0, show prvE E 0 = none from rfl] at HA
  obtain ⟨⟨c0, c1, c2, c3⟩, t0, t1, t2, t3⟩ := bk4 h.box
  have hx : x < w.heap.size := bdLt h.box
  have HO := Lib.hid h
  have hmb : ((made : Int) == 2000) = false := by simp; omega
  rw [e0] at c1
  clear h hE0 e0
  go_enter Try.func46, Try.ntmps46
  go_wp2_with fail
  refine HF.out.mono ?_
  rintro e w1 ⟨rfl, rfl⟩
  go_wp2_with fail
  refine HG.out.mono ?_
  rintro e w1 ⟨rfl, rfl⟩
  go_wp2_with fail
  refine HG.out.mono ?_
  rintro e w1 ⟨rfl, rfl⟩
  go_wp2_with fail
  go_still_tail 16, (by kernel_rfl)
  still_call (HA.out 1)
  repeat still_step
  refine wpStill_nil ?_
  change wpList _ _ _ _ _ w.drew
-/
end Go.Proofs.Ythnlcbeibhhjpaa
