/- Walks: Delete, way zs. By genord2.py. -/
import Derived.Test.YtbmaijkpcpbgjaaOrdL
namespace Go.Proofs.Ytbmaijkpcpbgjaa
open Go.RowKit
set_option maxRecDepth 100000
set_option maxHeartbeats 8000000 in
theorem ol_del_zs (B x g cap made : Nat) (mv : Int) (E : List El) (w : World) (h : OL B x (some ⟨g, 0, none⟩) cap made mv E w) (hm : made ≤ 2000) (hB : B ≤ x) (e : El) (hj : E[0]? = some e) (f : El) (hk : E[0 + 1]? = some f) (hn : E.length ≤ 2000) :
    Calls Try.prog 22 #[.pointer (some ⟨x, 0, none⟩), .int .i64 (e.num : Int)] w fun er w' => er = .returned (.int .i64 0) ∧ OL B x (some ⟨g, 0, none⟩) cap made mv (E.eraseIdx 0) w' ∧ Below B w w' ∧ Kp w w' := by
  have HF := Lib.hid (ol_find B x cap made _ mv E (e.num : Int) w h (by omega))
  rw [show fP E (e.num : Int) = some ⟨e.adr, 0, none⟩ from by unfold fP; rw [if_neg (by omega), show ((e.num : Int)).toNat = e.num by omega, adrOf_some h.chain.nums hj]; rfl] at HF
  have HO := Lib.hid h
  have hnm := (h.low e (List.mem_of_getElem? hj)).2
  obtain ⟨⟨c0, c1, c2, c3⟩, t0, t1, t2, t3⟩ := bk4 h.box
  obtain ⟨⟨e0, e1, e2, e3⟩, _, _, _, _⟩ := bk4 (h.chain.el 0 e hj)
  have HBX := Lib.hid h.box
  have HBE := Lib.hid (h.chain.el 0 e hj)
  have hgx : g ≠ x := fun hx => h.rowNotBox (by rw [← hx]; rfl)
  have hxg : x ≠ g := hgx.symm
  have hge : g ≠ e.adr := fun hx => h.rowNotEl hj (by rw [← hx]; rfl)
  have hex : e.adr ≠ x := fun hx => h.notEl hj hx.symm
  have fr := h.row.frozenAt e.num
  have gc := h.row.cellAt e.num (by omega)
  rw [rowE_get E hnm] at gc
  have hgB : B ≤ g := (h.row.lt g rfl).1
  have HU := Lib.hid (h.unlink hj)
  rw [show prvE E 0 = none from rfl] at e2
  rw [show ptrE E (0 + 1) = some ⟨f.adr, 0, none⟩ from ptrE_some hk] at e3
  rw [show prvE E 0 = none from rfl] at HBE
  rw [show ptrE E (0 + 1) = some ⟨f.adr, 0, none⟩ from ptrE_some hk] at HBE
  rw [show uPre E 0 x w = (w.setCell ⟨x, 1, none⟩ (.pointer (some ⟨f.adr, 0, none⟩))) from by show w.setCell ⟨x, 1, none⟩ (.pointer (ptrE E 1)) = _; rw [show ptrE E 1 = some ⟨f.adr, 0, none⟩ from ptrE_some hk]] at HU
  rw [show ∀ U, uNxt E 0 U = U.setCell ⟨f.adr, 2, none⟩ (.pointer (none)) from fun U => by show (match E[0 + 1]? with | some f => U.setCell ⟨f.adr, 2, none⟩ (.pointer (prvE E 0)) | none => U) = _; rw [hk]; show U.setCell ⟨f.adr, 2, none⟩ (.pointer (prvE E 0)) = _; rw [show prvE E 0 = none from rfl]] at HU
  obtain ⟨⟨f0, f1, f2, f3⟩, v0, v1, v2, v3⟩ := bk4 (h.chain.el (0 + 1) f hk)
  have HBF := Lib.hid (h.chain.el (0 + 1) f hk)
  have hfe : f.adr ≠ e.adr := h.chain.apart hk hj (by omega)
  have hfx : f.adr ≠ x := fun hx => h.notEl hk hx.symm
  have hgf : g ≠ f.adr := fun hx => h.rowNotEl hk (by rw [← hx]; rfl)
  have hfB := (h.low f (List.mem_of_getElem? hk)).1
  have HKB := Lib.hid h.tBox
  have HKR := Lib.hid (h.tRow g rfl)
  have HKF := Lib.hid (h.tEl hk)
  generalize (adrOf E e.num).map (fun a => (⟨a, 0, none⟩ : Addr)) = r at gc
  clear h hj hk
  generalize e.adr = ea at *
  generalize e.num = nm at *
  generalize f.adr = fa at *
  have hxe : x ≠ ea := hex.symm
  have heg : ea ≠ g := hge.symm
  have hef : ea ≠ fa := hfe.symm
  have hxf : x ≠ fa := hfx.symm
  have hfg : fa ≠ g := hgf.symm
  obtain ⟨n, hnn⟩ : ∃ n, n = E.length := ⟨_, rfl⟩
  rw [← hnn] at c2 hn HU HBX
  clear hnn
  have hnI : (nm : Int) < (made : Int) := by omega
  go_enter Try.func22, Try.ntmps22
  go_wp2_with fail
  refine HF.out.mono ?_
  rintro er w1 ⟨rfl, rfl⟩
  go_wp2_with fail
  obtain ⟨W1, hW1⟩ : ∃ W1, W1 = (w.setCell ⟨x, 1, none⟩ (.pointer (some ⟨fa, 0, none⟩))) := ⟨_, rfl⟩
  rw [← hW1]
  have hx1 : W1.heap[x]? = some (.cells #[.slice (some ⟨g, 0, none⟩) made cap, .pointer (some ⟨fa, 0, none⟩), .int .i64 n, .int .i64 mv] 60 (0, 0)) := by rw [hW1]; exact heap_set _ _ _ _ HBX.out
  have he1 := (show W1.heap[ea]? = w.heap[ea]? from by rw [hW1]; exact heap_off hex).trans HBE.out
  have hf1 := (show W1.heap[fa]? = w.heap[fa]? from by rw [hW1]; exact heap_off hfx).trans HBF.out
  have hg1 : W1.heap[g]? = w.heap[g]? := by rw [hW1]; exact heap_off hgx
  have gc1 := (World.cell?_of_block (a := ⟨g, nm, none⟩) hg1).trans gc
  have fr1 := (World.frozen?_of_block (a := ⟨g, nm, none⟩) hg1).trans fr
  clear c0 c1 c2 c3 t0 t1 t2 t3 e0 e1 e2 e3 f0 f1 f2 f3 v0 v1 v2 v3 gc fr hg1
  obtain ⟨⟨c0, c1, c2, c3⟩, t0, t1, t2, t3⟩ := bk4 hx1
  obtain ⟨⟨e0, e1, e2, e3⟩, _, _, _, _⟩ := bk4 he1
  obtain ⟨⟨f0, f1, f2, f3⟩, v0, v1, v2, v3⟩ := bk4 hf1
  have HW1 := Lib.hid hW1
  clear hW1 hx1 he1 hf1
  go_still_tail 9, (by kernel_rfl)
  repeat still_step
  try refine wpStill_nil ?_
  change wpList _ _ _ _ _ (World.drew _)
  go_wp2_with fail
  go_ret
  rw [HW1.out]
  exact ⟨rfl, HU.out.drewN 1, bdN (((((Below.refl _ _).setCell (p := ⟨x, 1, none⟩) hB _).setCell (p := ⟨fa, 2, none⟩) hfB _).setCell (p := ⟨g, nm, none⟩) hgB _).setCell (p := ⟨x, 2, none⟩) hB _) 1, (((((Kp.refl w).set (b := x) (i := 1) HKB.out).set (b := fa) (i := 2) HKF.out).set (b := g) (i := nm) HKR.out).set (b := x) (i := 2) HKB.out).drewN 1⟩
end Go.Proofs.Ytbmaijkpcpbgjaa
