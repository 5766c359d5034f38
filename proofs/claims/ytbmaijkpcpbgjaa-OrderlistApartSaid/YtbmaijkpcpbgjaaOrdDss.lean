/- Walks: Delete, way ss. By genord2.py. -/
import Derived.Test.YtbmaijkpcpbgjaaOrdL
namespace Go.Proofs.Ytbmaijkpcpbgjaa
open Go.RowKit
set_option maxRecDepth 100000
set_option maxHeartbeats 8000000 in
theorem ol_del_ss (B x g cap made : Nat) (mv : Int) (E : List El) (w : World) (h : OL B x (some ⟨g, 0, none⟩) cap made mv E w) (hm : made ≤ 2000) (hB : B ≤ x) (e : El) (i : Nat) (pe : El) (hp : E[i]? = some pe) (hj : E[(i + 1)]? = some e) (f : El) (hk : E[(i + 1) + 1]? = some f) (hn : E.length ≤ 2000) :
    Calls Try.prog 22 #[.pointer (some ⟨x, 0, none⟩), .int .i64 (e.num : Int)] w fun er w' => er = .returned (.int .i64 0) ∧ OL B x (some ⟨g, 0, none⟩) cap made mv (E.eraseIdx (i + 1)) w' ∧ Below B w w' ∧ Kp w w' := by
  have HF := Lib.hid (ol_find B x cap made _ mv E (e.num : Int) w h (by omega))
  rw [show fP E (e.num : Int) = some ⟨e.adr, 0, none⟩ from by unfold fP; rw [if_neg (by omega), show ((e.num : Int)).toNat = e.num by omega, adrOf_some h.chain.nums hj]; rfl] at HF
  have HO := Lib.hid h
  have hnm := (h.low e (List.mem_of_getElem? hj)).2
  obtain ⟨⟨c0, c1, c2, c3⟩, t0, t1, t2, t3⟩ := bk4 h.box
  obtain ⟨⟨e0, e1, e2, e3⟩, _, _, _, _⟩ := bk4 (h.chain.el (i + 1) e hj)
  have HBX := Lib.hid h.box
  have HBE := Lib.hid (h.chain.el (i + 1) e hj)
  have hgx : g ≠ x := fun hx => h.rowNotBox (by rw [← hx]; rfl)
  have hxg : x ≠ g := hgx.symm
  have hge : g ≠ e.adr := fun hx => h.rowNotEl hj (by rw [← hx]; rfl)
  have hex : e.adr ≠ x := fun hx => h.notEl hj hx.symm
  have fr := h.row.frozenAt e.num
  have gc := h.row.cellAt e.num (by omega)
  rw [rowE_get E hnm] at gc
  have hgB : B ≤ g := (h.row.lt g rfl).1
  have HU := Lib.hid (h.unlink hj)
  rw [show prvE E (i + 1) = some ⟨pe.adr, 0, none⟩ from ptrE_some hp] at e2
  rw [show ptrE E ((i + 1) + 1) = some ⟨f.adr, 0, none⟩ from ptrE_some hk] at e3
  rw [show prvE E (i + 1) = some ⟨pe.adr, 0, none⟩ from ptrE_some hp] at HBE
  rw [show ptrE E ((i + 1) + 1) = some ⟨f.adr, 0, none⟩ from ptrE_some hk] at HBE
  rw [show uPre E (i + 1) x w = (w.setCell ⟨pe.adr, 3, none⟩ (.pointer (some ⟨f.adr, 0, none⟩))) from by show (match E[i]? with | some f => w.setCell ⟨f.adr, 3, none⟩ (.pointer (ptrE E (i + 2))) | none => w) = _; rw [hp]; show w.setCell ⟨pe.adr, 3, none⟩ (.pointer (ptrE E (i + 2))) = _; rw [show ptrE E (i + 2) = some ⟨f.adr, 0, none⟩ from ptrE_some hk]] at HU
  rw [show ∀ U, uNxt E (i + 1) U = U.setCell ⟨f.adr, 2, none⟩ (.pointer (some ⟨pe.adr, 0, none⟩)) from fun U => by show (match E[(i + 1) + 1]? with | some f => U.setCell ⟨f.adr, 2, none⟩ (.pointer (prvE E (i + 1))) | none => U) = _; rw [hk]; show U.setCell ⟨f.adr, 2, none⟩ (.pointer (prvE E (i + 1))) = _; rw [show prvE E (i + 1) = some ⟨pe.adr, 0, none⟩ from ptrE_some hp]] at HU
  obtain ⟨⟨p0, p1, p2, p3⟩, u0, u1, u2, u3⟩ := bk4 (h.chain.el i pe hp)
  have hpe : pe.adr ≠ e.adr := h.chain.apart hp hj (by omega)
  have hpx : pe.adr ≠ x := fun hx => h.notEl hp hx.symm
  have hgp : g ≠ pe.adr := fun hx => h.rowNotEl hp (by rw [← hx]; rfl)
  have hpB := (h.low pe (List.mem_of_getElem? hp)).1
  obtain ⟨⟨f0, f1, f2, f3⟩, v0, v1, v2, v3⟩ := bk4 (h.chain.el ((i + 1) + 1) f hk)
  have HBF := Lib.hid (h.chain.el ((i + 1) + 1) f hk)
  have hfe : f.adr ≠ e.adr := h.chain.apart hk hj (by omega)
  have hfx : f.adr ≠ x := fun hx => h.notEl hk hx.symm
  have hgf : g ≠ f.adr := fun hx => h.rowNotEl hk (by rw [← hx]; rfl)
  have hfB := (h.low f (List.mem_of_getElem? hk)).1
  have hpf : pe.adr ≠ f.adr := h.chain.apart hp hk (by omega)
  have HKB := Lib.hid h.tBox
  have HKR := Lib.hid (h.tRow g rfl)
  have HKP := Lib.hid (h.tEl hp)
  have HKF := Lib.hid (h.tEl hk)
  generalize (adrOf E e.num).map (fun a => (⟨a, 0, none⟩ : Addr)) = r at gc
  clear h hj hk hp
  generalize e.adr = ea at *
  generalize e.num = nm at *
  generalize pe.adr = pa at *
  generalize f.adr = fa at *
  have hxe : x ≠ ea := hex.symm
  have heg : ea ≠ g := hge.symm
  have hep : ea ≠ pa := hpe.symm
  have hxp : x ≠ pa := hpx.symm
  have hpg : pa ≠ g := hgp.symm
  have hef : ea ≠ fa := hfe.symm
  have hxf : x ≠ fa := hfx.symm
  have hfg : fa ≠ g := hgf.symm
  have hfp : fa ≠ pa := hpf.symm
  obtain ⟨n, hnn⟩ : ∃ n, n = E.length := ⟨_, rfl⟩
  rw [← hnn] at c2 hn HU HBX
  clear hnn
  have hnI : (nm : Int) < (made : Int) := by omega
  go_enter Try.func22, Try.ntmps22
  go_wp2_with fail
  refine HF.out.mono ?_
  rintro er w1 ⟨rfl, rfl⟩
  go_wp2_with fail
  go_still_tail 9, (by kernel_rfl)
  repeat still_step
  try refine wpStill_nil ?_
  change wpList _ _ _ _ _ (World.drew _)
  go_wp2_with fail
  obtain ⟨W1, hW1⟩ : ∃ W1, W1 = (w.setCell ⟨pa, 3, none⟩ (.pointer (some ⟨fa, 0, none⟩))).drew := ⟨_, rfl⟩
  rw [← hW1]
  have hx1 := (show W1.heap[x]? = w.heap[x]? from by rw [hW1]; exact heap_off hxp).trans HBX.out
  have he1 := (show W1.heap[ea]? = w.heap[ea]? from by rw [hW1]; exact heap_off hep).trans HBE.out
  have hf1 := (show W1.heap[fa]? = w.heap[fa]? from by rw [hW1]; exact heap_off hfp).trans HBF.out
  have hg1 : W1.heap[g]? = w.heap[g]? := by rw [hW1]; exact heap_off hgp
  have gc1 := (World.cell?_of_block (a := ⟨g, nm, none⟩) hg1).trans gc
  have fr1 := (World.frozen?_of_block (a := ⟨g, nm, none⟩) hg1).trans fr
  clear c0 c1 c2 c3 t0 t1 t2 t3 e0 e1 e2 e3 f0 f1 f2 f3 v0 v1 v2 v3 gc fr hg1 p0 p1 p2 p3 u0 u1 u2 u3
  obtain ⟨⟨c0, c1, c2, c3⟩, t0, t1, t2, t3⟩ := bk4 hx1
  obtain ⟨⟨e0, e1, e2, e3⟩, _, _, _, _⟩ := bk4 he1
  obtain ⟨⟨f0, f1, f2, f3⟩, v0, v1, v2, v3⟩ := bk4 hf1
  have HW1 := Lib.hid hW1
  clear hW1 hx1 he1 hf1
  go_still_tail 9, (by kernel_rfl)
  repeat still_step
  try refine wpStill_nil ?_
  change wpList _ _ _ _ _ (World.drew _)
  go_wp2_with fail
  go_ret
  rw [HW1.out]
  exact ⟨rfl, HU.out.drewN 2, bdN (((((Below.refl _ _).setCell (p := ⟨pa, 3, none⟩) hpB _).setCell (p := ⟨fa, 2, none⟩) hfB _).setCell (p := ⟨g, nm, none⟩) hgB _).setCell (p := ⟨x, 2, none⟩) hB _) 2, (((((Kp.refl w).set (b := pa) (i := 3) HKP.out).set (b := fa) (i := 2) HKF.out).set (b := g) (i := nm) HKR.out).set (b := x) (i := 2) HKB.out).drewN 2⟩
end Go.Proofs.Ytbmaijkpcpbgjaa
