/- Walks: Delete, way sn. By genord2.py. -/
import Derived.Test.YtbmaijkpcpbgjaaOrdL
namespace Go.Proofs.Ytbmaijkpcpbgjaa
open Go.RowKit
set_option maxRecDepth 100000
set_option maxHeartbeats 8000000 in
theorem ol_del_sn (B x g cap made : Nat) (mv : Int) (E : List El) (w : World) (h : OL B x (some ⟨g, 0, none⟩) cap made mv E w) (hm : made ≤ 2000) (hB : B ≤ x) (e : El) (i : Nat) (pe : El) (hp : E[i]? = some pe) (hj : E[(i + 1)]? = some e) (hk : E.length = (i + 1) + 1) (hn : E.length ≤ 2000) :
    Calls Try.prog 22 #[.pointer (some ⟨x, 0, none⟩), .int .i64 (e.num : Int)] w fun er w' => er = .returned (.int .i64 0) ∧ OL B x (some ⟨g, 0, none⟩) cap made mv (E.eraseIdx (i + 1)) w' ∧ Below B w w' ∧ Kp w w' := by
  have HF := Lib.hid (ol_find B x cap made _ mv E (e.num : Int) w h (by omega))
  rw [show fP E (e.num : Int) = some ⟨e.adr, 0, none⟩ from by unfold fP; rw [if_neg (by omega), show ((e.num : Int)).toNat = e.num by omega, adrOf_some h.chain.nums hj]; rfl] at HF
  have HO := Lib.hid h
  have hnm := (h.low e (List.mem_of_getElem? hj)).2
  obtain ⟨⟨c0, c1, c2, c3⟩, t0, t1, t2, t3⟩ := bk4 h.box
  obtain ⟨⟨e0, e1, e2, e3⟩, _, _, _, _⟩ := bk4 (h.chain.el (i + 1) e hj)
  have HBX := Lib.hid h.box
  have HBE := Lib.hid (h.chain.el (i + 1) e hj)
  have hgx : g ≠ x := fun hx => h.rowNotBox (by rw [← hx]; rfl)
  have hxg : x ≠ g := hgx.symm
  have hge : g ≠ e.adr := fun hx => h.rowNotEl hj (by rw [← hx]; rfl)
  have hex : e.adr ≠ x := fun hx => h.notEl hj hx.symm
  have fr := h.row.frozenAt e.num
  have gc := h.row.cellAt e.num (by omega)
  rw [rowE_get E hnm] at gc
  have hgB : B ≤ g := (h.row.lt g rfl).1
  have HU := Lib.hid (h.unlink hj)
  rw [show prvE E (i + 1) = some ⟨pe.adr, 0, none⟩ from ptrE_some hp] at e2
  rw [show ptrE E ((i + 1) + 1) = none from ptrE_none (by omega)] at e3
  rw [show prvE E (i + 1) = some ⟨pe.adr, 0, none⟩ from ptrE_some hp] at HBE
  rw [show ptrE E ((i + 1) + 1) = none from ptrE_none (by omega)] at HBE
  rw [show uPre E (i + 1) x w = (w.setCell ⟨pe.adr, 3, none⟩ (.pointer (none))) from by show (match E[i]? with | some f => w.setCell ⟨f.adr, 3, none⟩ (.pointer (ptrE E (i + 2))) | none => w) = _; rw [hp]; show w.setCell ⟨pe.adr, 3, none⟩ (.pointer (ptrE E (i + 2))) = _; rw [show ptrE E (i + 2) = none from ptrE_none (by omega)]] at HU
  rw [show ∀ U, uNxt E (i + 1) U = U from fun U => by unfold uNxt; rw [List.getElem?_eq_none (by omega)]] at HU
  obtain ⟨⟨p0, p1, p2, p3⟩, u0, u1, u2, u3⟩ := bk4 (h.chain.el i pe hp)
  have hpe : pe.adr ≠ e.adr := h.chain.apart hp hj (by omega)
  have hpx : pe.adr ≠ x := fun hx => h.notEl hp hx.symm
  have hgp : g ≠ pe.adr := fun hx => h.rowNotEl hp (by rw [← hx]; rfl)
  have hpB := (h.low pe (List.mem_of_getElem? hp)).1
  have HKB := Lib.hid h.tBox
  have HKR := Lib.hid (h.tRow g rfl)
  have HKP := Lib.hid (h.tEl hp)
  generalize (adrOf E e.num).map (fun a => (⟨a, 0, none⟩ : Addr)) = r at gc
  clear h hj hk hp
  generalize e.adr = ea at *
  generalize e.num = nm at *
  generalize pe.adr = pa at *
  have hxe : x ≠ ea := hex.symm
  have heg : ea ≠ g := hge.symm
  have hep : ea ≠ pa := hpe.symm
  have hxp : x ≠ pa := hpx.symm
  have hpg : pa ≠ g := hgp.symm
  obtain ⟨n, hnn⟩ : ∃ n, n = E.length := ⟨_, rfl⟩
  rw [← hnn] at c2 hn HU HBX
  clear hnn
  have hnI : (nm : Int) < (made : Int) := by omega
  go_enter Try.func22, Try.ntmps22
  go_wp2_with fail
  refine HF.out.mono ?_
  rintro er w1 ⟨rfl, rfl⟩
  go_wp2_with fail
  go_still_tail 9, (by kernel_rfl)
  repeat still_step
  try refine wpStill_nil ?_
  change wpList _ _ _ _ _ (World.drew _)
  go_wp2_with fail
  go_ret
  exact ⟨rfl, HU.out.drewN 1, bdN ((((Below.refl _ _).setCell (p := ⟨pa, 3, none⟩) hpB _).setCell (p := ⟨g, nm, none⟩) hgB _).setCell (p := ⟨x, 2, none⟩) hB _) 1, ((((Kp.refl w).set (b := pa) (i := 3) HKP.out).set (b := g) (i := nm) HKR.out).set (b := x) (i := 2) HKB.out).drewN 1⟩
end Go.Proofs.Ytbmaijkpcpbgjaa
