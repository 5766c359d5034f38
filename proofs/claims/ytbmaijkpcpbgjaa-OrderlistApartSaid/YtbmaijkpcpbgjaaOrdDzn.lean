/- Walks: Delete, way zn. By genord2.py. -/
import Derived.Test.YtbmaijkpcpbgjaaOrdL
namespace Go.Proofs.Ytbmaijkpcpbgjaa
open Go.RowKit
set_option maxRecDepth 100000
set_option maxHeartbeats 8000000 in
theorem ol_del_zn (B x g cap made : Nat) (mv : Int) (E : List El) (w : World) (h : OL B x (some ⟨g, 0, none⟩) cap made mv E w) (hm : made ≤ 2000) (hB : B ≤ x) (e : El) (hj : E[0]? = some e) (hk : E.length = 0 + 1) (hn : E.length ≤ 2000) :
    Calls Try.prog 22 #[.pointer (some ⟨x, 0, none⟩), .int .i64 (e.num : Int)] w fun er w' => er = .returned (.int .i64 0) ∧ OL B x (some ⟨g, 0, none⟩) cap made mv (E.eraseIdx 0) w' ∧ Below B w w' ∧ Kp w w' := by
  have HF := Lib.hid (ol_find B x cap made _ mv E (e.num : Int) w h (by omega))
  rw [show fP E (e.num : Int) = some ⟨e.adr, 0, none⟩ from by unfold fP; rw [if_neg (by omega), show ((e.num : Int)).toNat = e.num by omega, adrOf_some h.chain.nums hj]; rfl] at HF
  have HO := Lib.hid h
  have hnm := (h.low e (List.mem_of_getElem? hj)).2
  obtain ⟨⟨c0, c1, c2, c3⟩, t0, t1, t2, t3⟩ := bk4 h.box
  obtain ⟨⟨e0, e1, e2, e3⟩, _, _, _, _⟩ := bk4 (h.chain.el 0 e hj)
  have HBX := Lib.hid h.box
  have HBE := Lib.hid (h.chain.el 0 e hj)
  have hgx : g ≠ x := fun hx => h.rowNotBox (by rw [← hx]; rfl)
  have hxg : x ≠ g := hgx.symm
  have hge : g ≠ e.adr := fun hx => h.rowNotEl hj (by rw [← hx]; rfl)
  have hex : e.adr ≠ x := fun hx => h.notEl hj hx.symm
  have fr := h.row.frozenAt e.num
  have gc := h.row.cellAt e.num (by omega)
  rw [rowE_get E hnm] at gc
  have hgB : B ≤ g := (h.row.lt g rfl).1
  have HU := Lib.hid (h.unlink hj)
  rw [show prvE E 0 = none from rfl] at e2
  rw [show ptrE E (0 + 1) = none from ptrE_none (by omega)] at e3
  rw [show prvE E 0 = none from rfl] at HBE
  rw [show ptrE E (0 + 1) = none from ptrE_none (by omega)] at HBE
  rw [show uPre E 0 x w = (w.setCell ⟨x, 1, none⟩ (.pointer (none))) from by show w.setCell ⟨x, 1, none⟩ (.pointer (ptrE E 1)) = _; rw [show ptrE E 1 = none from ptrE_none (by omega)]] at HU
  rw [show ∀ U, uNxt E 0 U = U from fun U => by unfold uNxt; rw [List.getElem?_eq_none (by omega)]] at HU
  have HKB := Lib.hid h.tBox
  have HKR := Lib.hid (h.tRow g rfl)
  generalize (adrOf E e.num).map (fun a => (⟨a, 0, none⟩ : Addr)) = r at gc
  clear h hj hk
  generalize e.adr = ea at *
  generalize e.num = nm at *
  have hxe : x ≠ ea := hex.symm
  have heg : ea ≠ g := hge.symm
  obtain ⟨n, hnn⟩ : ∃ n, n = E.length := ⟨_, rfl⟩
  rw [← hnn] at c2 hn HU HBX
  clear hnn
  have hnI : (nm : Int) < (made : Int) := by omega
  go_enter Try.func22, Try.ntmps22
  go_wp2_with fail
  refine HF.out.mono ?_
  rintro er w1 ⟨rfl, rfl⟩
  go_wp2_with fail
  go_ret
  exact ⟨rfl, HU.out, (((Below.refl _ _).setCell (p := ⟨x, 1, none⟩) hB _).setCell (p := ⟨g, nm, none⟩) hgB _).setCell (p := ⟨x, 2, none⟩) hB _, ((((Kp.refl w).set (b := x) (i := 1) HKB.out).set (b := g) (i := nm) HKR.out).set (b := x) (i := 2) HKB.out)⟩
end Go.Proofs.Ytbmaijkpcpbgjaa
