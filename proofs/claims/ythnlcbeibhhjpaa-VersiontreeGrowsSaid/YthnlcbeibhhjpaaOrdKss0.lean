/- Walks: InsertAfter, way ss0 (z: at the front, s: behind an element; n: at the end, s: ahead of an element; 1: with a spread). By genord.py. -/
import Derived.Test.YthnlcbeibhhjpaaOrdJ
namespace Go.Proofs.Ythnlcbeibhhjpaa
open Go.RowKit
set_option maxRecDepth 100000
set_option maxHeartbeats 8000000 in
theorem ol_ins_ss0 (B x cap made : Nat) (G : Option Addr) (mv : Int) (E : List El) (w : World) (h : OL B x G cap made mv E w) (hm : made < 2000) (hB : B ≤ x) (j : Nat) (e : El) (hj : E[j]? = some e) (f : El) (hk : E[(j + 1)]? = some f) (hn : E.length ≤ 1999) (_hmv : 0 ≤ mv ∧ mv ≤ 1000000000) (g0 : 2 ≤ hiE E (j + 1) - loE E (j + 1)) (g1 : -1 ≤ loE E (j + 1)) (g2 : hiE E (j + 1) ≤ 1099511627777) :
    Calls Try.prog 46 #[.pointer (some ⟨x, 0, none⟩), .int .i64 (e.num : Int)] w (InsP B x made mv E (j + 1) w) := by
  have HF := Lib.hid (ol_find B x cap made G mv E (e.num : Int) w h (by omega))
  rw [show fP E (e.num : Int) = some ⟨e.adr, 0, none⟩ from by unfold fP; rw [if_neg (by omega), show ((e.num : Int)).toNat = e.num by omega, adrOf_some h.chain.nums hj]; rfl] at HF
  have hkl : (j + 1) ≤ E.length := (by have := (List.getElem?_eq_some_iff.1 hj).1; omega)
  have HG := Lib.hid (ol_gap B x cap made (j + 1) G mv E w h hkl)
  have hpv : prvE E (j + 1) = some ⟨e.adr, 0, none⟩ := ptrE_some hj
  rw [hpv] at HG
  obtain ⟨⟨c0, c1, c2, c3⟩, t0, t1, t2, t3⟩ := bk4 h.box
  have hmb : ((made : Int) == 2000) = false := by simp; omega
  have dg : decide (hiE E (j + 1) - loE E (j + 1) < 2) = false := decide_eq_false (by omega)
  obtain ⟨lo, hlo⟩ : ∃ lo, lo = loE E (j + 1) := ⟨_, rfl⟩
  obtain ⟨hi, hhi⟩ : ∃ hi, hi = hiE E (j + 1) := ⟨_, rfl⟩
  rw [← hlo, ← hhi] at HG
  rw [← hlo, ← hhi] at dg
  rw [← hlo, ← hhi] at g0
  rw [← hlo] at g1
  rw [← hhi] at g2
  have HLO := Lib.hid hlo
  have HHI := Lib.hid hhi
  have HN := Lib.hid hk
  have HJ := Lib.hid hj
  have HO := Lib.hid h
  have HJ0 := Lib.hid hj
  have HK0 := Lib.hid hk
  have HPV := Lib.hid hpv
  obtain ⟨i1, hi1, hy0, hy1, hy2⟩ := info_parts Try.infoPtr
  obtain ⟨d, hd⟩ : ∃ d, d = hi - lo := ⟨_, rfl⟩
  have q1 : IntKind.i64.wrap (hi - lo) = d := by rw [hd]; exact IntWalk.i64_in _ (by omega)
  have q2 : IntKind.i64.wrap (d.tdiv 2) = d / 2 := by rw [Int.tdiv_eq_ediv_of_nonneg (by omega)]; exact IntWalk.i64_in _ (by omega)
  have q4 : d.tdiv 2 = d / 2 := Int.tdiv_eq_ediv_of_nonneg (by omega)
  have hd1 : 0 ≤ d ∧ d ≤ 1099511627778 := by omega
  have q0 : (0 : Int) ≤ hi - lo := by omega
  have dg2 : decide (d < 2) = false := decide_eq_false (by omega)
  have HD := Lib.hid hd
  clear h hk hpv hlo hhi hd hj g0
  obtain ⟨pa, hpa⟩ : ∃ pa, pa = e.adr := ⟨_, rfl⟩
  rw [← hpa] at HF HG HPV
  have HPA := Lib.hid hpa
  clear hpa
  go_enter Try.func46, Try.ntmps46
  go_wp2_with fail
  refine HF.out.mono ?_
  rintro er w1 ⟨rfl, rfl⟩
  go_wp2_with fail
  refine HG.out.mono ?_
  rintro er w1 ⟨rfl, rfl⟩
  go_wp2_with fail
  refine HG.out.mono ?_
  rintro er w1 ⟨rfl, rfl⟩
  clear HG HF
  clear c0 c1 c2 c3 t0 t1 t2 t3
  obtain ⟨wd, hwd⟩ : ∃ wd, wd = w.drew := ⟨_, rfl⟩
  have HOD : Hid (OL B x G cap made mv E wd) := Lib.hid (by rw [hwd]; exact HO.out.drewN 1)
  have HWD := Lib.hid hwd
  have HBW : Hid (Below B w wd) := Lib.hid (by rw [hwd]; exact bdN (Below.refl _ _) 1)
  have hxl : x < wd.heap.size := bdLt HOD.out.box
  have HAq := Lib.hid (ol_after_q B x cap made (j + 1) G mv E wd HOD.out hkl)
  rw [HPV.out] at HAq
  have hq : ptrE E (j + 1) = some ⟨f.adr, 0, none⟩ := (ptrE_some HN.out).trans rfl
  rw [hq] at HAq
  have HQ := Lib.hid hq
  clear hq hwd
  have HAW : Hid (Calls Try.prog 51 #[.pointer (some ⟨x, 0, none⟩), .pointer (some ⟨pa, 0, none⟩)] (w.drewN 1) fun er w' => er = .returned (.pointer (some ⟨f.adr, 0, none⟩)) ∧ w' = w.drewN 1) := Lib.hid (by have := HAq.out; rw [HWD.out] at this; exact this)
  clear HAq
  obtain ⟨⟨c0, c1, c2, c3⟩, t0, t1, t2, t3⟩ := bk4 HO.out.box
  go_wp2_with fail
  go_still_tail 16, (by kernel_rfl)
  still_call HAW.out
  repeat still_step
  refine wpStill_nil ?_
  change wpList _ _ _ _ _ w.drew
  rw [← HWD.out]
  clear c0 c1 c2 c3 t0 t1 t2 t3 q1 q2 q4
  obtain ⟨⟨c0, c1, c2, c3⟩, t0, t1, t2, t3⟩ := bk4 HOD.out.box
  have hpx0 := HOD.out.notEl HJ.out
  obtain ⟨⟨p0, p1, p2, p3⟩, u0, u1, u2, u3⟩ := bk4 (HOD.out.chain.el j _ HJ.out)
  have hpl := HOD.out.chain.lt (List.mem_of_getElem? HJ.out)
  rw [← HPA.out] at hpx0 p0 p1 p2 p3 u0 u1 u2 u3 hpl
  have hpx : pa ≠ x := fun hh => hpx0 hh.symm
  have hfx0 := HOD.out.notEl HN.out
  obtain ⟨⟨f0, f1, f2, f3⟩, v0, v1, v2, v3⟩ := bk4 (HOD.out.chain.el (j + 1) _ HN.out)
  have hfl := HOD.out.chain.lt (List.mem_of_getElem? HN.out)
  have hpf : pa ≠ f.adr := by
    have hh := HOD.out.chain.apart HJ.out HN.out (by omega)
    rw [← HPA.out] at hh
    exact hh
  obtain ⟨fa, hfa⟩ : ∃ fa, fa = f.adr := ⟨_, rfl⟩
  rw [← hfa] at hfx0 f0 f1 f2 f3 v0 v1 v2 v3 hfl HQ hpf ⊢
  have hfx : fa ≠ x := fun hh => hfx0 hh.symm
  have hfp : fa ≠ pa := fun hh => hpf hh.symm
  have HFA := Lib.hid hfa
  clear hfa
  have hlk := HOD.out.link_chain hkl (lo + d / 2)
  have hlb2 := HOD.out.link_box hkl (lo + d / 2)
  have hV : preW E (j + 1) wd.heap.size x (nxtW E (j + 1) wd.heap.size (newW E (j + 1) made (lo + d / 2) wd)) = (((wd.setCell ⟨fa, 2, none⟩ (.pointer (some ⟨wd.heap.size, 0, none⟩))).setCell ⟨pa, 3, none⟩ (.pointer (some ⟨wd.heap.size, 0, none⟩))).alloc (.cells #[.int .i64 made, .int .i64 (lo + d / 2), .pointer (some ⟨pa, 0, none⟩), .pointer (some ⟨fa, 0, none⟩)] 84)) := by
    unfold newW
    rw [HPV.out, HQ.out]
    rw [show ∀ U, nxtW E (j + 1) wd.heap.size U = U.setCell ⟨fa, 2, none⟩ (.pointer (some ⟨wd.heap.size, 0, none⟩)) from fun U => by unfold nxtW; rw [HN.out]; show U.setCell ⟨f.adr, 2, none⟩ _ = _; rw [← HFA.out]]
    rw [set_alloc hfl]
    rw [show ∀ U, preW E (j + 1) wd.heap.size x U = U.setCell ⟨pa, 3, none⟩ (.pointer (some ⟨wd.heap.size, 0, none⟩)) from fun U => by show (match E[j]? with | some f => U.setCell ⟨f.adr, 3, none⟩ (.pointer (some ⟨wd.heap.size, 0, none⟩)) | none => U) = _; rw [HJ.out]; show U.setCell ⟨e.adr, 3, none⟩ _ = _; rw [← HPA.out]]
    exact set_alloc (by simpa using hpl)
  rw [hV] at hlk hlb2
  have hrow : (((wd.setCell ⟨fa, 2, none⟩ (.pointer (some ⟨wd.heap.size, 0, none⟩))).setCell ⟨pa, 3, none⟩ (.pointer (some ⟨wd.heap.size, 0, none⟩))).alloc (.cells #[.int .i64 made, .int .i64 (lo + d / 2), .pointer (some ⟨pa, 0, none⟩), .pointer (some ⟨fa, 0, none⟩)] 84)).ownsRow B 78 1 (.slice G made cap) made (rowE E made) := (ownsRow_setCell_other (ownsRow_setCell_other HOD.out.row (by have hh := HOD.out.rowNotEl HN.out; rw [← HFA.out] at hh; simpa using hh) (.pointer (some ⟨wd.heap.size, 0, none⟩))) (by have hh := HOD.out.rowNotEl HJ.out; rw [← HPA.out] at hh; simpa using hh) (.pointer (some ⟨wd.heap.size, 0, none⟩))).alloc _
  have HLK := Lib.hid hlk
  have HLX := Lib.hid hlb2
  have HRW := Lib.hid hrow
  have hel0 : (((wd.setCell ⟨fa, 2, none⟩ (.pointer (some ⟨wd.heap.size, 0, none⟩))).setCell ⟨pa, 3, none⟩ (.pointer (some ⟨wd.heap.size, 0, none⟩))).alloc (.cells #[.int .i64 made, .int .i64 (lo + d / 2), .pointer (some ⟨pa, 0, none⟩), .pointer (some ⟨fa, 0, none⟩)] 84)).heap[wd.heap.size]? = some (.cells #[.int .i64 made, .int .i64 (lo + d / 2), .pointer (some ⟨pa, 0, none⟩), .pointer (some ⟨fa, 0, none⟩)] 84 (0, 0)) := by
    have hh := bdNew ((wd.setCell ⟨fa, 2, none⟩ (.pointer (some ⟨wd.heap.size, 0, none⟩))).setCell ⟨pa, 3, none⟩ (.pointer (some ⟨wd.heap.size, 0, none⟩))) (.cells #[.int .i64 made, .int .i64 (lo + d / 2), .pointer (some ⟨pa, 0, none⟩), .pointer (some ⟨fa, 0, none⟩)] 84)
    rw [show ((wd.setCell ⟨fa, 2, none⟩ (.pointer (some ⟨wd.heap.size, 0, none⟩))).setCell ⟨pa, 3, none⟩ (.pointer (some ⟨wd.heap.size, 0, none⟩))).heap.size = wd.heap.size by simp] at hh
    exact hh
  have HEL := Lib.hid hel0
  have hszB : B ≤ wd.heap.size := by omega
  clear hlk hlb2 hrow hel0 hV
  go_wp2_with (at_builtin; refine wpList_append_lies _ rfl (.tmp 90) (.tmp 92) 77 rfl B 78 i1 _ 1 8 Try.underlying77 hi1 hy0 hy1 hy2 rfl (by decide) (.slice G made cap) made (rowE E made) rfl (HRW.out.alloc _) ⟨wd.heap.size + 1, 0, none⟩ 1 1 [.pointer (some ⟨wd.heap.size, 0, none⟩)] rfl rfl ?e1 (by simp [Value.oneCell']) (by omega) (by unfold maxLen; omega) (by omega) (by simp; omega) (wd.heap.size + 1 + 1) (by simp) ?_)
  case e1 =>
    refine World.news_of_block (cs := #[.pointer (some ⟨wd.heap.size, 0, none⟩)]) (t := 78) (fr := (0, 0)) ?_
    have hbn := bdNew (((wd.setCell ⟨fa, 2, none⟩ (.pointer (some ⟨wd.heap.size, 0, none⟩))).setCell ⟨pa, 3, none⟩ (.pointer (some ⟨wd.heap.size, 0, none⟩))).alloc (.cells #[.int .i64 made, .int .i64 (lo + d / 2), .pointer (some ⟨pa, 0, none⟩), .pointer (some ⟨fa, 0, none⟩)] 84)) (.cells #[.pointer (some ⟨wd.heap.size, 0, none⟩)] 78)
    rw [show (((wd.setCell ⟨fa, 2, none⟩ (.pointer (some ⟨wd.heap.size, 0, none⟩))).setCell ⟨pa, 3, none⟩ (.pointer (some ⟨wd.heap.size, 0, none⟩))).alloc (.cells #[.int .i64 made, .int .i64 (lo + d / 2), .pointer (some ⟨pa, 0, none⟩), .pointer (some ⟨fa, 0, none⟩)] 84)).heap.size = wd.heap.size + 1 by simp] at hbn
    exact hbn
  intro g2 cap2 W6 hown6 hgrow6 hat6 hlt6
  have hnm : made ∉ E.map El.num := fun hmm => by
    obtain ⟨e0, he0, hem⟩ := List.mem_map.1 hmm
    have h1 := (HOD.out.low e0 he0).2
    have h2 : e0.num = made := hem
    omega
  have HFIN := Lib.hid (OL.finish HLK.out HLX.out HRW.out hgrow6 (by rw [rowE_ins hnm]; exact hown6) (fun e0 he0 => by
    rcases (mem_insE _ _ _ _).1 he0 with rfl | h
    · exact ⟨hszB, by show made < made + 1; omega⟩
    · have := HOD.out.low e0 h; exact ⟨this.1, by omega⟩) (insE_len _ _ hkl))
  have hx6 := OL.keepW HRW.out hgrow6 HLX.out (by decide)
  have he6 := OL.keepW HRW.out hgrow6 HEL.out (by decide)
  obtain ⟨⟨x0, x1, x2, x3⟩, y0, y1, y2, y3⟩ := bk4 hx6
  obtain ⟨⟨n0, n1, n2, n3⟩, m0, _, _, _⟩ := bk4 he6
  have hsz6 := hgrow6.size
  have HB6 : Hid (Below B w W6) := Lib.hid (by
    refine ((((HBW.out.setCell (p := ⟨fa, 2, none⟩) (by have hh := (HOD.out.low _ (List.mem_of_getElem? HN.out)).1; rw [← HFA.out] at hh; exact hh) _).setCell (p := ⟨pa, 3, none⟩) (by have hh := (HOD.out.low _ (List.mem_of_getElem? HJ.out)).1; rw [← HPA.out] at hh; exact hh) _).alloc (by simpa using hszB) _).alloc (by simp; omega) _).grown hgrow6 (by simp; omega) (fun k' hk' => ?_)
    exact (HRW.out.lt k' hk').1)
  have HKD : Hid (Kp w wd) := Lib.hid (by rw [HWD.out]; exact (Kp.refl w).drewN 1)
  have HK6 : Hid (Kp w W6) := Lib.hid (((((HKD.out.set (b := fa) (i := 2) (v := .pointer (some ⟨wd.heap.size, 0, none⟩)) (by rw [HFA.out]; exact HO.out.tEl HK0.out)).set (b := pa) (i := 3) (v := .pointer (some ⟨wd.heap.size, 0, none⟩)) (by rw [HPA.out]; exact HO.out.tEl HJ0.out)).alloc _).alloc _).grown hgrow6 HO.out.tRow)
  have hxe : x ≠ wd.heap.size := by omega
  have hex : wd.heap.size ≠ x := by omega
  simp at hsz6
  clear hown6 hgrow6 hat6 hlt6 hx6 he6 hnm c0 c1 c2 c3 t0 t1 t2 t3 x1 x3 y1 y3 n1 n2 n3 p0 p1 p2 p3 u0 u1 u2 u3 f0 f1 f2 f3 v0 v1 v2 v3
  go_wp2_with fail
  go_ret2
  refine ⟨rfl, ⟨wd.heap.size, some ⟨g2, 0, none⟩, cap2, hszB, ?_⟩, (HB6.out.setCell (p := ⟨x, 0, none⟩) hB _).setCell (p := ⟨x, 2, none⟩) hB _, (HK6.out.set (b := x) (i := 0) HO.out.tBox).set (b := x) (i := 2) HO.out.tBox⟩
  rw [← HLO.out, ← HHI.out, ← HD.out]
  exact HFIN.out
end Go.Proofs.Ythnlcbeibhhjpaa
