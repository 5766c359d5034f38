/- An index of versions: Branch. -/
import Derived.Test.YthnlcbeibhhjpaaVtH
namespace Go.Proofs.Ythnlcbeibhhjpaa
open Go.RowKit
set_option maxRecDepth 100000
/-- What Branch leaves. -/
def BrQ (B x pa nv : Nat) (Vs : List Vn) (w : World) (er : Ending) (w' : World) : Prop :=
  er = .returned (.tuple #[.int .i64 nv, .int .i64 0]) ∧ (∃ d j : Int, IxM B x (Vs ++ [((pa : Int), d, j)]) w') ∧ Below B w w' ∧ Kv w w'
theorem br_of {B x tl pa j nv : Nat} {mv : Int} {G : Option Addr} {cap : Nat} {Vs : List Vn} {E' E : List El} {u : Vn} {w w' : World} {kk : Nat} (hl : Vs.length = nv) (hv : VsOk Vs) (ht : TourOk Vs (ords E)) (hu : Vs[pa]? = some u) (hj : AncV Vs j pa) (hk : (ords E)[kk]? = some (2 * (pa : Int)))
    (h : IxR B x tl G cap (nv + 1) (2 * nv + 2) mv E' (Vs ++ [((pa : Int), u.2.1 + 1, (j : Int))]) w') (he : ords E' = insE (insE (ords E) (kk + 1) ((2 * nv : Nat) : Int)) (kk + 1 + 1) ((2 * nv + 1 : Nat) : Int)) (hb : Below B w w') (hkv : Kv w w') : BrQ B x pa nv Vs w (.returned (.tuple #[.int .i64 nv, .int .i64 0])) w' := by
  have hpl := (List.getElem?_eq_some_iff.1 hu).1
  have hln : (Vs ++ [((pa : Int), u.2.1 + 1, (j : Int))]).length = nv + 1 := by simp [hl]
  refine ⟨rfl, ⟨u.2.1 + 1, (j : Int), ⟨⟨tl, G, cap, mv, E', ?_, ?_⟩, hv.push hu hj⟩⟩, hb, hkv⟩
  · rw [hln, show 2 * (nv + 1) = 2 * nv + 2 by omega]; exact h
  · have := ht.push hv (v := ((pa : Int), u.2.1 + 1, (j : Int))) rfl hpl hk
    rw [hl] at this
    rw [he]
    push_cast
    exact this
set_option maxHeartbeats 16000000 in
theorem branch_yes (B x pa nv : Nat) (Vs : List Vn) (w : World) (h : IxM B x Vs w) (hl : Vs.length = nv) (hn : nv ≤ 900) (hpa : pa < nv) (hBw : B ≤ w.heap.size) :
    Calls Try.prog 33 #[.pointer (some ⟨x, 0, none⟩), .int .i64 (pa : Int)] w (BrQ B x pa nv Vs w) := by
  obtain ⟨⟨tl, G, cap, mv, E, hr, ht⟩, hok⟩ := h
  rw [hl] at hr
  obtain ⟨g, cap', hvv, hg, hgl⟩ := hr.row.form (by omega)
  have hG : G = some ⟨g, 0, none⟩ := by injection hvv
  subst hG
  -- the three versions
  obtain ⟨u, hu⟩ : ∃ u, Vs[pa]? = some u := ⟨Vs[pa]'(by omega), List.getElem?_eq_getElem _⟩
  obtain ⟨j, hj, hjp, hja⟩ := hok.jmp hu
  obtain ⟨uj, huj⟩ : ∃ u, Vs[j]? = some u := ⟨Vs[j]'(by omega), List.getElem?_eq_getElem _⟩
  obtain ⟨k, hk, hkj, hka⟩ := hok.jmp huj
  obtain ⟨uk, huk⟩ : ∃ u, Vs[k]? = some u := ⟨Vs[k]'(by omega), List.getElem?_eq_getElem _⟩
  have hd1 := hok.dep pa u hu
  have hd2 := hok.dep j uj huj
  have hd3 := hok.dep k uk huk
  have row : ∀ (i : Nat) (v : Vn), Vs[i]? = some v → w.cell? ⟨g, i * 3, none⟩ = some (.int .i64 v.1) ∧ w.cell? ⟨g, i * 3 + 1, none⟩ = some (.int .i64 v.2.1) ∧ w.cell? ⟨g, i * 3 + 2, none⟩ = some (.int .i64 v.2.2) := fun i v hv => by
    have hi := (List.getElem?_eq_some_iff.1 hv).1
    obtain ⟨h1, h2, h3⟩ := vsC_at Vs i v hv
    exact ⟨(hr.row.cellAt _ (by omega)).trans h1, (hr.row.cellAt _ (by omega)).trans h2, (hr.row.cellAt _ (by omega)).trans h3⟩
  obtain ⟨x0, x1, x2⟩ := row pa u hu
  obtain ⟨y0, y1, y2⟩ := row j uj huj
  obtain ⟨z0, z1, z2⟩ := row k uk huk
  obtain ⟨⟨b0, b1⟩, _, _⟩ := bk2 hr.box
  have hxl := bdLt hr.box
  rw [hj] at x2
  rw [hk] at y2
  obtain ⟨kk, hkk⟩ := ht.at (x := 2 * (pa : Int)) (by omega) (by omega)
  obtain ⟨ee, hee, hen⟩ := ord_at hkk
  have hpk : PosK E (2 * (pa : Int)) (kk + 1) := Or.inr ⟨kk, ee, hee, hen.symm, rfl⟩
  have HR := Lib.hid hr
  have HT := Lib.hid ht
  have HOK := Lib.hid hok
  have HU := Lib.hid hu
  have HL := Lib.hid hl
  have HKK := Lib.hid hkk
  have HPK := Lib.hid hpk
  have HJA := Lib.hid hja
  have HKA := Lib.hid (hka.trans hja)
  have hw1 : Below w.heap.size w (w.alloc (.cells #[.int .i64 (pa : Int)] 3)) := (Below.refl _ _).alloc (Nat.le_refl _) _
  have HCK := Lib.hid (ixCheck_yes (fun _ => True) x tl nv cap 1 1 (some ⟨g, 0, none⟩) (some ⟨w.heap.size, 0, none⟩) [(pa : Int)] (w.alloc (.cells #[.int .i64 (pa : Int)] 3)) (hr.below hw1).box rfl (by omega) (fun _ => ⟨w.heap.size, 0, rfl, trivial, fun i y hi => by
    have hi0 : i = 0 := by have := (List.getElem?_eq_some_iff.1 hi).1; simpa using this
    subst hi0
    have : y = (pa : Int) := by simpa using hi.symm
    rw [this]
    exact (bk1 (bdNew w _)).1⟩) (fun y hy => by
    have : y = (pa : Int) := by simpa using hy
    omega))
  have hpaI : (pa : Int) < (nv : Int) := by omega
  have hjI : (j : Int) < (nv : Int) := by omega
  have hkI : (k : Int) < (nv : Int) := by omega
  have hnb : ((nv : Int) == 1000) = false := by simp; omega
  obtain ⟨ud, hud⟩ : ∃ ud, ud = u.2.1 := ⟨_, rfl⟩
  obtain ⟨ua, hua⟩ : ∃ ua, ua = u.1 := ⟨_, rfl⟩
  obtain ⟨jd, hjd⟩ : ∃ d, d = uj.2.1 := ⟨_, rfl⟩
  obtain ⟨ja, hja'⟩ : ∃ d, d = uj.1 := ⟨_, rfl⟩
  obtain ⟨kd, hkd⟩ : ∃ d, d = uk.2.1 := ⟨_, rfl⟩
  rw [← hua] at x0
  rw [← hud] at x1 hd1
  rw [← hja'] at y0
  rw [← hjd] at y1 hd2
  rw [← hkd] at z1 hd3
  have HUD := Lib.hid hud
  have hne1 : g ≠ w.heap.size := by omega
  have hne2 : x ≠ w.heap.size := by omega
  have hxg : x ≠ g := fun e => row_not hr.row hr.box (by decide) (by rw [e]; rfl)
  clear hr ht hok hvv hu hj hja huj hk hka huk row hkk hee hen hpk hw1 hud hua hjd hja' hkd z0 z2 hl
  by_cases heq : ud - jd = jd - kd
  · skip
    have de : (ud - jd == jd - kd) = true := by simp [heq]
    clear heq
    go_enter Try.func33, Try.ntmps33
    go_wp2_with fail
    refine HCK.out.mono ?_
    rintro er w1 ⟨rfl, rfl⟩
    go_wp2_with fail
    obtain ⟨W3, hW3⟩ : ∃ W3, W3 = ((w.alloc (.cells #[.int .i64 (pa : Int)] 3)).alloc (.cells #[.int .i64 ua, .int .i64 ud, .int .i64 (j : Int)] 69)).alloc (.cells #[.int .i64 (pa : Int), .int .i64 (ud + 1), .int .i64 (pa : Int)] 69) := ⟨_, rfl⟩
    rw [← hW3]
    have hs3 : W3.heap.size = w.heap.size + 3 := by rw [hW3]; simp
    have hb3 : Below w.heap.size w W3 := by rw [hW3]; exact (((Below.refl _ _).alloc (Nat.le_refl _) _).alloc (by simp) _).alloc (by simp; omega) _
    have hk3 : Kv w W3 := by rw [hW3]; exact (((Kv.refl w).alloc _).alloc _).alloc _
    have hp3 : W3.heap[w.heap.size + 1]? = some (.cells #[.int .i64 ua, .int .i64 ud, .int .i64 (j : Int)] 69 (0, 0)) := by
      rw [hW3]
      have := bdNew (w.alloc (.cells #[.int .i64 (pa : Int)] 3)) (.cells #[.int .i64 ua, .int .i64 ud, .int .i64 (j : Int)] 69)
      rw [show (w.alloc (.cells #[.int .i64 (pa : Int)] 3)).heap.size = w.heap.size + 1 by simp] at this
      exact bdOld this
    have hv3 : W3.heap[w.heap.size + 1 + 1]? = some (.cells #[.int .i64 (pa : Int), .int .i64 (ud + 1), .int .i64 (pa : Int)] 69 (0, 0)) := by
      rw [hW3]
      have := bdNew ((w.alloc (.cells #[.int .i64 (pa : Int)] 3)).alloc (.cells #[.int .i64 ua, .int .i64 ud, .int .i64 (j : Int)] 69)) (.cells #[.int .i64 (pa : Int), .int .i64 (ud + 1), .int .i64 (pa : Int)] 69)
      rw [show ((w.alloc (.cells #[.int .i64 (pa : Int)] 3)).alloc (.cells #[.int .i64 ua, .int .i64 ud, .int .i64 (j : Int)] 69)).heap.size = w.heap.size + 1 + 1 by simp] at this
      exact this
    have B0 := Lib.hid b0
    have X3 := Lib.hid hp3
    have V3 := Lib.hid hv3
    have HB3 := Lib.hid hb3
    have HK3 := Lib.hid hk3
    have q0 := (hb3.cell (p := ⟨x, 0, none⟩) hxl).trans b0
    have q1 := (hb3.cell (p := ⟨g, j * 3, none⟩) hgl).trans y0
    have q2 := (hb3.cell (p := ⟨g, j * 3 + 1, none⟩) hgl).trans y1
    have q3 := (hb3.cell (p := ⟨g, j * 3 + 2, none⟩) hgl).trans y2
    obtain ⟨⟨p0, p1, p2⟩, _, _, _⟩ := bk3 hp3
    have Z1 := Lib.hid z1
    have hx3 : x < W3.heap.size := by omega
    have hg3 : g < W3.heap.size := by omega
    have hp3l : w.heap.size + 1 < W3.heap.size := by omega
    have S3 := Lib.hid hs3
    clear hW3 hs3 hb3 hk3 hp3 hv3 b0 b1 x0 x1 x2 y0 y1 y2 z1
    go_region
    go_wp2_with fail
    obtain ⟨W4, hW4⟩ : ∃ W4, W4 = (W3.alloc (.cells #[.int .i64 ja, .int .i64 jd, .int .i64 (k : Int)] 69)).drew := ⟨_, rfl⟩
    rw [← hW4]
    have hb4 : Below w.heap.size w W4 := by rw [hW4]; exact bdN (HB3.out.alloc (by omega) _) 1
    have hn4 : W4.heap[W3.heap.size]? = some (.cells #[.int .i64 ja, .int .i64 jd, .int .i64 (k : Int)] 69 (0, 0)) := by rw [hW4]; exact bdNew W3 _
    have hp4 : W4.heap[w.heap.size + 1]? = some (.cells #[.int .i64 ua, .int .i64 ud, .int .i64 (j : Int)] 69 (0, 0)) := by rw [hW4]; exact bdOld X3.out
    have hv4 : W4.heap[w.heap.size + 1 + 1]? = some (.cells #[.int .i64 (pa : Int), .int .i64 (ud + 1), .int .i64 (pa : Int)] 69 (0, 0)) := by rw [hW4]; exact bdOld V3.out
    have hk4 : Kv w W4 := by rw [hW4]; exact (HK3.out.alloc _).drewN 1
    have HB4 := Lib.hid hb4
    have HV4 := Lib.hid hv4
    have HK4 := Lib.hid hk4
    have r0 := (hb4.cell (p := ⟨x, 0, none⟩) hxl).trans B0.out
    have r1 := (hb4.cell (p := ⟨g, k * 3 + 1, none⟩) hgl).trans Z1.out
    obtain ⟨⟨n0, n1, n2⟩, _, _, _⟩ := bk3 hn4
    obtain ⟨⟨m0, m1, m2⟩, _, _, _⟩ := bk3 hp4
    obtain ⟨⟨l0, l1, l2⟩, e0, e1, e2⟩ := bk3 hv4
    have hs4 : W4.heap.size = w.heap.size + 4 := by rw [hW4]; have := S3.out; simp [this]
    have hs4l : w.heap.size < W4.heap.size := by omega
    clear hW4 hb4 hn4 hp4 hv4 hk4 q0 q1 q2 q3 p0 p1 p2 hs4
    go_quiet (fail)
    go_wp2_with fail
    obtain ⟨W5, hW5⟩ : ∃ W5, W5 = (W4.setCell ⟨w.heap.size + 1 + 1, 2, none⟩ (.int .i64 (k : Int))).drewN nq := ⟨_, rfl⟩
    have hW5e : W5 = (W4.setCell ⟨w.heap.size + 1 + 1, 2, none⟩ (.int .i64 (k : Int))).drewN nq := hW5
    clear hW5
    rw [show (W4.drewN nq).setCell ⟨w.heap.size + 1 + 1, 2, none⟩ (.int .i64 (k : Int)) = W5 from hW5e.symm]
    have hb5 : Below w.heap.size w W5 := by rw [hW5e]; exact bdN (HB4.out.setCell (p := ⟨w.heap.size + 1 + 1, 2, none⟩) (by show w.heap.size ≤ w.heap.size + 1 + 1; omega) _) nq
    have hk5 : Kv w W5 := by
      rw [hW5e]
      refine Kv.drewN (fun b' cs t fr hb h1 h2 h3 => ?_) nq
      have h4 := HK4.out b' cs t fr hb h1 h2 h3
      rw [heap_off (fun e => ?_)]
      · exact h4
      · have e2 : b' = w.heap.size + 1 + 1 := e
        rw [e2, HV4.out] at h4
        have := Option.some.inj h4
        injection this with _ h5
        exact h3 h5.symm
    have hv5 : W5.heap[w.heap.size + 1 + 1]? = some (.cells #[.int .i64 (pa : Int), .int .i64 (ud + 1), .int .i64 (k : Int)] 69 (0, 0)) := by
      rw [hW5e]
      rw [show ((W4.setCell ⟨w.heap.size + 1 + 1, 2, none⟩ (.int .i64 (k : Int))).drewN nq).heap = (W4.setCell ⟨w.heap.size + 1 + 1, 2, none⟩ (.int .i64 (k : Int))).heap from rfl]
      rw [heap_set W4 (w.heap.size + 1 + 1) 2 _ HV4.out]; rfl
    have HE5 := Lib.hid (enter_any B x tl cap nv (kk + 1) (some ⟨g, 0, none⟩) mv E Vs ((pa : Int), ud + 1, (k : Int)) (2 * (pa : Int)) W5 (HR.out.below hb5) HL.out hn HPK.out)
    have HB5 := Lib.hid hb5
    have HK5 := Lib.hid hk5
    clear hb5 hk5 hv5 hW5e r0 r1 n0 n1 n2 m0 m1 m2 l0 l1 l2 e0 e1 e2
    refine HE5.out.mono ?_
    rintro er w6 ⟨rfl, ⟨G', cap6, mv6, E6, hr6, ho6⟩, hb6, hk6⟩
    have HR6 := Lib.hid hr6
    have HO6 := Lib.hid ho6
    have HB6 := Lib.hid hb6
    have HK6 := Lib.hid hk6
    obtain ⟨⟨f0, f1⟩, _, _⟩ := bk2 hr6.box
    clear hr6 ho6 hb6 hk6
    go_wp2_with fail
    go_ret2
    have hnn : ((nv + 1 : Nat) : Int) - 1 = (nv : Int) := by omega
    have hbf := (HB5.out.mono hBw).trans HB6.out
    have hfin := br_of HL.out HOK.out HT.out HU.out HKA.out HKK.out (by rw [← HUD.out]; exact HR6.out) HO6.out hbf (HK5.out.trans HK6.out)
    first
    | exact hfin
    | (rw [hnn]; exact hfin)
  · skip
    have de : (ud - jd == jd - kd) = false := by simp [heq]
    clear heq
    go_enter Try.func33, Try.ntmps33
    go_wp2_with fail
    refine HCK.out.mono ?_
    rintro er w1 ⟨rfl, rfl⟩
    go_wp2_with fail
    obtain ⟨W3, hW3⟩ : ∃ W3, W3 = ((w.alloc (.cells #[.int .i64 (pa : Int)] 3)).alloc (.cells #[.int .i64 ua, .int .i64 ud, .int .i64 (j : Int)] 69)).alloc (.cells #[.int .i64 (pa : Int), .int .i64 (ud + 1), .int .i64 (pa : Int)] 69) := ⟨_, rfl⟩
    rw [← hW3]
    have hs3 : W3.heap.size = w.heap.size + 3 := by rw [hW3]; simp
    have hb3 : Below w.heap.size w W3 := by rw [hW3]; exact (((Below.refl _ _).alloc (Nat.le_refl _) _).alloc (by simp) _).alloc (by simp; omega) _
    have hk3 : Kv w W3 := by rw [hW3]; exact (((Kv.refl w).alloc _).alloc _).alloc _
    have hp3 : W3.heap[w.heap.size + 1]? = some (.cells #[.int .i64 ua, .int .i64 ud, .int .i64 (j : Int)] 69 (0, 0)) := by
      rw [hW3]
      have := bdNew (w.alloc (.cells #[.int .i64 (pa : Int)] 3)) (.cells #[.int .i64 ua, .int .i64 ud, .int .i64 (j : Int)] 69)
      rw [show (w.alloc (.cells #[.int .i64 (pa : Int)] 3)).heap.size = w.heap.size + 1 by simp] at this
      exact bdOld this
    have hv3 : W3.heap[w.heap.size + 1 + 1]? = some (.cells #[.int .i64 (pa : Int), .int .i64 (ud + 1), .int .i64 (pa : Int)] 69 (0, 0)) := by
      rw [hW3]
      have := bdNew ((w.alloc (.cells #[.int .i64 (pa : Int)] 3)).alloc (.cells #[.int .i64 ua, .int .i64 ud, .int .i64 (j : Int)] 69)) (.cells #[.int .i64 (pa : Int), .int .i64 (ud + 1), .int .i64 (pa : Int)] 69)
      rw [show ((w.alloc (.cells #[.int .i64 (pa : Int)] 3)).alloc (.cells #[.int .i64 ua, .int .i64 ud, .int .i64 (j : Int)] 69)).heap.size = w.heap.size + 1 + 1 by simp] at this
      exact this
    have B0 := Lib.hid b0
    have X3 := Lib.hid hp3
    have V3 := Lib.hid hv3
    have HB3 := Lib.hid hb3
    have HK3 := Lib.hid hk3
    have q0 := (hb3.cell (p := ⟨x, 0, none⟩) hxl).trans b0
    have q1 := (hb3.cell (p := ⟨g, j * 3, none⟩) hgl).trans y0
    have q2 := (hb3.cell (p := ⟨g, j * 3 + 1, none⟩) hgl).trans y1
    have q3 := (hb3.cell (p := ⟨g, j * 3 + 2, none⟩) hgl).trans y2
    obtain ⟨⟨p0, p1, p2⟩, _, _, _⟩ := bk3 hp3
    have Z1 := Lib.hid z1
    have hx3 : x < W3.heap.size := by omega
    have hg3 : g < W3.heap.size := by omega
    have hp3l : w.heap.size + 1 < W3.heap.size := by omega
    have S3 := Lib.hid hs3
    clear hW3 hs3 hb3 hk3 hp3 hv3 b0 b1 x0 x1 x2 y0 y1 y2 z1
    go_region
    go_wp2_with fail
    obtain ⟨W4, hW4⟩ : ∃ W4, W4 = (W3.alloc (.cells #[.int .i64 ja, .int .i64 jd, .int .i64 (k : Int)] 69)).drew := ⟨_, rfl⟩
    rw [← hW4]
    have hb4 : Below w.heap.size w W4 := by rw [hW4]; exact bdN (HB3.out.alloc (by omega) _) 1
    have hn4 : W4.heap[W3.heap.size]? = some (.cells #[.int .i64 ja, .int .i64 jd, .int .i64 (k : Int)] 69 (0, 0)) := by rw [hW4]; exact bdNew W3 _
    have hp4 : W4.heap[w.heap.size + 1]? = some (.cells #[.int .i64 ua, .int .i64 ud, .int .i64 (j : Int)] 69 (0, 0)) := by rw [hW4]; exact bdOld X3.out
    have hv4 : W4.heap[w.heap.size + 1 + 1]? = some (.cells #[.int .i64 (pa : Int), .int .i64 (ud + 1), .int .i64 (pa : Int)] 69 (0, 0)) := by rw [hW4]; exact bdOld V3.out
    have hk4 : Kv w W4 := by rw [hW4]; exact (HK3.out.alloc _).drewN 1
    have HB4 := Lib.hid hb4
    have HV4 := Lib.hid hv4
    have HK4 := Lib.hid hk4
    have r0 := (hb4.cell (p := ⟨x, 0, none⟩) hxl).trans B0.out
    have r1 := (hb4.cell (p := ⟨g, k * 3 + 1, none⟩) hgl).trans Z1.out
    obtain ⟨⟨n0, n1, n2⟩, _, _, _⟩ := bk3 hn4
    obtain ⟨⟨m0, m1, m2⟩, _, _, _⟩ := bk3 hp4
    obtain ⟨⟨l0, l1, l2⟩, e0, e1, e2⟩ := bk3 hv4
    have hs4 : W4.heap.size = w.heap.size + 4 := by rw [hW4]; have := S3.out; simp [this]
    have hs4l : w.heap.size < W4.heap.size := by omega
    clear hW4 hb4 hn4 hp4 hv4 hk4 q0 q1 q2 q3 p0 p1 p2 hs4
    go_quiet (fail)
    go_wp2_with fail
    obtain ⟨W5, hW5e⟩ : ∃ W5, W5 = W4.drewN nq := ⟨_, rfl⟩
    rw [← hW5e]
    have hb5 : Below w.heap.size w W5 := by rw [hW5e]; exact bdN HB4.out nq
    have hk5 : Kv w W5 := by rw [hW5e]; exact HK4.out.drewN nq
    have hv5 : W5.heap[w.heap.size + 1 + 1]? = some (.cells #[.int .i64 (pa : Int), .int .i64 (ud + 1), .int .i64 (pa : Int)] 69 (0, 0)) := by
      rw [hW5e]
      exact HV4.out
    have HE5 := Lib.hid (enter_any B x tl cap nv (kk + 1) (some ⟨g, 0, none⟩) mv E Vs ((pa : Int), ud + 1, (pa : Int)) (2 * (pa : Int)) W5 (HR.out.below hb5) HL.out hn HPK.out)
    have HB5 := Lib.hid hb5
    have HK5 := Lib.hid hk5
    clear hb5 hk5 hv5 hW5e r0 r1 n0 n1 n2 m0 m1 m2 l0 l1 l2 e0 e1 e2
    refine HE5.out.mono ?_
    rintro er w6 ⟨rfl, ⟨G', cap6, mv6, E6, hr6, ho6⟩, hb6, hk6⟩
    have HR6 := Lib.hid hr6
    have HO6 := Lib.hid ho6
    have HB6 := Lib.hid hb6
    have HK6 := Lib.hid hk6
    obtain ⟨⟨f0, f1⟩, _, _⟩ := bk2 hr6.box
    clear hr6 ho6 hb6 hk6
    go_wp2_with fail
    go_ret2
    have hnn : ((nv + 1 : Nat) : Int) - 1 = (nv : Int) := by omega
    have hbf := (HB5.out.mono hBw).trans HB6.out
    have hfin := br_of HL.out HOK.out HT.out HU.out .refl HKK.out (by rw [← HUD.out]; exact HR6.out) HO6.out hbf (HK5.out.trans HK6.out)
    first
    | exact hfin
    | (rw [hnn]; exact hfin)
end Go.Proofs.Ythnlcbeibhhjpaa
