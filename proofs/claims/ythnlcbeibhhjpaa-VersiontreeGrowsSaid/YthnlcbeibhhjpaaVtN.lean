/- The law's grown: an index and the reference's tree grow together. -/
import Derived.Test.YthnlcbeibhhjpaaVtK
import Derived.Test.YthnlcbeibhhjpaaVtL
import Derived.Test.YthnlcbeibhhjpaaVtM
namespace Go.Proofs.Ythnlcbeibhhjpaa
open Go.RowKit
set_option maxRecDepth 100000
theorem ORow.kv {B : Nat} {w w' : World} {A : Option Addr} {cap : Nat} {L : List Int} (h : ORow B w A cap L) (hk : Kv w w') : ORow B w' A cap L := by
  refine ⟨h.1, ?_⟩
  rcases h.2 with hn | ⟨g, cp, cur, hv, h1, hgg, rest⟩
  · exact .inl hn
  · exact .inr ⟨g, cp, cur, hv, h1, hk g _ _ _ hgg (by decide) (by decide) (by decide), rest⟩
/-- A block of another type is not one of an index. -/
theorem IxR.setOther {B x tl : Nat} {G : Option Addr} {cap nv k : Nat} {mv : Int} {E : List El} {Vs : List Vn} {W : World} (h : IxR B x tl G cap nv k mv E Vs W) {b i : Nat} {v : Value} {cs : Array Value} {t : TypeId} {fr : Nat × Nat} (hb : W.heap[b]? = some (.cells cs t fr)) (h1 : t ∉ [80, 84, 78]) (h2 : t ≠ 67) (h3 : t ≠ 69) : IxR B x tl G cap nv k mv E Vs (W.setCell ⟨b, i, none⟩ v) := by
  have off : ∀ (b' : Nat) (cs' : Array Value) (t' : TypeId) (fr' : Nat × Nat), W.heap[b']? = some (.cells cs' t' fr') → t' ≠ t → (W.setCell ⟨b, i, none⟩ v).heap[b']? = W.heap[b']? := fun b' cs' t' fr' hb' ht => heap_off fun e => by
    rw [e, hb] at hb'
    have := Option.some.inj hb'
    injection this with _ h5
    exact ht h5.symm
  refine ⟨(off _ _ _ _ h.box (fun e => h2 e.symm)).trans h.box, ownsRow_heap h.row fun g hg => ?_, OSt.typed h.tour fun b' cs' t' hb' ht => ?_, h.hB⟩
  · rcases h.row.2 with ⟨hv, _⟩ | ⟨g', cp, cur, hv, _, hh, _⟩
    · rw [hv] at hg; cases hg
    · rw [hv] at hg
      have hgg : g' = g := by simpa [Value.ownBlock] using hg
      exact off _ _ _ _ (hgg ▸ hh) (fun e => h3 e.symm)
  · rw [off _ _ _ _ hb' (fun e => h1 (e ▸ ht))]; exact hb'
theorem IxM.setOther {B x : Nat} {Vs : List Vn} {W : World} (h : IxM B x Vs W) {b i : Nat} {v : Value} {cs : Array Value} {t : TypeId} {fr : Nat × Nat} (hb : W.heap[b]? = some (.cells cs t fr)) (h1 : t ∉ [80, 84, 78]) (h2 : t ≠ 67) (h3 : t ≠ 69) : IxM B x Vs (W.setCell ⟨b, i, none⟩ v) := by
  obtain ⟨⟨tl, G, cap, mv, E, hr, ht⟩, hok⟩ := h
  exact ⟨⟨tl, G, cap, mv, E, hr.setOther hb h1 h2 h3, ht⟩, hok⟩
theorem ORow.setOther {B : Nat} {w : World} {A : Option Addr} {cap : Nat} {L : List Int} (h : ORow B w A cap L) {b i : Nat} {v : Value} {cs : Array Value} {t : TypeId} {fr : Nat × Nat} (hb : w.heap[b]? = some (.cells cs t fr)) (ht : t ≠ 3) : ORow B (w.setCell ⟨b, i, none⟩ v) A cap L :=
  ownsRow_heap h fun g hg => heap_off fun e => by
    rcases h.2 with ⟨hv, _⟩ | ⟨g', cp, cur, hv, _, hh, _⟩
    · rw [hv] at hg; cases hg
    · rw [hv] at hg
      have hgg : g' = g := by simpa [Value.ownBlock] using hg
      rw [hgg, e, hb] at hh
      have := Option.some.inj hh
      injection this with _ h3
      exact ht h3
/-- The parents of versions. -/
def parV (Vs : List Vn) : List Int := Vs.map (·.1)
theorem parV_len (Vs : List Vn) : (parV Vs).length = Vs.length := by simp [parV]
theorem parV_snoc (Vs : List Vn) (v : Vn) : parV (Vs ++ [v]) = parV Vs ++ [v.1] := by simp [parV]
/-- An index and its reference, at the head of a round. -/
structure GSt (br x bm k : Nat) (Vs : List Vn) (A : Option Addr) (cap : Nat) (w wr : World) : Prop where
  ix : IxM (w.heap.size + 1) x Vs wr
  lek : Vs.length ≤ k + 1
  bx : wr.heap[bm]? = some (.cells #[.slice A Vs.length cap] 24 (0, 0))
  rs : wr.heap[br]? = some (.cells #[.slice none 0 0] 24 (0, 0))
  row : ORow w.heap.size wr A cap (parV Vs)
  bel : Below w.heap.size w wr
/-- What a step leaves. -/
theorem GSt.step {x bm k' n' : Nat} {v0 : Value} {Vs' : List Vn} {A' : Option Addr} {cap' : Nat} {w w2 w3 : World} (hix : IxM (w.heap.size + 1) x Vs' w2) (hbx : w2.heap[bm]? = some (.cells #[v0] 24 (0, 0))) (hrs : w2.heap[w.heap.size]? = some (.cells #[.slice none 0 0] 24 (0, 0))) (hb2 : Below w.heap.size w w2) (hb3 : Below w2.heap.size w2 w3) (hlek : n' ≤ k' + 1) (hr : ORow w.heap.size w3 A' cap' (parV Vs')) (hbm : w.heap.size < bm) (hn' : Vs'.length = n') (o : Obj) :
    GSt w.heap.size x bm k' Vs' A' cap' w ((w3.setCell ⟨bm, 0, none⟩ (.slice A' n' cap')).alloc o) := by
  subst hn'
  have hx3 := bdAt hbx hb3
  have hr3 := bdAt hrs hb3
  have hz := hb2.size
  have hz3 := hb3.size
  have hb0 : Below (w3.setCell ⟨bm, 0, none⟩ (.slice A' Vs'.length cap')).heap.size (w3.setCell ⟨bm, 0, none⟩ (.slice A' Vs'.length cap')) ((w3.setCell ⟨bm, 0, none⟩ (.slice A' Vs'.length cap')).alloc o) := (Below.refl _ _).alloc (Nat.le_refl _) _
  have h1 := heap_set w3 bm 0 (.slice A' Vs'.length cap') hx3
  refine ⟨((hix.below hb3).setOther hx3 (by decide) (by decide) (by decide)).below hb0, hlek, bdOld h1, bdOld ((heap_off (by omega)).trans hr3), (hr.setOther hx3 (by decide)).below hb0, ?_⟩
  exact ((hb2.trans (hb3.mono hz)).setCell (p := ⟨bm, 0, none⟩) (by show w.heap.size ≤ bm; omega) _).alloc (by simp; omega) _
theorem IxM.pos {B x : Nat} {Vs : List Vn} {W : World} (h : IxM B x Vs W) : 0 < Vs.length := (List.getElem?_eq_some_iff.1 h.ok.root).1
/-- What grown leaves. -/
def GrP (n : Nat) (w : World) (er : Ending) (w' : World) : Prop :=
  ∃ (x : Nat) (Vs : List Vn) (A : Option Addr) (cap : Nat), er = .returned (.tuple #[.pointer (some ⟨x, 0, none⟩), .agg #[.slice A Vs.length cap], .bool true]) ∧ IxM (w.heap.size + 1) x Vs w' ∧ ORow w.heap.size w' A cap (parV Vs) ∧ Vs.length ≤ n + 1 ∧ Below w.heap.size w w'
set_option maxHeartbeats 16000000 in
theorem grown_any (A0 : Option Addr) (c0 n : Nat) (L : List Int) (w : World) (hn : L.length = n) (hl : n ≤ 100) (hA : IntsAt (· < w.heap.size) w A0 L) :
    Calls Try.prog 21 #[.slice A0 n c0] w (GrP n w) := by
  have HNEW := Lib.hid (ixNew_any (w.alloc (.cells #[.slice none 0 0] 24)))
  rw [show (w.alloc (.cells #[.slice none 0 0] 24)).heap.size = w.heap.size + 1 by simp] at HNEW
  have HA := Lib.hid hA
  have HN := Lib.hid hn
  clear hA hn
  go_enter Try.func21, Try.ntmps21
  go_wp2_with fail
  refine HNEW.out.mono ?_
  rintro er w1 ⟨rfl, hix, hb1, hk1⟩
  have hrs1 := hk1 _ _ _ _ (bdNew w (.cells #[.slice none 0 0] 24)) (by decide) (by decide) (by decide)
  have HIX := Lib.hid hix
  have hb1' : Below w.heap.size w w1 := ((Below.refl _ _).alloc (Nat.le_refl _) _).trans (hb1.mono (by omega))
  have HB1 := Lib.hid hb1'
  have HRS := Lib.hid hrs1
  have hz1 := hb1'.size
  clear hix hb1 hk1 hrs1 hb1'
  go_wp2_with fail
  go_loopw [22] (fun s22 wr => ∃ (k : Nat) (Vs : List Vn) (A : Option Addr) (cap : Nat), k ≤ n ∧ s22 = .int .i64 k ∧ GSt w.heap.size (w.heap.size + 1 + 1) (w1.heap.size + 1) k Vs A cap w wr) (fun s22 _ => n - (intOf s22).toNat)
  case atStart =>
    refine ⟨0, [(-1, 0, 0)], some ⟨w1.heap.size, 0, none⟩, 1, by omega, rfl, ?_⟩
    have hb2 : Below w1.heap.size w1 ((w1.alloc (.cells #[.int .i64 (-1)] 3)).alloc (.cells #[.slice (some ⟨w1.heap.size, 0, none⟩) 1 1] 24)) := ((Below.refl _ _).alloc (Nat.le_refl _) _).alloc (by simp) _
    refine ⟨HIX.out.below hb2, Nat.le_refl _, ?_, bdAt HRS.out hb2, ?_, HB1.out.trans (hb2.mono hz1)⟩
    · have := bdNew (w1.alloc (.cells #[.int .i64 (-1)] 3)) (.cells #[.slice (some ⟨w1.heap.size, 0, none⟩) 1 1] 24)
      rw [show (w1.alloc (.cells #[.int .i64 (-1)] 3)).heap.size = w1.heap.size + 1 by simp] at this
      exact this
    · have hh := World.ownsRow_lit (base := w.heap.size) (e := 3) (size := 1) w1 #[.int .i64 (-1)] 1 hz1 (by unfold maxLen; omega) rfl
      have h2 : ORow w.heap.size (w1.alloc (.cells #[.int .i64 (-1)] 3)) (some ⟨w1.heap.size, 0, none⟩) 1 (parV [(-1, 0, 0)]) := hh
      exact h2.below ((Below.refl _ _).alloc (Nat.le_refl _) _)
  case round =>
    obtain ⟨k, Vs, A, cap, hk, rfl, hG⟩ := hrel
    have HG := Lib.hid hG
    have hbx := hG.bx
    have hlek := hG.lek
    have hpos := hG.ix.pos
    obtain ⟨m, hm⟩ : ∃ m, Vs.length = m := ⟨_, rfl⟩
    rw [hm] at hbx hlek hpos
    have HM := Lib.hid hm
    obtain ⟨b0, q0⟩ := bk1 hbx
    have hbl := bdLt hbx
    have hsz := hG.bel.size
    clear hG hm hbx
    by_cases hlt : k < n
    · have hltI : (k : Int) < (n : Int) := by omega
      obtain ⟨p, hp⟩ : ∃ p, L[k]? = some p := ⟨L[k]'(by rw [HN.out]; exact hlt), List.getElem?_eq_getElem _⟩
      obtain ⟨sb, off, hA0, hsb, hcs⟩ := (HA.out.below HG.out.bel) (by rw [HN.out]; omega)
      subst hA0
      have y0 := hcs k p hp
      clear hcs hp
      by_cases hpp : 0 ≤ p ∧ p < (m : Int)
      · obtain ⟨pa, hpa⟩ : ∃ pa : Nat, p = (pa : Int) := ⟨p.toNat, by omega⟩
        subst hpa
        have HB := Lib.hid (branch_yes (w.heap.size + 1) (w.heap.size + 1 + 1) pa m Vs wr HG.out.ix HM.out (by omega) (by omega) (by omega))
        have hpam : pa < m := by omega
        clear hpp
        go_wp2_with fail
        refine HB.out.mono ?_
        rintro er w2 ⟨rfl, ⟨d, j, hix2⟩, hb2, hk2⟩
        have hzb2 := hb2.size
        have hx2 := hk2 _ _ _ _ HG.out.bx (by decide) (by decide) (by decide)
        have hr2 := hk2 _ _ _ _ HG.out.rs (by decide) (by decide) (by decide)
        have hrow2 := HG.out.row.kv hk2
        have hbel2 := HG.out.bel.trans (hb2.mono (Nat.le_succ _))
        rw [HM.out] at hx2
        have HX2 := Lib.hid hx2
        have HR2 := Lib.hid hr2
        have HRW2 := Lib.hid hrow2
        have HBL2 := Lib.hid hbel2
        have HIX2 := Lib.hid hix2
        have hsz2 := hbel2.size
        have hbl2 := bdLt hx2
        have HRB := Lib.hid (refBranch_yes A cap m (pa : Int) (parV Vs) w2 (by rw [parV_len]; exact HM.out) (by omega) hpos (intsAt_own hrow2 (fun _ _ h => h)) (by omega))
        clear b0 q0 y0
        obtain ⟨b0, q0⟩ := bk1 hx2
        clear hx2 hr2 hrow2 hbel2 hix2 hb2 hk2
        go_wp2_with fail
        refine HRB.out.mono ?_
        rintro er w3 ⟨g3, c3, rfl, hrow3, hb3⟩
        have hx3 := bdAt HX2.out hb3
        have HB3 := Lib.hid hb3
        have HRW3 := Lib.hid hrow3
        have hsz3 := hb3.size
        clear b0 q0 HRB
        obtain ⟨b0, q0⟩ := bk1 hx3
        have e1 : (((m : Nat) : Int) != (m : Int)) = false := by simp
        have hne5 : w1.heap.size + 1 ≠ w3.heap.size := by omega
        have hne6 : w3.heap.size ≠ w1.heap.size + 1 := by omega
        have hlt6 : w1.heap.size + 1 < w3.heap.size := by omega
        clear hx3 hrow3 hb3
        go_wp2_with fail
        go_roundw
        case rel =>
          refine ⟨k + 1, Vs ++ [((pa : Int), d, j)], some ⟨g3, 0, none⟩, c3, by omega, by go_num, ?_⟩
          have hML : (Vs ++ [((pa : Int), d, j)]).length = m + 1 := by rw [List.length_append, HM.out]; rfl
          exact GSt.step HIX2.out HX2.out HR2.out HBL2.out HB3.out (by omega) (by
            rw [parV_snoc]
            have hpl : (parV Vs ++ [(pa : Int)]).length = m + 1 := by rw [List.length_append, parV_len, HM.out]; rfl
            have h1 : ORow w2.heap.size w3 (some ⟨g3, 0, none⟩) c3 (parV Vs ++ [(pa : Int)]) := by unfold ORow; rw [hpl]; exact HRW3.out
            exact h1.more (by omega)) (by omega) hML _
        case measure => simp [intOf]; omega
      · have HB := Lib.hid (branch_no (w.heap.size + 1) (w.heap.size + 1 + 1) m p Vs wr HG.out.ix HM.out (by omega) hpp)
        have HPP := Lib.hid hpp
        clear hpp
        go_wp2_with fail
        refine HB.out.mono ?_
        rintro er w2 ⟨rfl, hb2, hk2⟩
        have hx2 := hk2 _ _ _ _ HG.out.bx (by decide) (by decide) (by decide)
        have hr2 := hk2 _ _ _ _ HG.out.rs (by decide) (by decide) (by decide)
        have hrow2 := HG.out.row.kv hk2
        have hbel2 := HG.out.bel.trans (hb2.mono (by omega))
        have hix2 := HG.out.ix.below hb2
        rw [HM.out] at hx2
        have HX2 := Lib.hid hx2
        have HR2 := Lib.hid hr2
        have HRW2 := Lib.hid hrow2
        have HBL2 := Lib.hid hbel2
        have HIX2 := Lib.hid hix2
        have hsz2 := hbel2.size
        have HRB := Lib.hid (refBranch_no A cap m p w2 (by omega) HPP.out)
        have hbl2 := bdLt hx2
        clear b0 q0 y0
        obtain ⟨b0, q0⟩ := bk1 hx2
        clear hx2 hr2 hrow2 hbel2 hix2 hb2 hk2
        go_wp2_with fail
        refine HRB.out.mono ?_
        rintro er w3 ⟨rfl, hb3⟩
        have hx3 := bdAt HX2.out hb3
        have HB3 := Lib.hid hb3
        have hsz3 := hb3.size
        clear b0 q0 HRB
        obtain ⟨b0, q0⟩ := bk1 hx3
        have hne5 : w1.heap.size + 1 ≠ w3.heap.size := by omega
        have hne6 : w3.heap.size ≠ w1.heap.size + 1 := by omega
        have hlt6 : w1.heap.size + 1 < w3.heap.size := by omega
        clear hx3 hb3
        go_wp2_with fail
        go_roundw
        case rel =>
          refine ⟨k + 1, Vs, A, cap, by omega, by go_num, ?_⟩
          exact GSt.step HIX2.out HX2.out HR2.out HBL2.out HB3.out (by omega) (HRW2.out.below HB3.out) (by omega) HM.out _
        case measure => simp [intOf]; omega
    · have hkn : k = n := by omega
      have hr := HG.out.rs
      obtain ⟨r0, s0⟩ := bk1 hr
      have HR := Lib.hid hr
      clear hr
      go_wp2_with fail
      go_region
      go_wp2_with fail
      refine bodyPost_ret (v := .tuple #[.pointer (some ⟨w.heap.size + 1 + 1, 0, none⟩), .agg #[.slice A m cap], .bool true]) (by simp [results, Try.results21, go_sem, r0]) rfl ⟨w.heap.size + 1 + 1, Vs, A, cap, by rw [HM.out], ?_, ?_, by rw [HM.out]; omega, ?_⟩
      · exact (HG.out.ix.setOther (i := 0) (v := .slice A m cap) HR.out (by decide) (by decide) (by decide)).drewN 1
      · exact HG.out.row.setOther (i := 0) (v := .slice A m cap) HR.out (by decide)
      · exact bdN (HG.out.bel.setCell (p := ⟨w.heap.size, 0, none⟩) (Nat.le_refl _) _) 1
end Go.Proofs.Ythnlcbeibhhjpaa
