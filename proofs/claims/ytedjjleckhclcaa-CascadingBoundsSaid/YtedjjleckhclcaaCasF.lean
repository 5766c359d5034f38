/- Walks: augment, whole. -/
import Derived.Test.YtedjjleckhclcaaCasE
namespace Go.Proofs.Ytedjjleckhclcaa
open Go.RowKit
set_option maxRecDepth 100000

def own1 (c : List Int) : List CE := c.map fun x => (x, false)
def tak1 (nx : List Int) : List CE := (odds nx).map fun x => (x, true)
theorem entC_take1 {c : List Int} {k : Nat} {x : Int} (h : c[k]? = some x) : entC (own1 (c.take (k + 1))) = entC (own1 (c.take k)) ++ [.int .i64 x, .bool false] := by
  unfold own1; rw [List.take_add_one, h, Option.toList_some, List.map_append, List.map_singleton, entC_snoc]
theorem entC_take2 {nx : List Int} {k : Nat} {x : Int} (h : nx[2 * k + 1]? = some x) : entC (((odds nx).take (k + 1)).map fun x => (x, true)) = entC (((odds nx).take k).map fun x => (x, true)) ++ [.int .i64 x, .bool true] := by
  rw [List.take_add_one, odds_get, h, Option.toList_some, List.map_append, List.map_singleton, entC_snoc]
/-- What augment hands back. -/
def AugPost (w : World) (m : List CE) (e : Ending) (w' : World) : Prop :=
  ∃ A1 c1 A2 c2, e = .returned (.agg #[.slice A1 m.length c1, .slice A2 (m.length + 1) c2]) ∧ IntsV (fun b => w.heap.size ≤ b ∧ b < w'.heap.size) w' (.slice A1 m.length c1) (m.map Prod.fst) ∧ IntsV (fun b => w.heap.size ≤ b ∧ b < w'.heap.size) w' (.slice A2 (m.length + 1) c2) (tks m) ∧ Below w.heap.size w w'
abbrev nilSl : Value := .slice none 0 0

theorem aug_end {w w3 wr W6 : World} {Lb k ck ct g2 cap2 : Nat} {m : List CE} {Ak At : Option Addr} {oc : Obj} (h : AInv w w3 Lb m k Ak At ck ct wr) (hR3 : w3.heap[w.heap.size]? = some (.cells #[nilSl, nilSl] 51 (0, 0))) (hRL : w.heap.size < Lb) (hL : Lb < w3.heap.size)
    (ho2 : W6.ownsRow w3.heap.size 3 1 (.slice (some ⟨g2, 0, none⟩) (k + 1) cap2) (k + 1) (vals (tkp m k) ++ [.int .i64 (cnt m k)])) (hk : k = m.length) (hg : (wr.alloc oc).grownBy W6 (Value.slice At k ct).ownBlock) :
    W6.heap[Lb]? = some (.cells #[.slice Ak k ck, .slice At k ct] 51 (0, 0)) ∧ W6.heap[w.heap.size]? = some (.cells #[nilSl, nilSl] 51 (0, 0)) ∧
      AugPost w m (.returned (.agg #[.slice Ak k ck, .slice (some ⟨g2, 0, none⟩) (k + 1) cap2])) (((W6.setCell ⟨Lb, 1, none⟩ (.slice (some ⟨g2, 0, none⟩) (k + 1) cap2)).setCell ⟨w.heap.size, 0, none⟩ (.slice Ak k ck)).setCell ⟨w.heap.size, 1, none⟩ (.slice (some ⟨g2, 0, none⟩) (k + 1) cap2)) := by
  have hs := h.size
  have hsw := h.below.size
  obtain ⟨s1, s2, s3⟩ := app_same h.taken hg
  have hlow : ∀ b, b < w3.heap.size → W6.heap[b]? = wr.heap[b]? := fun b hb => s1 b hb (by omega)
  have hk6 : W6.ownsRow w3.heap.size 3 1 (.slice Ak k ck) k (vals ((m.map Prod.fst).take k)) := own_same h.keys fun b e => s2 b (h.keys.lt b e).2 (h.apart b e)
  have hb6 : Below w.heap.size w W6 := app_below (B := w3.heap.size) h.below h.taken (by omega) (by omega) hg
  subst hk
  rw [List.take_of_length_le (by simp)] at hk6
  have hfar : ∀ b, w3.heap.size ≤ b → (((W6.setCell ⟨Lb, 1, none⟩ (.slice (some ⟨g2, 0, none⟩) (m.length + 1) cap2)).setCell ⟨w.heap.size, 0, none⟩ (.slice Ak m.length ck)).setCell ⟨w.heap.size, 1, none⟩ (.slice (some ⟨g2, 0, none⟩) (m.length + 1) cap2)).heap[b]? = W6.heap[b]? := fun b hb =>
    (setCell_other (by omega)).trans ((setCell_other (by omega)).trans (setCell_other (by omega)))
  refine ⟨(hlow Lb hL).trans h.box, (hlow _ (by omega)).trans ((h.same _ (by omega) (by omega)).trans hR3), Ak, ck, _, cap2, rfl, ?_, ?_, ((hb6.setCell (p := ⟨Lb, 1, none⟩) (Nat.le_of_lt hRL) _).setCell (p := ⟨w.heap.size, 0, none⟩) (Nat.le_refl _) _).setCell (p := ⟨w.heap.size, 1, none⟩) (Nat.le_refl _) _⟩
  · refine intsV_own (B := w3.heap.size) (e := 3) ?_ (fun b h1 h2 => ⟨by omega, h2⟩)
    rw [List.length_map]
    exact own_same hk6 fun b e => hfar b (hk6.lt b e).1
  · have e : vals (tkp m m.length) ++ [.int .i64 (cnt m m.length)] = (tks m).map (Value.int .i64) := by
      rw [← vals_snoc, ← tkp_snoc]; rfl
    rw [e] at ho2
    have ho9 := own_same ho2 fun b e => hfar b (ho2.lt b e).1
    have hsz9 : w3.heap.size ≤ (((W6.setCell ⟨Lb, 1, none⟩ (.slice (some ⟨g2, 0, none⟩) (m.length + 1) cap2)).setCell ⟨w.heap.size, 0, none⟩ (.slice Ak m.length ck)).setCell ⟨w.heap.size, 1, none⟩ (.slice (some ⟨g2, 0, none⟩) (m.length + 1) cap2)).heap.size := by simp; omega
    generalize (((W6.setCell ⟨Lb, 1, none⟩ (.slice (some ⟨g2, 0, none⟩) (m.length + 1) cap2)).setCell ⟨w.heap.size, 0, none⟩ (.slice Ak m.length ck)).setCell ⟨w.heap.size, 1, none⟩ (.slice (some ⟨g2, 0, none⟩) (m.length + 1) cap2)) = W9 at ho9 hsz9 ⊢
    have hl := tks_len m
    rw [← hl] at ho9 ⊢
    exact intsV_own (B := w3.heap.size) (e := 3) ho9 (fun b h1 h2 => ⟨by omega, h2⟩)
theorem ents_own_get {w : World} {B n c : Nat} {A : Option Addr} {L : List CE} (h : w.ownsRow B 61 2 (.slice A n c) n (entC L)) {k : Nat} {e : CE} (hk : L[k]? = some e) :
    ∃ b, A = some ⟨b, 0, none⟩ ∧ B ≤ b ∧ b < w.heap.size ∧ w.cell? ⟨b, k * 2, none⟩ = some (.int .i64 e.1) ∧ w.cell? ⟨b, k * 2 + 1, none⟩ = some (.bool e.2) := by
  have hl := h.1
  rw [entC_len] at hl
  have hk' := (List.getElem?_eq_some_iff.1 hk).1
  obtain ⟨g, cap, hv, hg, hlt⟩ := h.form (by omega)
  have hA : A = some ⟨g, 0, none⟩ := by injection hv
  subst hA
  have hc := entC_get L k e hk
  have c0 := h.cells (g := g) rfl _ _ hc.1
  have c1 := h.cells (g := g) rfl _ _ hc.2
  rw [add_off, Nat.zero_add] at c0 c1
  exact ⟨g, rfl, hg, hlt, c0, c1⟩

set_option maxHeartbeats 8000000 in
theorem augment_any (A B : Option Addr) (cp cq : Nat) (c nx : List Int) (w : World) (P : Nat → Prop) (hP : ∀ b, P b → b < w.heap.size) (hc : IntsAt P w A c) (hn : IntsAt P w B nx) (hlc : c.length ≤ 3000) (hln : nx.length ≤ 3000) :
    Calls Try.prog 28 #[.slice A c.length cp, .slice B nx.length cq] w (AugPost w (aug c nx)) := by
  have HCC := Lib.hid (hc.more hP)
  have HNN := Lib.hid (hn.more hP)
  obtain ⟨nc, hnc⟩ : ∃ nc, c.length = nc := ⟨_, rfl⟩
  obtain ⟨nn, hnn⟩ : ∃ nn, nx.length = nn := ⟨_, rfl⟩
  rw [hnc] at hlc ⊢
  rw [hnn] at hln ⊢
  have HNC := Lib.hid hnc
  have HNNX := Lib.hid hnn
  clear hc hn hP hnc hnn
  obtain ⟨i0, hi, hz0, hz1, hz2⟩ := info_parts Try.infoEntry
  have R0 := heap_alloc_new w (.cells #[nilSl, nilSl] 51)
  have HR0 := Lib.hid R0
  have HB0 := Lib.hid ((Below.refl w.heap.size w).alloc (Nat.le_refl _) (.cells #[nilSl, nilSl] 51))
  clear R0
  go_enter Try.func28, Try.ntmps28
  go_wp2_with fail
  go_loopw [5, 16] (fun u i wr => ∃ (k c5 : Nat) (A5 : Option Addr), k ≤ nc ∧ i = .int .i64 k ∧ u = .slice A5 k c5 ∧ wr.ownsRow (w.heap.size + 1) 61 2 (.slice A5 k c5) k (entC (own1 (c.take k))) ∧ wr.heap[w.heap.size]? = some (.cells #[nilSl, nilSl] 51 (0, 0)) ∧ Below w.heap.size w wr ∧ w.heap.size + 1 ≤ wr.heap.size) (fun _ i _ => nc - (intOf i).toNat)
  case atStart => exact ⟨0, 0, none, by omega, rfl, rfl, World.ownsRow_nil _ _ _ _, HR0.out, HB0.out, by simp⟩
  case round =>
    clear HR0 HB0
    obtain ⟨k, c5, A5, hk, rfl, rfl, hown, hres, hbw, hsz⟩ := hrel
    have HO := Lib.hid hown
    have HR := Lib.hid hres
    have HBW := Lib.hid hbw
    clear hown hres hbw
    by_cases hlt : k < nc
    · obtain ⟨x, hx⟩ : ∃ x, c[k]? = some x := ⟨c[k]'(by rw [HNC.out]; exact hlt), List.getElem?_eq_getElem _⟩
      obtain ⟨b, off, hA, hb, hcx⟩ := HCC.out (by rw [HNC.out]; omega)
      subst hA
      have x0 := (HBW.out.cell (p := ⟨b, off + k, none⟩) hb).trans (hcx k x hx)
      have HX := Lib.hid hx
      clear hcx hx
      go_wp2_with (at_builtin; refine wpList_append_lies _ rfl (.tmp 20) (.tmp 23) 59 rfl (w.heap.size + 1) 61 i0 _ 2 16 Try.underlying59 hi hz0 hz1 hz2 rfl (by decide) (.slice A5 k c5) k (entC (own1 (c.take k))) rfl (HO.out.alloc _) ⟨wr.heap.size, 0, none⟩ 1 1 [.int .i64 x, .bool false] rfl rfl (World.news_of_block (cs := #[.int .i64 x, .bool false]) (t := 61) (fr := (0, 0)) (heap_alloc_new wr _)) (by simp [Value.oneCell']) (by omega) (by unfold maxLen; omega) (by omega) (by simp; omega) (wr.heap.size + 1) (by simp) ?_; intro g cap w2 hown2 hgrow hat hlt2)
      obtain ⟨s1, s2, s3⟩ := app_same HO.out hgrow
      have HI : Hid (w2.ownsRow (w.heap.size + 1) 61 2 (.slice (some ⟨g, 0, none⟩) (k + 1) cap) (k + 1) (entC (own1 (c.take (k + 1)))) ∧ w2.heap[w.heap.size]? = some (.cells #[nilSl, nilSl] 51 (0, 0)) ∧ Below w.heap.size w w2 ∧ w.heap.size + 1 ≤ w2.heap.size) :=
        Lib.hid ⟨by rw [entC_take1 HX.out]; exact hown2, (s1 _ (by omega) (by omega)).trans HR.out, app_below HBW.out HO.out (by omega) (by omega) hgrow, by omega⟩
      clear hown2 hgrow hat s1 s2 s3 hlt2
      go_wp2_with fail
      go_roundw
      case rel => exact ⟨k + 1, cap, some ⟨g, 0, none⟩, by omega, by go_num, rfl, HI.out⟩
      case measure => simp [intOf]; omega
    · have hkn : k = nc := by omega
      subst hkn
      have V5 : EntsV wr.heap.size wr (.slice A5 k c5) (own1 c) := by
        refine entsV_own (B := w.heap.size + 1) ?_
        have := HO.out
        rw [List.take_of_length_le (by rw [HNC.out]; omega)] at this
        simpa [own1, HNC.out] using this
      have HV5 := Lib.hid V5
      clear HO V5 hk
      go_wp2_with fail
      clear hlt
      obtain ⟨w1, rfl⟩ : ∃ wo : World, wo = wr := ⟨_, rfl⟩
      go_loopw [6, 9] (fun u i wr => ∃ (j c6 : Nat) (A6 : Option Addr), 2 * j ≤ nn ∧ i = .int .i64 (2 * (j : Int) + 1) ∧ u = .slice A6 j c6 ∧ wr.ownsRow w1.heap.size 61 2 (.slice A6 j c6) j (entC (((odds nx).take j).map fun x => (x, true))) ∧ Below w1.heap.size w1 wr) (fun _ i _ => (nn + 2 - (intOf i)).toNat)
      case atStart => exact ⟨0, 0, none, by omega, rfl, rfl, World.ownsRow_nil _ _ _ _, Below.refl _ _⟩
      case round =>
        obtain ⟨j, c6, A6, hj, rfl, rfl, hown, hbw⟩ := hrel
        have HO := Lib.hid hown
        have HBW1 := Lib.hid hbw
        have hsz1 := hbw.size
        clear hown hbw
        by_cases hlt : 2 * j + 1 < nn
        · obtain ⟨x, hx⟩ : ∃ x, nx[2 * j + 1]? = some x := ⟨nx[2 * j + 1]'(by rw [HNNX.out]; exact hlt), List.getElem?_eq_getElem _⟩
          obtain ⟨b, off, hA, hb, hcx⟩ := HNN.out (by rw [HNNX.out]; omega)
          subst hA
          obtain ⟨t, ht⟩ : ∃ t : Nat, t = 2 * j + 1 := ⟨_, rfl⟩
          have htI : 2 * (j : Int) + 1 = (t : Int) := by omega
          have x0 := (HBW1.out.cell (p := ⟨b, off + t, none⟩) (show b < w1.heap.size by omega)).trans ((HBW.out.cell (p := ⟨b, off + t, none⟩) hb).trans (hcx t x (by rw [ht]; exact hx)))
          have HX := Lib.hid hx
          have hlt2 : (t : Int) < (nn : Int) := by omega
          have HTI := Lib.hid htI
          rw [htI]
          have hw2 : IntKind.i64.wrap ((t : Int) + 2) = (t : Int) + 2 := IntWalk.i64_in _ (by omega)
          clear hcx hx ht htI
          go_wp2_with (at_builtin; refine wpList_append_lies _ rfl (.tmp 32) (.tmp 38) 59 rfl w1.heap.size 61 i0 _ 2 16 Try.underlying59 hi hz0 hz1 hz2 rfl (by decide) (.slice A6 j c6) j (entC (((odds nx).take j).map fun x => (x, true))) rfl (HO.out.alloc _) ⟨wr.heap.size, 0, none⟩ 1 1 [.int .i64 x, .bool true] rfl rfl (World.news_of_block (cs := #[.int .i64 x, .bool true]) (t := 61) (fr := (0, 0)) (heap_alloc_new wr _)) (by simp [Value.oneCell']) (by omega) (by unfold maxLen; omega) (by omega) (by simp; omega) (wr.heap.size + 1) (by simp) ?_; intro g cap w2 hown2 hgrow hat hlt2)
          have HI : Hid (w2.ownsRow w1.heap.size 61 2 (.slice (some ⟨g, 0, none⟩) (j + 1) cap) (j + 1) (entC (((odds nx).take (j + 1)).map fun x => (x, true))) ∧ Below w1.heap.size w1 w2) :=
            Lib.hid ⟨by rw [entC_take2 HX.out]; exact hown2, app_below HBW1.out HO.out (Nat.le_refl _) hsz1 hgrow⟩
          clear hown2 hgrow hat hlt2
          go_wp2_with fail
          go_roundw
          case rel => exact ⟨j + 1, cap, some ⟨g, 0, none⟩, by omega, by have := HTI.out; rw [show (t : Int) + 2 = 2 * ((j + 1 : Nat) : Int) + 1 by omega], rfl, HI.out⟩
          case measure => have := HTI.out; simp [intOf]; omega
        · have hjn : j = nn / 2 := by omega
          have V6 : EntsV wr.heap.size wr (.slice A6 j c6) (tak1 nx) := by
            refine entsV_own (B := w1.heap.size) ?_
            have := HO.out
            rw [List.take_of_length_le (by rw [odds_len, HNNX.out]; omega)] at this
            have e : (tak1 nx).length = j := by unfold tak1; rw [List.length_map, odds_len, HNNX.out, hjn]
            rw [e]
            exact this
          have hBox := heap_alloc_new wr (.cells #[nilSl, nilSl] 51)
          have hBel := (Below.refl wr.heap.size wr).alloc (Nat.le_refl _) (.cells #[nilSl, nilSl] 51)
          have HM := Lib.hid (merge_any (.slice A5 k c5) (.slice A6 j c6) (own1 c) (tak1 nx) (wr.alloc (.cells #[nilSl, nilSl] 51))
            (((HV5.out.below HBW1.out).more hsz1).below hBel |>.more (by simp)) ((V6.below hBel).more (by simp)) (by
              unfold own1 tak1
              rw [List.length_map, List.length_map, odds_len, HNC.out, HNNX.out]
              omega))
          have HBOX := Lib.hid hBox
          have HR1 := Lib.hid ((bdOld ((HBW1.out.block _ (by omega)).trans HR.out)) : (wr.alloc (.cells #[nilSl, nilSl] 51)).heap[w.heap.size]? = _)
          have HBWW := Lib.hid ((HBW.out.trans (HBW1.out.mono (by omega))).trans (hBel.mono (by omega)))
          clear V6 hBox hBel HO hjn hj
          have hlt' : (nn : Int) ≤ 2 * (j : Int) + 1 := by omega
          clear hlt
          go_wp2_with fail
          refine HM.out.mono ?_
          rintro e w3 ⟨v, rfl, ho, hb⟩
          have hm3 : ((wr.alloc (.cells #[nilSl, nilSl] 51)).heap.size) = wr.heap.size + 1 := by simp
          rw [hm3] at ho hb
          have haug : mgk Prod.fst (own1 c) (tak1 nx) = aug c nx := rfl
          rw [haug] at ho
          obtain ⟨m, hmdef⟩ : ∃ m, m = aug c nx := ⟨_, rfl⟩
          rw [← hmdef] at ho ⊢
          have hml : m.length ≤ 6000 := by rw [hmdef, aug_len, HNC.out, HNNX.out]; omega
          have hb' := hb
          have hs3 := hb.size
          rw [hm3] at hs3
          have HOM := Lib.hid ho
          have HMD := Lib.hid hmdef
          have HI0 : Hid (AInv w w3 wr.heap.size m 0 none none 0 0 w3) := ⟨fun _ _ _ => rfl, Nat.le_refl _, (hb.block _ (by omega)).trans HBOX.out, World.ownsRow_nil _ _ _ _, World.ownsRow_nil _ _ _ _, fun g e => by simp [Value.ownBlock] at e, HBWW.out.trans (hb.mono (by omega))⟩
          have HR3 := Lib.hid ((hb.block _ (by omega)).trans HR1.out)
          clear ho hb hb' HM HBOX HR1 HBWW haug hm3
          obtain ⟨Am, cm, rfl⟩ : ∃ Am cm, v = .slice Am m.length cm := by
            rcases HOM.out.2 with ⟨rfl, h0⟩ | ⟨g, cap, cur, rfl, _⟩
            · exact ⟨none, 0, by rw [h0]⟩
            · exact ⟨_, _, rfl⟩
          obtain ⟨nm, hnm⟩ : ∃ nm, m.length = nm := ⟨_, rfl⟩
          have HOM2 : Hid (w3.ownsRow (wr.heap.size + 1) 61 2 (.slice Am nm cm) nm (entC m)) := by rw [← hnm]; exact HOM.out
          rw [hnm] at hml ⊢
          have HNM := Lib.hid hnm
          clear hnm hmdef HOM
          go_wp2_with fail
          obtain ⟨Lb, hLb⟩ : ∃ Lb, Lb = wr.heap.size := ⟨_, rfl⟩
          rw [← hLb] at HI0 HOM2 ⊢
          have hL3 : Lb < w3.heap.size := by omega
          have hwL : w.heap.size < Lb := by omega
          clear hLb HV5 HBW1 HBW HR
          obtain ⟨i1, hi1, hy0, hy1, hy2⟩ := info_parts Try.infoInt
          go_loopw [11, 44] (fun u i W => ∃ (k ck ct q : Nat) (Ak At : Option Addr), k ≤ nm ∧ i = .int .i64 k ∧ u = .int .i64 q ∧ q = cnt m k ∧ q ≤ k ∧ AInv w w3 Lb m k Ak At ck ct W) (fun _ i _ => nm - (intOf i).toNat)
          case atStart => exact ⟨0, 0, 0, 0, none, none, by omega, rfl, rfl, rfl, by omega, HI0.out⟩
          case round =>
            clear HI0
            obtain ⟨k, ck, ct, q, Ak, At, hk, rfl, rfl, hq, hqk, hinv⟩ := hrel
            have HQ := Lib.hid hq
            have HINV := Lib.hid hinv
            have hszW := hinv.size
            have hbx := hinv.box
            obtain ⟨⟨l0, l1⟩, lf0, lf1⟩ := bk2 hbx
            have hLw : Lb < wr.heap.size := bdLt hbx
            clear hq hinv hbx
            by_cases hlt : k < nm
            · obtain ⟨x, hx⟩ : ∃ x, m[k]? = some x := ⟨m[k]'(by rw [HNM.out]; exact hlt), List.getElem?_eq_getElem _⟩
              obtain ⟨b, hA, hb1, hb2, x0, x1⟩ := ents_own_get HOM2.out hx
              subst hA
              replace x0 := (World.cell?_of_block (a := ⟨b, k * 2, none⟩) (HINV.out.same b hb2 (by omega))).trans x0
              replace x1 := (World.cell?_of_block (a := ⟨b, k * 2 + 1, none⟩) (HINV.out.same b hb2 (by omega))).trans x1
              have HX := Lib.hid hx
              clear hx
              go_wp2_with (at_builtin; refine wpList_append_lies _ rfl (.tmp 49) (.tmp 52) 31 rfl w3.heap.size 3 i1 _ 1 8 Try.underlying31 hi1 hy0 hy1 hy2 rfl (by decide) (.slice Ak k ck) k (vals ((m.map Prod.fst).take k)) rfl ((HINV.out.keys.alloc _).alloc _) ⟨wr.heap.size + 1, 0, none⟩ 1 1 [.int .i64 x.1] rfl rfl ?d1 (by simp [Value.oneCell']) (by omega) (by unfold maxLen; omega) (by omega) (by simp; omega) (wr.heap.size + 2) (by simp) ?_)
              case d1 => exact World.news_of_block (cs := #[.int .i64 x.1]) (t := 3) (fr := (0, 0)) (by have := heap_alloc_new (wr.alloc (.cells #[.int .i64 x.1, .bool x.2] 61)) (.cells #[.int .i64 x.1] 3); simpa using this)
              intro gg cap W3 hown3 hgrow3 hat3 hlt3
              have h1 := aug_one (x := x) HINV.out hL3 (by omega) hown3 hgrow3 hat3
              have hneT : (Value.slice At k ct).ownBlock ≠ some wr.heap.size := fun e => by have := (HINV.out.taken.lt _ e).2; omega
              obtain ⟨⟨g0, g1⟩, gf0, gf1⟩ := bk2 h1.1.1
              have hL4 : Lb < W3.heap.size := bdLt h1.1.1
              have HH1 := Lib.hid h1
              have HOWN3 := Lib.hid hown3
              have HNET := Lib.hid hneT
              have hs3W := h1.1.2.2.2.1
              have htk4 : (W3.setCell ⟨Lb, 0, none⟩ (.slice (some ⟨gg, 0, none⟩) (k + 1) cap)).ownsRow w3.heap.size 3 1 (.slice At k ct) k (vals (tkp m k)) :=
                own_same h1.1.2.2.2.2.1 fun b e => setCell_other (by have := (h1.1.2.2.2.2.1.lt b e).1; omega)
              have HTK4 := Lib.hid htk4
              clear h1 hgrow3 hat3 hlt3 hown3 hneT htk4
              go_wp2_with (at_builtin; refine wpList_append_lies _ rfl (.tmp 56) (.tmp 58) 31 rfl w3.heap.size 3 i1 _ 1 8 Try.underlying31 hi1 hy0 hy1 hy2 rfl (by decide) (.slice At k ct) k (vals (tkp m k)) rfl (HTK4.out.alloc _) ⟨W3.heap.size, 0, none⟩ 1 1 [.int .i64 q] rfl rfl ?e1 (by simp [Value.oneCell']) (by omega) (by unfold maxLen; omega) (by omega) (by simp; omega) (W3.heap.size + 1) (by simp) ?_)
              case e1 => exact World.news_of_block (cs := #[.int .i64 q]) (t := 3) (fr := (0, 0)) (by have := heap_alloc_new (W3.setCell ⟨Lb, 0, none⟩ (.slice (some ⟨gg, 0, none⟩) (k + 1) cap)) (.cells #[.int .i64 q] 3); simpa using this)
              intro g2 cap2 W6 hown6 hgrow6 hat6 hlt6
              have h2 := aug_two HX.out hL3 (by omega) hszW HH1.out HOWN3.out rfl (by rw [← HQ.out]; exact hown6) hgrow6 hat6 HNET.out
              obtain ⟨m0, m1, m2⟩ := h2
              obtain ⟨⟨z0, z1⟩, zf0, zf1⟩ := bk2 m0
              obtain ⟨⟨y0, y1⟩, yf0, yf1⟩ := bk2 m1
              have HM2 := Lib.hid m2
              have hL6 : Lb < W6.heap.size := bdLt m0
              have hLne : wr.heap.size ≠ Lb := by omega
              clear m0 m1 m2 hown6 hgrow6 hat6 hlt6 HH1 HOWN3 HTK4 HINV g0 g1 gf0 gf1 l0 l1 lf0 lf1 x0 x1
              have hcs := cnt_snoc HX.out
              have HCS := Lib.hid hcs
              clear hcs
              cases hx2 : x.2
              · have HC2 : Hid (q = cnt m (k + 1)) := by rw [HCS.out, hx2, HQ.out]; rfl
                rw [hx2] at y1
                clear hx2
                go_wp2_with fail
                go_roundw
                case rel => exact ⟨k + 1, cap, cap2, q, some ⟨gg, 0, none⟩, some ⟨g2, 0, none⟩, by omega, by go_num, rfl, HC2.out, by omega, HM2.out⟩
                case measure => simp [intOf]; omega
              · have HC2 : Hid (q + 1 = cnt m (k + 1)) := by rw [HCS.out, hx2, HQ.out]; rfl
                rw [hx2] at y1
                clear hx2
                go_wp2_with fail
                go_roundw
                case rel => exact ⟨k + 1, cap, cap2, q + 1, some ⟨gg, 0, none⟩, some ⟨g2, 0, none⟩, by omega, by go_num, by go_num, HC2.out, by omega, HM2.out⟩
                case measure => simp [intOf]; omega
            · have hkn : k = nm := by omega
              have HKM : Hid (k = m.length) := by rw [HNM.out]; exact hkn
              have hR := HINV.out.same w.heap.size (by omega) (by omega)
              obtain ⟨⟨r0, r1⟩, rf0, rf1⟩ := bk2 (hR.trans HR3.out)
              have hRw : w.heap.size < wr.heap.size := by omega
              clear hkn hR
              go_wp2_with (at_builtin; refine wpList_append_lies _ rfl (.tmp 67) (.tmp 69) 31 rfl w3.heap.size 3 i1 _ 1 8 Try.underlying31 hi1 hy0 hy1 hy2 rfl (by decide) (.slice At k ct) k (vals (tkp m k)) rfl (HINV.out.taken.alloc _) ⟨wr.heap.size, 0, none⟩ 1 1 [.int .i64 q] rfl rfl (World.news_of_block (cs := #[.int .i64 q]) (t := 3) (fr := (0, 0)) (heap_alloc_new wr _)) (by simp [Value.oneCell']) (by omega) (by unfold maxLen; omega) (by omega) (by simp; omega) (wr.heap.size + 1) (by simp) ?_)
              intro g2 cap2 W6 hown6 hgrow6 hat6 hlt6
              obtain ⟨e1, e2, e3⟩ := aug_end HINV.out HR3.out hwL hL3 (by rw [← HQ.out]; exact hown6) HKM.out hgrow6
              obtain ⟨⟨z0, z1⟩, zf0, zf1⟩ := bk2 e1
              obtain ⟨⟨y0, y1⟩, yf0, yf1⟩ := bk2 e2
              have hR6 : w.heap.size < W6.heap.size := bdLt e2
              have hL6 : Lb < W6.heap.size := bdLt e1
              have hRLne : w.heap.size ≠ Lb := by omega
              have HE3 := Lib.hid e3
              clear e1 e2 e3 hown6 hgrow6 hat6 hlt6 l0 l1 lf0 lf1 r0 r1 rf0 rf1 HINV
              go_wp2_with fail
              refine bodyPost_ret (v := .agg #[.slice Ak k ck, .slice (some ⟨g2, 0, none⟩) (k + 1) cap2]) ?_ rfl ?_
              · simp [results, Try.results28, go_sem, y0, y1]
              · rw [← HMD.out]
                exact HE3.out
end Go.Proofs.Ytedjjleckhclcaa
