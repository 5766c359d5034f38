/- VersiontreeOrder: its walk. -/
import Derived.Deep.DeepCutAuto
import Derived.Deep.RegionWith
import Derived.Test.YthnlcbeibhhjpaaVtQ
namespace Go.Proofs.Ythnlcbeibhhjpaa
open Go.RowKit
set_option maxRecDepth 100000
theorem AncV.dep {Vs : List Vn} (h : VsOk Vs) {a b : Nat} (ha : AncV Vs a b) : ∀ {u v : Vn}, Vs[a]? = some u → Vs[b]? = some v → u.2.1 ≤ v.2.1 := by
  induction ha with
  | refl => intro u v hu hv; rw [hu] at hv; rw [Option.some.inj hv]; exact Int.le_refl _
  | @step b p v0 hb hp hr ih =>
    intro u v hu hv
    rw [hb] at hv
    have := Option.some.inj hv
    subst this
    by_cases hb0 : b = 0
    · subst hb0
      rw [h.root] at hb
      have := Option.some.inj hb
      rw [← this] at hp
      have h1 : (-1 : Int) = (p : Int) := hp
      omega
    · obtain ⟨p', j, u', e1, e2, e3, e4, _⟩ := h.rest b v0 hb (by omega)
      rw [hp] at e1
      have : p = p' := by omega
      subst this
      have := ih hu e3
      omega
theorem DeepV.of_anc {Vs : List Vn} (h : VsOk Vs) {a b c : Nat} (hc : DeepV Vs a b c) (ha : AncV Vs a b) : c = a := by
  have h1 := (hc.2.2 a .refl ha).le h
  have h2 := hc.1.le h
  omega
/-- An index, its pointer and a flag in boxes. -/
structure ZL (w : World) (B x xb ob : Nat) (Vs : List Vn) (W : World) : Prop where
  ix : IxM B x Vs W
  bx : W.heap[xb]? = some (.cells #[.pointer (some ⟨x, 0, none⟩)] 35 (0, 0))
  bo : W.heap[ob]? = some (.cells #[.bool true] 4 (0, 0))
  bel : Below w.heap.size w W
  hxb : w.heap.size ≤ xb
  hob : w.heap.size ≤ ob
  hne : xb ≠ ob
theorem ZL.next {w : World} {B x xb ob : Nat} {Vs : List Vn} {W W' : World} (h : ZL w B x xb ob Vs W) (hb : Below W.heap.size W W') : ZL w B x xb ob Vs W' :=
  ⟨h.ix.below hb, bdAt h.bx hb, bdAt h.bo hb, h.bel.trans (hb.mono h.bel.size), h.hxb, h.hob, h.hne⟩
theorem ZL.cells {w : World} {B x xb ob : Nat} {Vs : List Vn} {W : World} (h : ZL w B x xb ob Vs W) : W.cell? ⟨xb, 0, none⟩ = some (.pointer (some ⟨x, 0, none⟩)) ∧ W.cell? ⟨ob, 0, none⟩ = some (.bool true) := ⟨(bk1 h.bx).1, (bk1 h.bo).1⟩
theorem ZL.set {w : World} {B x xb ob : Nat} {Vs : List Vn} {W : World} (h : ZL w B x xb ob Vs W) : ZL w B x xb ob Vs (W.setCell ⟨ob, 0, none⟩ (.bool true)) :=
  ⟨h.ix.setOther h.bo (by decide) (by decide) (by decide), (heap_off h.hne).trans h.bx, heap_set W ob 0 _ h.bo, h.bel.setCell (p := ⟨ob, 0, none⟩) h.hob _, h.hxb, h.hob, h.hne⟩
set_option maxHeartbeats 4000000 in
theorem leq_any (w : World) (B x xb ob m a b : Nat) (Vs : List Vn) (W : World) (h : ZL w B x xb ob Vs W) (hm : Vs.length = m) (hml : m ≤ 1000) (ha : a < m) (hb : b < m) (bb : Bool) (hbb : bb = true ↔ AncV Vs a b) :
    Calls Try.prog 31 #[.int .i64 (a : Int), .int .i64 (b : Int), .pointer (some ⟨xb, 0, none⟩), .pointer (some ⟨ob, 0, none⟩)] W fun e w' => e = .returned (.bool bb) ∧ ZL w B x xb ob Vs w' := by
  have HZ := Lib.hid h
  have HA := Lib.hid (ix_anc_yes B x m a b Vs W h.ix hm hml ha hb bb hbb)
  obtain ⟨b0, b1⟩ := h.cells
  clear h hm hbb
  go_enter Try.func31, Try.ntmps31
  go_wp2_with fail
  refine HA.out.mono ?_
  rintro er w1 ⟨rfl, hb1⟩
  have HZ1 := Lib.hid (HZ.out.next hb1)
  clear hb1 b0 b1
  obtain ⟨b0, b1⟩ := HZ1.out.cells
  have f1 := (bk1 HZ1.out.bo).2
  go_wp2_with fail
  go_ret
  exact ⟨rfl, HZ1.out.set⟩
set_option maxHeartbeats 16000000 in
theorem lawOrder_any (A0 : Option Addr) (c0 : Nat) (L : List Int) (a b c : Int) (w : World) (hm : L.length ≤ maxLen) (hA : IntsAt (· < w.heap.size) w A0 L) :
    Calls Try.prog 6 #[.slice A0 L.length c0, .int .i64 a, .int .i64 b, .int .i64 c] w fun e w' => e = .returned (.bool true) ∧ Below w.heap.size w w' := by
  unfold maxLen at hm
  have HW := Lib.hid (awakeV_any w)
  have HA := Lib.hid hA
  obtain ⟨n, hn⟩ : ∃ n, L.length = n := ⟨_, rfl⟩
  rw [hn] at hm ⊢
  have HN := Lib.hid hn
  clear hn hA
  by_cases h60 : n ≤ 60
  case neg =>
    have d1 : decide ((60 : Int) < (n : Int)) = true := decide_eq_true (by omega)
    go_enter Try.func6, Try.ntmps6
    go_wp2_with fail
    refine HW.out.mono ?_
    rintro er w1 ⟨rfl, hb1⟩
    go_wp2_with fail
    go_ret
    exact ⟨rfl, hb1⟩
  have d1 : decide ((60 : Int) < (n : Int)) = false := decide_eq_false (by omega)
  go_enter Try.func6, Try.ntmps6
  go_wp2_with fail
  refine HW.out.mono ?_
  rintro er w1 ⟨rfl, hb1⟩
  have HB1 := Lib.hid hb1
  have HP := Lib.hid (grown_any A0 c0 n L w1 HN.out (by omega) ((HA.out.below hb1).more (fun b hb => by have := hb1.size; omega)))
  clear hb1 HW
  go_wp2_with fail
  refine HP.out.mono ?_
  rintro er w2 ⟨x, Vs, A, cap, rfl, hix, hr, hmk, hb2⟩
  have hok := hix.ok
  obtain ⟨m, hme⟩ : ∃ m, Vs.length = m := ⟨_, rfl⟩
  rw [hme] at hmk ⊢
  have hml : m ≤ 1000 := by omega
  obtain ⟨W3, hW3⟩ : ∃ W3, W3 = ((w2.alloc (.cells #[.pointer (some ⟨x, 0, none⟩)] 35)).alloc (.cells #[.slice A m cap] 24)).alloc (.cells #[.bool true] 4) := ⟨_, rfl⟩
  have hz1 := HB1.out.size
  have hz2 := hb2.size
  have hb3 : Below w2.heap.size w2 W3 := by rw [hW3]; exact (((Below.refl _ _).alloc (Nat.le_refl _) _).alloc (by simp) _).alloc (by simp; omega) _
  have HZ3 : Hid (ZL w (w1.heap.size + 1) x w2.heap.size (w2.heap.size + 1 + 1) Vs W3) := Lib.hid (by
    refine ⟨hix.below hb3, ?_, ?_, (HB1.out.trans (hb2.mono hz1)).trans (hb3.mono (by omega)), by omega, by omega, by omega⟩
    · rw [hW3]; exact bdOld (bdOld (bdNew w2 _))
    · rw [hW3]
      have := bdNew ((w2.alloc (.cells #[.pointer (some ⟨x, 0, none⟩)] 35)).alloc (.cells #[.slice A m cap] 24)) (.cells #[.bool true] 4)
      rw [show ((w2.alloc (.cells #[.pointer (some ⟨x, 0, none⟩)] 35)).alloc (.cells #[.slice A m cap] 24)).heap.size = w2.heap.size + 1 + 1 by simp] at this
      exact this)
  have HLEN := Lib.hid (ix_len (w1.heap.size + 1) x m Vs W3 HZ3.out.ix hme hml)
  have HW3 := Lib.hid hW3
  have HM := Lib.hid hme
  have HOK := Lib.hid hok
  clear hix hr hb2 hme HP hok hW3 hb3
  go_wp2_with fail
  rw [← HW3.out]
  refine HLEN.out.mono ?_
  rintro er w3 ⟨rfl, hb4⟩
  have HZ4 := Lib.hid (HZ3.out.next hb4)
  clear hb4 HW3 HLEN HZ3 hz1 hz2
  obtain ⟨z0, z1⟩ := HZ4.out.cells
  by_cases h0 : a < 0
  · have e0 : decide (a < 0) = true := decide_eq_true h0
    go_wp2_with fail
    go_ret
    exact ⟨rfl, HZ4.out.bel⟩
  have e0 : decide (a < 0) = false := decide_eq_false h0
  by_cases h1 : b < 0
  · have e1 : decide (b < 0) = true := decide_eq_true h1
    go_wp2_with fail
    go_ret
    exact ⟨rfl, HZ4.out.bel⟩
  have e1 : decide (b < 0) = false := decide_eq_false h1
  by_cases h2 : c < 0
  · have e2 : decide (c < 0) = true := decide_eq_true h2
    go_wp2_with fail
    go_ret
    exact ⟨rfl, HZ4.out.bel⟩
  have e2 : decide (c < 0) = false := decide_eq_false h2
  by_cases h3 : (m : Int) ≤ a
  · have e3 : decide ((m : Int) ≤ a) = true := decide_eq_true h3
    go_wp2_with fail
    go_ret
    exact ⟨rfl, HZ4.out.bel⟩
  have e3 : decide ((m : Int) ≤ a) = false := decide_eq_false h3
  by_cases h4 : (m : Int) ≤ b
  · have e4 : decide ((m : Int) ≤ b) = true := decide_eq_true h4
    go_wp2_with fail
    go_ret
    exact ⟨rfl, HZ4.out.bel⟩
  have e4 : decide ((m : Int) ≤ b) = false := decide_eq_false h4
  by_cases h5 : (m : Int) ≤ c
  · have e5 : decide ((m : Int) ≤ c) = true := decide_eq_true h5
    go_wp2_with fail
    go_ret
    exact ⟨rfl, HZ4.out.bel⟩
  have e5 : decide ((m : Int) ≤ c) = false := decide_eq_false h5
  obtain ⟨a, rfl⟩ : ∃ k : Nat, a = (k : Int) := ⟨a.toNat, by omega⟩
  obtain ⟨b, rfl⟩ : ∃ k : Nat, b = (k : Int) := ⟨b.toNat, by omega⟩
  obtain ⟨c, rfl⟩ : ∃ k : Nat, c = (k : Int) := ⟨c.toNat, by omega⟩
  have ha : a < m := by omega
  have hb : b < m := by omega
  have hc : c < m := by omega
  clear h0 h1 h2 h3 h4 h5
  have HC1 := Lib.hid (common_yes (w1.heap.size + 1) x a b m Vs _ HZ4.out.ix HM.out hml ha hb)
  go_wp2_with fail
  refine HC1.out.mono ?_
  rintro er w5 ⟨⟨d, rfl, hd1⟩, hb5⟩
  have HZ5 := Lib.hid (HZ4.out.next hb5)
  have HD1 := Lib.hid hd1
  have hdm : d < m := by have := hd1.1.le HOK.out; omega
  have HC2 := Lib.hid (common_yes (w1.heap.size + 1) x b a m Vs _ HZ5.out.ix HM.out hml hb ha)
  clear hb5 z0 z1 hd1
  obtain ⟨z0, z1⟩ := HZ5.out.cells
  go_wp2_with fail
  refine HC2.out.mono ?_
  rintro er w6 ⟨⟨d', rfl, hd2⟩, hb6⟩
  have HZ6 := Lib.hid (HZ5.out.next hb6)
  obtain rfl := hd2.swap.one HOK.out HD1.out
  obtain ⟨u, hu⟩ : ∃ v, Vs[a]? = some v := ⟨Vs[a]'(by rw [HM.out]; exact ha), List.getElem?_eq_getElem _⟩
  obtain ⟨v, hv⟩ : ∃ v, Vs[b]? = some v := ⟨Vs[b]'(by rw [HM.out]; exact hb), List.getElem?_eq_getElem _⟩
  have HDA := Lib.hid (ix_depth_yes (w1.heap.size + 1) x m a Vs u _ HZ6.out.ix HM.out hml hu)
  have HDB := Lib.hid (fun W (h : ZL w (w1.heap.size + 1) x w2.heap.size (w2.heap.size + 1 + 1) Vs W) => ix_depth_yes (w1.heap.size + 1) x m b Vs v W h.ix HM.out hml hv)
  have HDLE : Hid (AncV Vs a b → u.2.1 ≤ v.2.1) := Lib.hid (fun h => h.dep HOK.out hu hv)
  obtain ⟨du, hdu⟩ : ∃ k, k = u.2.1 := ⟨_, rfl⟩
  obtain ⟨dv, hdv⟩ : ∃ k, k = v.2.1 := ⟨_, rfl⟩
  rw [← hdu] at HDA HDLE
  rw [← hdv] at HDB HDLE
  clear hb6 z0 z1 hd2 hu hv hdu hdv
  obtain ⟨z0, z1⟩ := HZ6.out.cells
  go_wp2_with fail
  refine HDA.out.mono ?_
  rintro er w7 ⟨rfl, hb7⟩
  have HZ7 := Lib.hid (HZ6.out.next hb7)
  have HDB' := Lib.hid (HDB.out _ HZ7.out)
  clear hb7 z0 z1
  obtain ⟨z0, z1⟩ := HZ7.out.cells
  go_wp2_with fail
  refine HDB'.out.mono ?_
  rintro er w8 ⟨rfl, hb8⟩
  have HZ8 := Lib.hid (HZ7.out.next hb8)
  clear hb8 z0 z1
  obtain ⟨z0, z1⟩ := HZ8.out.cells
  have HT : Hid (∀ p q : Nat, AncV Vs p q → q < m → ∀ W, ZL w (w1.heap.size + 1) x w2.heap.size (w2.heap.size + 1 + 1) Vs W → Calls Try.prog 31 #[.int .i64 (p : Int), .int .i64 (q : Int), .pointer (some ⟨w2.heap.size, 0, none⟩), .pointer (some ⟨w2.heap.size + 1 + 1, 0, none⟩)] W fun e w' => e = .returned (.bool true) ∧ ZL w (w1.heap.size + 1) x w2.heap.size (w2.heap.size + 1 + 1) Vs w') := Lib.hid fun p q h hq W hZ => leq_any w _ x _ _ m p q Vs W hZ HM.out hml (by have := h.le HOK.out; omega) hq true (by simp [h])
  have HF : Hid (∀ p q : Nat, ¬ AncV Vs p q → p < m → q < m → ∀ W, ZL w (w1.heap.size + 1) x w2.heap.size (w2.heap.size + 1 + 1) Vs W → Calls Try.prog 31 #[.int .i64 (p : Int), .int .i64 (q : Int), .pointer (some ⟨w2.heap.size, 0, none⟩), .pointer (some ⟨w2.heap.size + 1 + 1, 0, none⟩)] W fun e w' => e = .returned (.bool false) ∧ ZL w (w1.heap.size + 1) x w2.heap.size (w2.heap.size + 1 + 1) Vs w') := Lib.hid fun p q h hp hq W hZ => leq_any w _ x _ _ m p q Vs W hZ HM.out hml hp hq false (by simp [h])
  have HAA := Lib.hid (HT.out a a .refl ha)
  have H0A := Lib.hid (HT.out 0 a (AncV.zero HOK.out a (by rw [HM.out]; exact ha)) ha)
  have HMA := Lib.hid (HT.out d' a HD1.out.1 ha)
  have HMB := Lib.hid (HT.out d' b HD1.out.2.1 hb)
  have hdd : ((d' : Int) != (d' : Int)) = false := by simp
  go_wp2_with fail
  refine (HAA.out _ HZ8.out).mono ?_
  rintro er wz ⟨rfl, hz⟩
  have HZ9 := Lib.hid hz
  clear z0 z1 hz
  obtain ⟨z0, z1⟩ := HZ9.out.cells
  go_wp2_with fail
  refine (H0A.out _ HZ9.out).mono ?_
  rintro er wz ⟨rfl, hz⟩
  have HZ10 := Lib.hid hz
  clear z0 z1 hz
  obtain ⟨z0, z1⟩ := HZ10.out.cells
  go_wp2_with fail
  refine (HMA.out _ HZ10.out).mono ?_
  rintro er wz ⟨rfl, hz⟩
  have HZ11 := Lib.hid hz
  clear z0 z1 hz
  obtain ⟨z0, z1⟩ := HZ11.out.cells
  go_wp2_with fail
  refine (HMB.out _ HZ11.out).mono ?_
  rintro er wz ⟨rfl, hz⟩
  have HZ12 := Lib.hid hz
  clear z0 z1 hz
  obtain ⟨z0, z1⟩ := HZ12.out.cells
  go_upto_region 18 with fail
  go_cut [172] from 22 (fun v wx => v = .bool false ∧ ZL w (w1.heap.size + 1) x w2.heap.size (w2.heap.size + 1 + 1) Vs wx)
  case first =>
    by_cases hab : AncV Vs a b
    case neg =>
      have HAB := Lib.hid (HF.out a b hab ha hb)
      clear hab
      go_wp2_with fail
      refine (HAB.out _ HZ12.out).mono ?_
      rintro er wz ⟨rfl, hz⟩
      have HZ13 := Lib.hid hz
      clear z0 z1 hz
      obtain ⟨z0, z1⟩ := HZ13.out.cells
      go_wp2_with fail
      go_meet
      exact ⟨rfl, HZ13.out⟩
    have HAB := Lib.hid (HT.out a b hab hb)
    have HABF := Lib.hid hab
    have hdu : decide (dv < du) = false := decide_eq_false (by have := HDLE.out hab; omega)
    have hda : d' = a := HD1.out.of_anc HOK.out hab
    have hda2 : ((d' : Int) != (a : Int)) = false := by rw [hda]; simp
    clear hab hda
    by_cases hba : AncV Vs b a
    · have hab' : a = b := by have h1 := hba.le HOK.out; have h2 := HABF.out.le HOK.out; omega
      have hne : ((a : Int) != (b : Int)) = false := by rw [hab']; simp
      have HBA := Lib.hid (HT.out b a hba ha)
      clear hba hab'
      by_cases hbc : AncV Vs b c
      · have HBC := Lib.hid (HT.out b c hbc hc)
        have HAC := Lib.hid (HT.out a c (HABF.out.trans hbc) hc)
        clear hbc
        go_wp2_with fail
        refine (HAB.out _ HZ12.out).mono ?_
        rintro er wz ⟨rfl, hz⟩
        have HZ13 := Lib.hid hz
        clear z0 z1 hz
        obtain ⟨z0, z1⟩ := HZ13.out.cells
        go_wp2_with fail
        refine (HBA.out _ HZ13.out).mono ?_
        rintro er wz ⟨rfl, hz⟩
        have HZ14 := Lib.hid hz
        clear z0 z1 hz
        obtain ⟨z0, z1⟩ := HZ14.out.cells
        go_wp2_with fail
        refine (HBC.out _ HZ14.out).mono ?_
        rintro er wz ⟨rfl, hz⟩
        have HZ15 := Lib.hid hz
        clear z0 z1 hz
        obtain ⟨z0, z1⟩ := HZ15.out.cells
        go_wp2_with fail
        refine (HAC.out _ HZ15.out).mono ?_
        rintro er wz ⟨rfl, hz⟩
        have HZ16 := Lib.hid hz
        clear z0 z1 hz
        obtain ⟨z0, z1⟩ := HZ16.out.cells
        go_wp2_with fail
        go_meet
        exact ⟨rfl, HZ16.out⟩
      · have HBC := Lib.hid (HF.out b c hbc hb hc)
        clear hbc
        go_wp2_with fail
        refine (HAB.out _ HZ12.out).mono ?_
        rintro er wz ⟨rfl, hz⟩
        have HZ13 := Lib.hid hz
        clear z0 z1 hz
        obtain ⟨z0, z1⟩ := HZ13.out.cells
        go_wp2_with fail
        refine (HBA.out _ HZ13.out).mono ?_
        rintro er wz ⟨rfl, hz⟩
        have HZ14 := Lib.hid hz
        clear z0 z1 hz
        obtain ⟨z0, z1⟩ := HZ14.out.cells
        go_wp2_with fail
        refine (HBC.out _ HZ14.out).mono ?_
        rintro er wz ⟨rfl, hz⟩
        have HZ15 := Lib.hid hz
        clear z0 z1 hz
        obtain ⟨z0, z1⟩ := HZ15.out.cells
        go_wp2_with fail
        go_meet
        exact ⟨rfl, HZ15.out⟩
    · have HBA := Lib.hid (HF.out b a hba hb ha)
      clear hba
      by_cases hbc : AncV Vs b c
      · have HBC := Lib.hid (HT.out b c hbc hc)
        have HAC := Lib.hid (HT.out a c (HABF.out.trans hbc) hc)
        clear hbc
        go_wp2_with fail
        refine (HAB.out _ HZ12.out).mono ?_
        rintro er wz ⟨rfl, hz⟩
        have HZ13 := Lib.hid hz
        clear z0 z1 hz
        obtain ⟨z0, z1⟩ := HZ13.out.cells
        go_wp2_with fail
        refine (HBA.out _ HZ13.out).mono ?_
        rintro er wz ⟨rfl, hz⟩
        have HZ14 := Lib.hid hz
        clear z0 z1 hz
        obtain ⟨z0, z1⟩ := HZ14.out.cells
        go_wp2_with fail
        refine (HBC.out _ HZ14.out).mono ?_
        rintro er wz ⟨rfl, hz⟩
        have HZ15 := Lib.hid hz
        clear z0 z1 hz
        obtain ⟨z0, z1⟩ := HZ15.out.cells
        go_wp2_with fail
        refine (HAC.out _ HZ15.out).mono ?_
        rintro er wz ⟨rfl, hz⟩
        have HZ16 := Lib.hid hz
        clear z0 z1 hz
        obtain ⟨z0, z1⟩ := HZ16.out.cells
        go_wp2_with fail
        go_meet
        exact ⟨rfl, HZ16.out⟩
      · have HBC := Lib.hid (HF.out b c hbc hb hc)
        clear hbc
        go_wp2_with fail
        refine (HAB.out _ HZ12.out).mono ?_
        rintro er wz ⟨rfl, hz⟩
        have HZ13 := Lib.hid hz
        clear z0 z1 hz
        obtain ⟨z0, z1⟩ := HZ13.out.cells
        go_wp2_with fail
        refine (HBA.out _ HZ13.out).mono ?_
        rintro er wz ⟨rfl, hz⟩
        have HZ14 := Lib.hid hz
        clear z0 z1 hz
        obtain ⟨z0, z1⟩ := HZ14.out.cells
        go_wp2_with fail
        refine (HBC.out _ HZ14.out).mono ?_
        rintro er wz ⟨rfl, hz⟩
        have HZ15 := Lib.hid hz
        clear z0 z1 hz
        obtain ⟨z0, z1⟩ := HZ15.out.cells
        go_wp2_with fail
        go_meet
        exact ⟨rfl, HZ15.out⟩
  case rest =>
    obtain ⟨rfl, hzc⟩ := hcut
    have HZC := Lib.hid hzc
    clear hzc z0 z1
    obtain ⟨z0, z1⟩ := HZC.out.cells
    by_cases hca : AncV Vs c a
    case neg =>
      have HCA := Lib.hid (HF.out c a hca hc ha)
      clear hca
      go_wp2_with fail
      refine (HCA.out _ HZC.out).mono ?_
      rintro er wz ⟨rfl, hz⟩
      have HZD := Lib.hid hz
      clear z0 z1 hz
      obtain ⟨z0, z1⟩ := HZD.out.cells
      go_wp2_with fail
      go_ret
      exact ⟨rfl, HZD.out.bel⟩
    have HCA := Lib.hid (HT.out c a hca ha)
    by_cases hcb : AncV Vs c b
    case neg =>
      have HCB := Lib.hid (HF.out c b hcb hc hb)
      clear hca hcb
      go_wp2_with fail
      refine (HCA.out _ HZC.out).mono ?_
      rintro er wz ⟨rfl, hz⟩
      have HZD := Lib.hid hz
      clear z0 z1 hz
      obtain ⟨z0, z1⟩ := HZD.out.cells
      go_wp2_with fail
      refine (HCB.out _ HZD.out).mono ?_
      rintro er wz ⟨rfl, hz⟩
      have HZE := Lib.hid hz
      clear z0 z1 hz
      obtain ⟨z0, z1⟩ := HZE.out.cells
      go_wp2_with fail
      go_ret
      exact ⟨rfl, HZE.out.bel⟩
    have HCB := Lib.hid (HT.out c b hcb hb)
    have HCM := Lib.hid (HT.out c d' (HD1.out.2.2 c hca hcb) hdm)
    clear hca hcb
    go_wp2_with fail
    refine (HCA.out _ HZC.out).mono ?_
    rintro er wz ⟨rfl, hz⟩
    have HZD := Lib.hid hz
    clear z0 z1 hz
    obtain ⟨z0, z1⟩ := HZD.out.cells
    go_wp2_with fail
    refine (HCB.out _ HZD.out).mono ?_
    rintro er wz ⟨rfl, hz⟩
    have HZE := Lib.hid hz
    clear z0 z1 hz
    obtain ⟨z0, z1⟩ := HZE.out.cells
    go_wp2_with fail
    refine (HCM.out _ HZE.out).mono ?_
    rintro er wz ⟨rfl, hz⟩
    have HZF := Lib.hid hz
    clear z0 z1 hz
    obtain ⟨z0, z1⟩ := HZF.out.cells
    go_wp2_with fail
    go_ret
    exact ⟨rfl, HZF.out.bel⟩
end Go.Proofs.Ythnlcbeibhhjpaa
