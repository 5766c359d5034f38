/- The reference's Ancestor, Common, Path. -/
import Derived.Test.YthnlcbeibhhjpaaVtO
namespace Go.Proofs.Ythnlcbeibhhjpaa
open Go.RowKit
set_option maxRecDepth 100000
set_option maxHeartbeats 4000000 in
theorem refAnc_any (A : Option Addr) (cap n a b : Nat) (Vs : List Vn) (w : World) (hok : VsOk Vs) (hn : Vs.length = n) (_hnl : n ≤ 1000) (h : IntsAt (· < w.heap.size) w A (parV Vs)) (ha : a < n) (hb : b < n) (bb : Bool) (hbb : bb = true ↔ AncV Vs a b) :
    Calls Try.prog 27 #[.agg #[.slice A n cap], .int .i64 (a : Int), .int .i64 (b : Int)] w fun e w' => e = .returned (.bool bb) ∧ Below w.heap.size w w' := by
  have H1 := Lib.hid h
  have HOK := Lib.hid hok
  have HN := Lib.hid hn
  have HBB := Lib.hid hbb
  have HB : Hid (Below w.heap.size w (w.alloc (.cells #[.slice A n cap] 24))) := Lib.hid ((Below.refl _ _).alloc (Nat.le_refl _) _)
  clear h hok hn hbb
  go_enter Try.func27, Try.ntmps27
  go_wp2_with fail
  go_loop [7] (fun s => (s = .int .i64 (-1) ∧ ¬ AncV Vs a b) ∨ ∃ y : Nat, s = .int .i64 y ∧ y < n ∧ (AncV Vs a b ↔ AncV Vs a y)) (fun s => (intOf s + 1).toNat)
  case atStart => exact Or.inr ⟨b, rfl, hb, Iff.rfl⟩
  case round =>
    rcases hrel with ⟨rfl, hno⟩ | ⟨y, rfl, hy, hiff⟩
    · have hbf : Hid (bb = false) := Lib.hid (by
        cases hv : bb
        · rfl
        · exact absurd (HBB.out.1 hv) hno)
      clear hno
      go_wp2_with fail
      go_ret
      exact ⟨by rw [hbf.out]; rfl, HB.out⟩
    · have HI := Lib.hid hiff
      have hy0 : (0 : Int) ≤ (y : Int) := by omega
      have hyI : (y : Int) < (n : Int) := by omega
      obtain ⟨v, hv⟩ : ∃ v, Vs[y]? = some v := ⟨Vs[y]'(by rw [HN.out]; exact hy), List.getElem?_eq_getElem _⟩
      obtain ⟨gb, off, hA, hgb, y0⟩ := H1.out.get (parV_at hv)
      subst hA
      have HV := Lib.hid hv
      obtain ⟨d, hd⟩ : ∃ d, d = v.1 := ⟨_, rfl⟩
      rw [← hd] at y0
      have HD := Lib.hid hd
      clear hiff hv hd
      by_cases hya : y = a
      · subst hya
        have hbt : Hid (bb = true) := Lib.hid (HBB.out.2 (HI.out.2 .refl))
        go_wp2_with fail
        go_ret
        exact ⟨by rw [hbt.out]; rfl, HB.out⟩
      · have hne : ((y : Int) == (a : Int)) = false := by simp; omega
        have HYA := Lib.hid hya
        clear hya
        go_wp2_with fail
        go_round
        case rel =>
          by_cases hy00 : y = 0
          · subst hy00
            left
            have h1 := HV.out
            rw [HOK.out.root] at h1
            have h2 := Option.some.inj h1
            refine ⟨by rw [HD.out, ← h2], fun hab => ?_⟩
            have h3 := (HI.out.1 hab).le HOK.out
            exact HYA.out (by omega)
          · right
            obtain ⟨p, j, u, e1, e2, _⟩ := HOK.out.rest y v HV.out (by omega)
            exact ⟨p, by rw [HD.out, e1], by omega, HI.out.trans ⟨fun h => h.up HV.out e1 (fun e => HYA.out e.symm), fun h => .step HV.out e1 h⟩⟩
        case measure =>
          have : d < (y : Int) := by
            rw [HD.out]
            by_cases hy00 : y = 0
            · subst hy00
              have h1 := HV.out
              rw [HOK.out.root] at h1
              have h2 := Option.some.inj h1
              rw [← h2]; decide
            · obtain ⟨p, j, u, e1, e2, _⟩ := HOK.out.rest y v HV.out (by omega)
              omega
          simp [intOf]; omega
theorem DeepV.one {Vs : List Vn} (h : VsOk Vs) {a b c c' : Nat} (hc : DeepV Vs a b c) (hc' : DeepV Vs a b c') : c = c' := by
  have h1 := (hc.2.2 c' hc'.1 hc'.2.1).le h
  have h2 := (hc'.2.2 c hc.1 hc.2.1).le h
  omega
theorem DeepV.swap {Vs : List Vn} {a b c : Nat} (hc : DeepV Vs a b c) : DeepV Vs b a c := ⟨hc.2.1, hc.1, fun d h1 h2 => hc.2.2 d h2 h1⟩
set_option maxHeartbeats 4000000 in
theorem refCommon_any (A : Option Addr) (cap n a b : Nat) (Vs : List Vn) (w : World) (hok : VsOk Vs) (hn : Vs.length = n) (hnl : n ≤ 1000) (h : IntsAt (· < w.heap.size) w A (parV Vs)) (ha : a < n) (hb : b < n) :
    Calls Try.prog 28 #[.agg #[.slice A n cap], .int .i64 (a : Int), .int .i64 (b : Int)] w fun e w' => (∃ c : Nat, e = .returned (.int .i64 c) ∧ DeepV Vs a b c) ∧ Below w.heap.size w w' := by
  have H1 := Lib.hid h
  have HOK := Lib.hid hok
  have HN := Lib.hid hn
  have HB : Hid (Below w.heap.size w (w.alloc (.cells #[.slice A n cap] 24))) := Lib.hid ((Below.refl _ _).alloc (Nat.le_refl _) _)
  have HX : Hid ((w.alloc (.cells #[.slice A n cap] 24)).heap[w.heap.size]? = some (.cells #[.slice A n cap] 24 (0, 0))) := Lib.hid (bdNew w _)
  clear h hok hn
  go_enter Try.func28, Try.ntmps28
  go_wp2_with fail
  go_loopw [7] (fun s wr => (∃ y : Nat, s = .int .i64 y ∧ y < n ∧ AncV Vs y a ∧ ∀ d, AncV Vs d a → AncV Vs d b → AncV Vs d y) ∧ Below (w.alloc (.cells #[.slice A n cap] 24)).heap.size (w.alloc (.cells #[.slice A n cap] 24)) wr) (fun s _ => (intOf s + 1).toNat)
  case atStart => exact ⟨⟨a, rfl, ha, .refl, fun d h _ => h⟩, Below.refl _ _⟩
  case round =>
    obtain ⟨⟨y, rfl, hy, hya, hyd⟩, hb1⟩ := hrel
    have HYA := Lib.hid hya
    have HYD := Lib.hid hyd
    have hsz := hb1.size
    simp at hsz
    obtain ⟨x0, f0⟩ := bk1 ((hb1.block _ (by simp)).trans HX.out)
    have hbw : Below w.heap.size w wr := HB.out.trans (hb1.mono (by simp))
    have HB1 := Lib.hid hb1
    have HBW := Lib.hid hbw
    have hy0 : (0 : Int) ≤ (y : Int) := by omega
    have hyI : (y : Int) < (n : Int) := by omega
    obtain ⟨v, hv⟩ : ∃ v, Vs[y]? = some v := ⟨Vs[y]'(by rw [HN.out]; exact hy), List.getElem?_eq_getElem _⟩
    have hIw := H1.out.below hbw
    obtain ⟨gb, off, hA, hgb, y0⟩ := hIw.get (parV_at hv)
    have HV := Lib.hid hv
    have hIr : IntsAt (· < wr.heap.size) wr A (parV Vs) := hIw.more fun b hb => by have := hbw.size; omega
    have HR := Lib.hid (refAnc_any A cap n y b Vs wr HOK.out HN.out hnl hIr hy hb)
    subst hA
    obtain ⟨d, hd⟩ : ∃ d, d = v.1 := ⟨_, rfl⟩
    rw [← hd] at y0
    have HD := Lib.hid hd
    clear hya hyd hb1 hbw hv hIw hIr hd
    by_cases hab : AncV Vs y b
    · have HAB := Lib.hid hab
      have HR' := Lib.hid (HR.out true (by simp [hab]))
      clear hab
      go_wp2_with fail
      refine HR'.out.mono ?_
      rintro er w2 ⟨rfl, hb2⟩
      have HB2 := Lib.hid hb2
      clear hb2
      go_wp2_with fail
      go_ret
      exact ⟨⟨y, rfl, HYA.out, HAB.out, HYD.out⟩, HBW.out.trans (HB2.out.mono (by omega))⟩
    · have HAB := Lib.hid hab
      have HR' := Lib.hid (HR.out false (by simp [hab]))
      clear hab
      go_wp2_with fail
      refine HR'.out.mono ?_
      rintro er w2 ⟨rfl, hb2⟩
      have HB2 := Lib.hid hb2
      have x0' := (hb2.cell (p := ⟨w.heap.size, 0, none⟩) (by show w.heap.size < wr.heap.size; omega)).trans x0
      have y0' := (hb2.cell (p := ⟨gb, off + y, none⟩) (by show gb < wr.heap.size; omega)).trans y0
      clear hb2 x0 y0
      go_wp2_with fail
      have hpos : 0 < y := by
        rcases Nat.eq_zero_or_pos y with h0 | h0
        · subst h0
          exact absurd (AncV.zero HOK.out b (by have := HN.out; omega)) HAB.out
        · exact h0
      go_roundw
      case rel =>
        obtain ⟨p, j, u, e1, e2, _⟩ := HOK.out.rest y v HV.out hpos
        refine ⟨⟨p, by rw [HD.out, e1], by omega, (AncV.step HV.out e1 .refl).trans HYA.out, fun d' h1 h2 => ?_⟩, HB1.out.trans (HB2.out.mono (by simp; omega))⟩
        exact (HYD.out d' h1 h2).up HV.out e1 (fun e => HAB.out (e ▸ h2))
      case measure =>
        obtain ⟨p, j, u, e1, e2, _⟩ := HOK.out.rest y v HV.out hpos
        have h3 := HD.out
        simp [intOf]; omega
set_option maxHeartbeats 8000000 in
theorem refPath_any (A : Option Addr) (cap n k m : Nat) (P : List Int) (l : List Int) (w : World) (hn : P.length = n) (hnl : n ≤ 1000) (h : IntsAt (· < w.heap.size) w A P) (hll : l.length ≤ n) (hk : k < n) (hu : Up P k l) (hm : m = l.length) :
    Calls Try.prog 19 #[.agg #[.slice A n cap], .int .i64 (k : Int)] w fun e w' => (∃ A' cp, e = .returned (.slice A' m cp) ∧ ORow w.heap.size w' A' cp l.reverse) ∧ Below w.heap.size w w' := by
  have H1 := Lib.hid h
  have HN := Lib.hid hn
  have HM := Lib.hid hm
  rw [← hm] at hll
  have HU := Lib.hid hu
  obtain ⟨i1, hi1, hy0, hy1, hy2⟩ := info_parts Try.infoInt
  obtain ⟨w1, hw1⟩ : ∃ w1, w1 = w.alloc (.cells #[.slice A n cap] 24) := ⟨_, rfl⟩
  have HB1 : Hid (Below w.heap.size w w1) := Lib.hid (by rw [hw1]; exact (Below.refl _ _).alloc (Nat.le_refl _) _)
  have HX1 : Hid (w1.heap[w.heap.size]? = some (.cells #[.slice A n cap] 24 (0, 0))) := Lib.hid (by rw [hw1]; exact bdNew w _)
  have hz1 : w1.heap.size = w.heap.size + 1 := by rw [hw1]; simp
  have HZ1 := Lib.hid hz1
  have hlt1 : w.heap.size < w1.heap.size := by omega
  have HW1 := Lib.hid hw1
  clear h hn hm hu hw1 hz1
  go_enter Try.func19, Try.ntmps19
  go_wp2_with fail
  rw [← HW1.out]
  go_loopw [5, 6] (fun s5 s6 wr => ∃ (x : Int) (dn rest : List Int) (j cp : Nat) (A7 : Option Addr), l = dn ++ rest ∧ UpRest P x rest ∧ s6 = .int .i64 x ∧ j = dn.length ∧ s5 = .slice A7 j cp ∧ wr.ownsRow w1.heap.size 3 1 (.slice A7 j cp) j (dn.map (Value.int .i64)) ∧ Below w1.heap.size w1 wr) (fun s5 _ _ => l.length - slLen s5)
  case atStart => exact ⟨k, [], l, 0, 0, none, rfl, Or.inr ⟨k, rfl, HU.out⟩, rfl, rfl, rfl, World.ownsRow_nil _ _ _ _, Below.refl _ _⟩
  case round =>
    obtain ⟨x, dn, rest, j, cp, A7, hl, hur, rfl, hj, rfl, how, hb⟩ := hrel
    have HLe := Lib.hid hl
    have HJ := Lib.hid hj
    have HOW := Lib.hid how
    have HB := Lib.hid hb
    have hsz := hb.size
    have hlen : l.length = dn.length + rest.length := by rw [hl, List.length_append]
    have hjm : j + rest.length = m := by have := HM.out; omega
    rcases hur.cases with ⟨rfl, rfl⟩ | ⟨y, pp, rest', rfl, rfl, hp, hur'⟩
    · have hjm2 : j = m := by simpa using hjm
      have hlr : dn = l := by simpa using hl.symm
      subst hlr
      subst hjm2
      have hjpos : 0 < j := by
        have := HU.out
        cases this with
        | root _ => rw [hj]; simp
        | step _ _ _ => rw [hj]; simp
      obtain ⟨g, cp', hv, hg, hgl⟩ := how.form hjpos
      have hA : A7 = some ⟨g, 0, none⟩ := by injection hv
      subst hA
      have HJM := Lib.hid hjm
      clear hl hj how hb hlen hv hjm
      go_wp2_with fail
      obtain ⟨wo, rfl⟩ : ∃ wo, wo = wr := ⟨_, rfl⟩
      go_loopw [7, 8] (fun s7 s8 W => ∃ (q : Nat) (i : Int) (cq : Nat) (A9 : Option Addr), q ≤ j ∧ i = (j : Int) - 1 - (q : Int) ∧ s8 = .int .i64 i ∧ s7 = .slice A9 q cq ∧ W.ownsRow wo.heap.size 3 1 (.slice A9 q cq) q ((dn.reverse.take q).map (Value.int .i64)) ∧ Below wo.heap.size wo W) (fun _ s8 _ => (intOf s8 + 1).toNat)
      case atStart => exact ⟨0, _, 0, none, by omega, by simp, rfl, rfl, World.ownsRow_nil _ _ _ _, Below.refl _ _⟩
      case round =>
        obtain ⟨q, i, cq, A9, hq, hi, rfl, rfl, how2, hb2⟩ := hrel
        have HI := Lib.hid hi
        have HOW2 := Lib.hid how2
        have HB2 := Lib.hid hb2
        have hsz2 := hb2.size
        by_cases hqj : q < j
        · obtain ⟨t, ht⟩ : ∃ t : Nat, i = (t : Int) := ⟨i.toNat, by omega⟩
          subst ht
          have htj : t = j - 1 - q := by omega
          have htI : (t : Int) < (j : Int) := by omega
          have ht0 : (0 : Int) ≤ (t : Int) := by omega
          obtain ⟨e, he⟩ : ∃ e, dn[t]? = some e := ⟨dn[t]'(by have := HJ.out; omega), List.getElem?_eq_getElem _⟩
          have y0 : wo.cell? ⟨g, t, none⟩ = some (.int .i64 e) := (HOW.out.cellAt t (by omega)).trans (by rw [List.getElem?_map, he]; rfl)
          have y1 := (hb2.cell (p := ⟨g, t, none⟩) (by show g < wo.heap.size; omega)).trans y0
          have HTK : Hid (dn.reverse.take (q + 1) = dn.reverse.take q ++ [e]) := Lib.hid (by
            rw [List.take_add_one, List.getElem?_reverse (by have := HJ.out; omega), ← HJ.out, show j - 1 - q = t by omega, he]; rfl)
          have hgW : g < wr.heap.size := by omega
          clear he y0 htj hi how2 hb2
          go_wp2_with (at_builtin; refine wpList_append_lies _ rfl (.tmp 28) (.tmp 33) 22 rfl wo.heap.size 3 i1 _ 1 8 Try.underlying22 hi1 hy0 hy1 hy2 rfl (by decide) (.slice A9 q cq) q ((dn.reverse.take q).map (Value.int .i64)) rfl (HOW2.out.alloc _) ⟨wr.heap.size, 0, none⟩ 1 1 [.int .i64 e] rfl rfl (World.news_of_block (cs := #[.int .i64 e]) (t := 3) (fr := (0, 0)) (heap_alloc_new wr _)) (by simp [Value.oneCell']) (by omega) (by unfold maxLen; omega) (by omega) (by simp; omega) (wr.heap.size + 1) (by simp) ?_)
          intro g2 cap2 W6 hown6 hgrow6 hat6 hlt6
          have hb6 : Below wo.heap.size wo W6 := (HB2.out.alloc hsz2 _).grown hgrow6 (by simp; omega) (fun k' e => by have := (HOW2.out.lt k' e).1; omega)
          have HB6 := Lib.hid hb6
          have HO6 : Hid (W6.ownsRow wo.heap.size 3 1 (.slice (some ⟨g2, 0, none⟩) (q + 1) cap2) (q + 1) ((dn.reverse.take (q + 1)).map (Value.int .i64))) := Lib.hid (by rw [HTK.out]; simpa using hown6)
          clear hown6 hgrow6 hat6 hlt6 hb6 y1
          go_wp2_with fail
          go_roundw
          case rel => exact ⟨q + 1, (t : Int) - 1, cap2, some ⟨g2, 0, none⟩, by omega, by have := HI.out; omega, by go_num, rfl, HO6.out, HB6.out⟩
          case measure => simp [intOf]
        · have hqe : q = j := by omega
          subst hqe
          have hi1' : i = -1 := by omega
          subst hi1'
          clear hi how2 hb2
          go_wp2_with fail
          go_ret
          refine ⟨⟨A9, cq, rfl, ?_⟩, HB1.out.trans ((HB.out.trans (HB2.out.mono hsz)).mono (by omega))⟩
          have h1 := HOW2.out
          rw [List.take_of_length_le (by rw [List.length_reverse, ← HJ.out]; exact Nat.le_refl _)] at h1
          have h2 : ORow wo.heap.size wr A9 cq dn.reverse := by unfold ORow; rw [List.length_reverse, ← HJ.out]; exact h1
          exact h2.more (by omega)
    · obtain ⟨b, off, hA, hbl, y0⟩ := (H1.out.below (HB1.out.trans (hb.mono (by omega)))).get hp
      subst hA
      have hb0 := (hb.block w.heap.size (by omega)).trans HX1.out
      obtain ⟨c0, f0⟩ := bk1 hb0
      have hxg : (0 : Int) ≤ (y : Int) := by omega
      have hyn : y < n := by have := (List.getElem?_eq_some_iff.1 hp).1; have := HN.out; omega
      have hynI : (y : Int) < (n : Int) := by omega
      have hjl : j ≤ 1001 := by omega
      simp only [List.length_cons] at hjm hlen
      have HUR := Lib.hid hur'
      clear hl hj how hb hlen hp hur hur' hb0
      go_wp2_with (at_builtin; refine wpList_append_lies _ rfl (.tmp 17) (.tmp 19) 22 rfl w1.heap.size 3 i1 _ 1 8 Try.underlying22 hi1 hy0 hy1 hy2 rfl (by decide) (.slice A7 j cp) j (dn.map (Value.int .i64)) rfl (HOW.out.alloc _) ⟨wr.heap.size, 0, none⟩ 1 1 [.int .i64 (y : Int)] rfl rfl (World.news_of_block (cs := #[.int .i64 (y : Int)]) (t := 3) (fr := (0, 0)) (heap_alloc_new wr _)) (by simp [Value.oneCell']) (by omega) (by unfold maxLen; omega) (by omega) (by simp; omega) (wr.heap.size + 1) (by simp) ?_)
      intro g2 cap2 W6 hown6 hgrow6 hat6 hlt6
      have hb6 : Below w1.heap.size w1 W6 := (HB.out.alloc hsz _).grown hgrow6 (by simp; omega) (fun k' e => by have := (HOW.out.lt k' e).1; omega)
      have HB6 := Lib.hid hb6
      have hb06 := (hb6.block w.heap.size (by omega)).trans HX1.out
      clear c0 f0
      obtain ⟨c0, f0⟩ := bk1 hb06
      have y1 := (hb6.cell (p := ⟨b, off + y, none⟩) (show b < w1.heap.size by omega)).trans ((HB.out.cell (p := ⟨b, off + y, none⟩) (show b < w1.heap.size by omega)).symm.trans y0)
      have HO6 : Hid (W6.ownsRow w1.heap.size 3 1 (.slice (some ⟨g2, 0, none⟩) (j + 1) cap2) (j + 1) ((dn ++ [(y : Int)]).map (Value.int .i64))) := Lib.hid (by simpa using hown6)
      clear hown6 hgrow6 hat6 hlt6 hb6 hb06 y0
      go_wp2_with fail
      go_roundw
      case rel => exact ⟨pp, dn ++ [(y : Int)], rest', j + 1, cap2, some ⟨g2, 0, none⟩, by rw [List.append_assoc]; exact HLe.out, HUR.out, rfl, by rw [List.length_append]; have := HJ.out; simp; omega, rfl, HO6.out, HB6.out⟩
      case measure => have := HM.out; simp [slLen]; omega
end Go.Proofs.Ythnlcbeibhhjpaa
