/- An index of versions: New, check, isAncestor. -/
import Derived.Test.YthnlcbeibhhjpaaVtG
namespace Go.Proofs.Ythnlcbeibhhjpaa
open Go.RowKit
set_option maxRecDepth 100000
/-- An index, as its users know it. -/
structure IxM (B x : Nat) (Vs : List Vn) (W : World) : Prop where
  ex : ∃ tl G cap mv E, IxR B x tl G cap Vs.length (2 * Vs.length) mv E Vs W ∧ TourOk Vs (ords E)
  ok : VsOk Vs
theorem IxM.below {B x : Nat} {Vs : List Vn} {W W' : World} (h : IxM B x Vs W) (hb : Below W.heap.size W W') : IxM B x Vs W' := by
  obtain ⟨⟨tl, G, cap, mv, E, h1, h2⟩, h3⟩ := h
  exact ⟨⟨tl, G, cap, mv, E, h1.below hb, h2⟩, h3⟩
theorem IxM.drewN {B x : Nat} {Vs : List Vn} {W : World} (h : IxM B x Vs W) (n : Nat) : IxM B x Vs (W.drewN n) := by
  obtain ⟨⟨tl, G, cap, mv, E, h1, h2⟩, h3⟩ := h
  exact ⟨⟨tl, G, cap, mv, E, h1.drewN n, h2⟩, h3⟩
theorem ol_new_at (w : World) (b : Nat) (hb : w.heap.size = b) : Calls Try.prog 44 #[] w fun e w' => e = .returned (.pointer (some ⟨b, 0, none⟩)) ∧ w' = w.alloc (.cells #[.slice none 0 0, .pointer none, .int .i64 0, .int .i64 0] 80) := by subst hb; exact ol_new w
set_option maxHeartbeats 4000000 in
theorem ixNew_any (w : World) : Calls Try.prog 34 #[] w fun e w' => e = .returned (.pointer (some ⟨w.heap.size + 1, 0, none⟩)) ∧ IxM w.heap.size (w.heap.size + 1) [(-1, 0, 0)] w' ∧ Below w.heap.size w w' ∧ Kv w w' := by
  have HNEW := Lib.hid (ol_new_at w w.heap.size rfl)
  have hb1 : Below w.heap.size w ((w.alloc (.cells #[.slice none 0 0, .pointer none, .int .i64 0, .int .i64 0] 80)).alloc (.cells #[.slice none 0 0, .pointer (some ⟨w.heap.size, 0, none⟩)] 67)) := ((Below.refl _ _).alloc (Nat.le_refl _) _).alloc (by simp) _
  have hx : ((w.alloc (.cells #[.slice none 0 0, .pointer none, .int .i64 0, .int .i64 0] 80)).alloc (.cells #[.slice none 0 0, .pointer (some ⟨w.heap.size, 0, none⟩)] 67)).heap[w.heap.size + 1]? = some (.cells #[.slice none 0 0, .pointer (some ⟨w.heap.size, 0, none⟩)] 67 (0, 0)) := by
    have := bdNew (w.alloc (.cells #[.slice none 0 0, .pointer none, .int .i64 0, .int .i64 0] 80)) (.cells #[.slice none 0 0, .pointer (some ⟨w.heap.size, 0, none⟩)] 67)
    rw [show (w.alloc (.cells #[.slice none 0 0, .pointer none, .int .i64 0, .int .i64 0] 80)).heap.size = w.heap.size + 1 by simp] at this
    exact this
  have HEN := Lib.hid (enter_any w.heap.size (w.heap.size + 1) w.heap.size 0 0 0 none 0 [] [] (-1, 0, 0) (-1) _ ⟨hx, World.ownsRow_nil _ _ _ _, (ost_new w.heap.size w (Nat.le_refl _)).below ((Below.refl _ _).alloc (Nat.le_refl _) _), by omega⟩ rfl (by omega) (Or.inl ⟨rfl, rfl⟩))
  have HB1 := Lib.hid hb1
  clear hb1 hx
  go_enter Try.func34, Try.ntmps34
  go_wp2_with fail
  refine HNEW.out.mono ?_
  rintro er w1 ⟨rfl, rfl⟩
  go_wp2_with fail
  refine HEN.out.mono ?_
  rintro er w2 ⟨rfl, ⟨G', cap', mv', E', hr, hoe⟩, hb2, hk2⟩
  have HR := Lib.hid hr
  have HOE := Lib.hid hoe
  have HB2 := Lib.hid hb2
  have HK2 := Lib.hid hk2
  clear hr hoe hb2 hk2
  go_wp2_with fail
  go_ret
  refine ⟨rfl, ⟨⟨_, _, _, _, E', HR.out, ?_⟩, VsOk.start⟩, HB1.out.trans HB2.out, (((Kv.refl w).alloc _).alloc _).trans HK2.out⟩
  rw [HOE.out]
  exact TourOk.start
/-- All numbers are those of versions. -/
def InV (nv : Nat) (L : List Int) : Prop := ∀ y ∈ L, 0 ≤ y ∧ y < (nv : Int)
set_option maxHeartbeats 4000000 in
theorem ixCheck_yes (P : Nat → Prop) (x tl nv cap m cp : Nat) (G A : Option Addr) (L : List Int) (w : World) (hx : w.heap[x]? = some (.cells #[.slice G nv cap, .pointer (some ⟨tl, 0, none⟩)] 67 (0, 0))) (hm : L.length = m) (hml : m ≤ 2000) (h : IntsAt P w A L) (hL : InV nv L) :
    Calls Try.prog 40 #[.pointer (some ⟨x, 0, none⟩), .slice A m cp] w fun e w' => e = .returned (.int .i64 0) ∧ w = w' := by
  obtain ⟨⟨b0, b1⟩, _, _⟩ := bk2 hx
  have HM := Lib.hid hm
  have H1 := Lib.hid h
  have HL := Lib.hid hL
  clear hx hm h hL
  go_enter Try.func40, Try.ntmps40
  go_wp2_with fail
  go_loop [11] (fun s => ∃ k : Nat, k ≤ m ∧ s = .int .i64 k) (fun s => m - (intOf s).toNat)
  case atStart => exact ⟨0, by omega, rfl⟩
  case round =>
    obtain ⟨k, hk, rfl⟩ := hrel
    by_cases hlt : k < m
    · have hltI : (k : Int) < (m : Int) := by omega
      obtain ⟨y, hy⟩ : ∃ y, L[k]? = some y := ⟨L[k]'(by rw [HM.out]; exact hlt), List.getElem?_eq_getElem _⟩
      obtain ⟨b, off, hA, _, hc⟩ := H1.out (by rw [HM.out]; omega)
      subst hA
      have y0 := hc k y hy
      have hyv := HL.out y (List.mem_of_getElem? hy)
      have d1 : decide (y < 0) = false := decide_eq_false (by omega)
      have d2 : decide ((nv : Int) ≤ y) = false := decide_eq_false (by omega)
      clear hc hy hyv
      go_wp2_with fail
      go_round
      case rel => exact ⟨k + 1, by omega, by go_num⟩
      case measure => simp [intOf]; omega
    · have hkm : k = m := by omega
      subst hkm
      go_wp2_with fail
      go_ret
      exact ⟨rfl, rfl⟩
theorem ord_at {E : List El} {x : Int} {p : Nat} (h : (ords E)[p]? = some x) : ∃ e, E[p]? = some e ∧ (e.num : Int) = x := by
  unfold ords at h
  rw [List.getElem?_map] at h
  obtain ⟨e, he, hn⟩ := Option.map_eq_some_iff.1 h
  exact ⟨e, he, hn⟩
set_option maxHeartbeats 4000000 in
theorem isAnc_any (B x tl cap nv a b : Nat) (G : Option Addr) (mv : Int) (E : List El) (Vs : List Vn) (w : World) (h : IxR B x tl G cap nv (2 * nv) mv E Vs w) (hl : Vs.length = nv) (hn : nv ≤ 1000) (ht : TourOk Vs (ords E)) (ha : a < nv) (hb : b < nv) (bb : Bool) (hbb : bb = true ↔ AncV Vs a b) :
    Calls Try.prog 41 #[.pointer (some ⟨x, 0, none⟩), .int .i64 (a : Int), .int .i64 (b : Int)] w fun e w' => e = .returned (.bool bb) ∧ ∃ q, w' = w.drewN q := by
  obtain ⟨⟨b0, b1⟩, _, _⟩ := bk2 h.box
  obtain ⟨p, hp⟩ := ht.at (x := 2 * (a : Int)) (by omega) (by omega)
  obtain ⟨q, hq⟩ := ht.at (x := 2 * (b : Int)) (by omega) (by omega)
  obtain ⟨r, hr⟩ := ht.at (x := 2 * (a : Int) + 1) (by omega) (by omega)
  have he := ht.enc a b p q r (by omega) (by omega) hp hq hr
  obtain ⟨ep, hep, hpn⟩ := ord_at hp
  obtain ⟨eq, heq, hqn⟩ := ord_at hq
  obtain ⟨er, her, hrn⟩ := ord_at hr
  have HC1 := Lib.hid (ol_compare_yes B tl (2 * nv) p q mv E ep eq w h.tour (by omega) hep heq)
  have HC2 := Lib.hid (fun W (hW : OSt B tl (2 * nv) mv E W) => ol_compare_yes B tl (2 * nv) q r mv E eq er W hW (by omega) heq her)
  rw [hpn, hqn] at HC1
  rw [hqn, hrn] at HC2
  have hA := h.tour.asc
  have c1 : cmpO ep.lab eq.lab ≤ 0 ↔ p ≤ q := by
    rcases Nat.lt_trichotomy p q with h1 | h1 | h1
    · rw [cmpO_lt (hA.1 p q _ _ h1 hep heq)]; constructor <;> omega
    · subst h1
      rw [hep] at heq
      rw [cmpO_eq (by rw [Option.some.inj heq])]; constructor <;> omega
    · rw [cmpO_gt (hA.1 q p _ _ h1 heq hep)]; constructor <;> omega
  have c2 : cmpO eq.lab er.lab < 0 ↔ q < r := by
    rcases Nat.lt_trichotomy q r with h1 | h1 | h1
    · rw [cmpO_lt (hA.1 q r _ _ h1 heq her)]; constructor <;> omega
    · subst h1
      rw [heq] at her
      rw [cmpO_eq (by rw [Option.some.inj her])]; constructor <;> omega
    · rw [cmpO_gt (hA.1 r q _ _ h1 her heq)]; constructor <;> omega
  generalize cmpO ep.lab eq.lab = v1 at HC1 c1
  generalize cmpO eq.lab er.lab = v2 at HC2 c2
  have haI : (a : Int) < (nv : Int) := by omega
  have hbI : (b : Int) < (nv : Int) := by omega
  have HT := Lib.hid h.tour
  have key : bb = (decide (v1 ≤ 0) && decide (v2 < 0)) := by
    cases hbv : bb
    · cases hd : (decide (v1 ≤ 0) && decide (v2 < 0))
      · rfl
      · simp only [Bool.and_eq_true, decide_eq_true_eq] at hd
        have := hbb.2 (he.1 ⟨c1.1 hd.1, c2.1 hd.2⟩)
        rw [hbv] at this
        cases this
    · have := he.2 (hbb.1 hbv)
      rw [decide_eq_true (c1.2 this.1), decide_eq_true (c2.2 this.2)]; rfl
  have HK := Lib.hid key
  clear h hl ht hp hq hr he hep heq her hpn hqn hrn hA c1 c2 key hbb
  go_enter Try.func41, Try.ntmps41
  go_wp2_with fail
  refine HC1.out.mono ?_
  rintro e w1 ⟨rfl, q1, rfl⟩
  have HC2' := Lib.hid (HC2.out _ (HT.out.drewN q1))
  go_wp2_with fail
  refine HC2'.out.mono ?_
  rintro e w1 ⟨rfl, q2, rfl⟩
  by_cases h1 : v1 ≤ 0
  · have d1 : decide (v1 ≤ 0) = true := decide_eq_true h1
    have HK2 : Hid (bb = decide (v2 < 0)) := Lib.hid (by rw [HK.out, d1]; rfl)
    clear h1
    go_wp2_with fail
    go_ret
    exact ⟨by rw [HK2.out]; rfl, _, rfl⟩
  · have d1 : decide (v1 ≤ 0) = false := decide_eq_false h1
    have HK2 : Hid (bb = false) := Lib.hid (by rw [HK.out, d1]; rfl)
    clear h1
    go_wp2_with fail
    go_ret
    exact ⟨by rw [HK2.out]; rfl, _, rfl⟩
end Go.Proofs.Ythnlcbeibhhjpaa
