/- An index of versions: Common, Depth, Len. -/
import Derived.Test.YthnlcbeibhhjpaaVtI
namespace Go.Proofs.Ythnlcbeibhhjpaa
open Go.RowKit
set_option maxRecDepth 100000
/-- The deepest that two versions come from. -/
def DeepV (Vs : List Vn) (a b c : Nat) : Prop := AncV Vs c a ∧ AncV Vs c b ∧ ∀ d, AncV Vs d a → AncV Vs d b → AncV Vs d c
theorem vn_at {Vs : List Vn} {w : World} {B g cap nv : Nat} (h : w.ownsRow B 69 3 (.slice (some ⟨g, 0, none⟩) nv cap) nv (vsC Vs)) (hl : Vs.length = nv) {i : Nat} {v : Vn} (hv : Vs[i]? = some v) : w.cell? ⟨g, i * 3, none⟩ = some (.int .i64 v.1) ∧ w.cell? ⟨g, i * 3 + 1, none⟩ = some (.int .i64 v.2.1) ∧ w.cell? ⟨g, i * 3 + 2, none⟩ = some (.int .i64 v.2.2) := by
  have hi := (List.getElem?_eq_some_iff.1 hv).1
  obtain ⟨h1, h2, h3⟩ := vsC_at Vs i v hv
  exact ⟨(h.cellAt _ (by omega)).trans h1, (h.cellAt _ (by omega)).trans h2, (h.cellAt _ (by omega)).trans h3⟩
set_option maxHeartbeats 4000000 in
theorem common_yes (B x a b nv : Nat) (Vs : List Vn) (w : World) (h : IxM B x Vs w) (hl : Vs.length = nv) (hn : nv ≤ 1000) (ha : a < nv) (hb : b < nv) :
    Calls Try.prog 26 #[.pointer (some ⟨x, 0, none⟩), .int .i64 (a : Int), .int .i64 (b : Int)] w fun e w' => (∃ c : Nat, e = .returned (.tuple #[.int .i64 c, .int .i64 0]) ∧ DeepV Vs a b c) ∧ Below w.heap.size w w' := by
  obtain ⟨⟨tl, G, cap, mv, E, hr, ht⟩, hok⟩ := h
  rw [hl] at hr
  obtain ⟨g, cap', hvv, hg, hgl⟩ := hr.row.form (by omega)
  have hG : G = some ⟨g, 0, none⟩ := by injection hvv
  subst hG
  have HR := Lib.hid hr
  have HT := Lib.hid ht
  have HOK := Lib.hid hok
  have HL := Lib.hid hl
  have hw1 : Below w.heap.size w (w.alloc (.cells #[.int .i64 (a : Int), .int .i64 (b : Int)] 3)) := (Below.refl _ _).alloc (Nat.le_refl _) _
  have HCK := Lib.hid (ixCheck_yes (fun _ => True) x tl nv cap 2 2 (some ⟨g, 0, none⟩) (some ⟨w.heap.size, 0, none⟩) [(a : Int), (b : Int)] (w.alloc (.cells #[.int .i64 (a : Int), .int .i64 (b : Int)] 3)) (hr.below hw1).box rfl (by omega) (fun _ => ⟨w.heap.size, 0, rfl, trivial, fun i y hi => by
    have hi0 := (List.getElem?_eq_some_iff.1 hi).1
    obtain ⟨⟨c0, c1⟩, _, _⟩ := bk2 (bdNew w (.cells #[.int .i64 (a : Int), .int .i64 (b : Int)] 3))
    rcases (show i = 0 ∨ i = 1 by simp at hi0; omega) with rfl | rfl
    · have : (a : Int) = y := by simpa using hi
      rw [← this]; exact c0
    · have : (b : Int) = y := by simpa using hi
      rw [← this]; exact c1⟩) (fun y hy => by
    have : y = (a : Int) ∨ y = (b : Int) := by simpa using hy
    omega))
  have HB1 := Lib.hid hw1
  clear hr ht hok hvv hw1 hl
  go_enter Try.func26, Try.ntmps26
  go_wp2_with fail
  refine HCK.out.mono ?_
  rintro er w1 ⟨rfl, rfl⟩
  go_wp2_with fail
  go_loopw [1] (fun s1 wr => ∃ a1 : Nat, s1 = .int .i64 a1 ∧ a1 < nv ∧ AncV Vs a1 a ∧ (∀ d, AncV Vs d a → AncV Vs d b → AncV Vs d a1) ∧ Below w.heap.size w wr) (fun s1 _ => (intOf s1).toNat)
  case atStart => exact ⟨a, rfl, ha, .refl, fun d h _ => h, HB1.out⟩
  case round =>
    obtain ⟨a1, rfl, ha1, hA, hD, hbw⟩ := hrel
    have HA := Lib.hid hA
    have HD := Lib.hid hD
    have HB := Lib.hid hbw
    have hrw := HR.out.below hbw
    obtain ⟨u, hu⟩ : ∃ u, Vs[a1]? = some u := ⟨Vs[a1]'(by have := HL.out; omega), List.getElem?_eq_getElem _⟩
    obtain ⟨j, hj, hjl, hja⟩ := HOK.out.jmp hu
    obtain ⟨x0, x1, x2⟩ := vn_at hrw.row HL.out hu
    rw [hj] at x2
    obtain ⟨u0, hu0⟩ : ∃ d, d = u.1 := ⟨_, rfl⟩
    obtain ⟨u1, hu1⟩ : ∃ d, d = u.2.1 := ⟨_, rfl⟩
    rw [← hu0] at x0
    rw [← hu1] at x1
    obtain ⟨⟨b0, b1⟩, _, _⟩ := bk2 hrw.box
    have hgw : g < wr.heap.size := by have := hbw.size; omega
    have haI : (a1 : Int) < (nv : Int) := by omega
    have HU := Lib.hid hu
    have HJA := Lib.hid hja
    have HJ := Lib.hid hj
    have HU0 := Lib.hid hu0
    have HRW := Lib.hid hrw
    have HI := Lib.hid (isAnc_any B x tl cap nv a1 b _ mv E Vs wr hrw HL.out hn HT.out ha1 hb)
    clear hA hD hbw hrw hu hj hja hu0 hu1
    by_cases hab : AncV Vs a1 b
    · have HI' := Lib.hid (HI.out true (by simp [hab]))
      have HAB := Lib.hid hab
      clear hab
      go_wp2_with fail
      refine HI'.out.mono ?_
      rintro er w2 ⟨rfl, q, rfl⟩
      go_wp2_with fail
      go_ret2
      exact ⟨⟨a1, rfl, HA.out, HAB.out, HD.out⟩, bdN HB.out q⟩
    · have HI' := Lib.hid (HI.out false (by simp [hab]))
      have HAB := Lib.hid hab
      have hjnv : j < nv := by omega
      have ha10 : 0 < a1 := by
        rcases Nat.eq_zero_or_pos a1 with h0 | h0
        · subst h0
          exact absurd (AncV.zero HOK.out b (by have := HL.out; omega)) hab
        · exact h0
      have HI2 := Lib.hid (fun W (hW : IxR B x tl (some ⟨g, 0, none⟩) cap nv (2 * nv) mv E Vs W) => isAnc_any B x tl cap nv j b _ mv E Vs W hW HL.out hn HT.out hjnv hb)
      clear hab
      go_wp2_with fail
      refine HI'.out.mono ?_
      rintro er W2 ⟨rfl, q, hW2⟩
      have hrw2 : IxR B x tl (some ⟨g, 0, none⟩) cap nv (2 * nv) mv E Vs W2 := by rw [hW2]; exact HRW.out.drewN q
      have hb2 : Below w.heap.size w W2 := by rw [hW2]; exact bdN HB.out q
      have x0' : W2.cell? ⟨g, a1 * 3, none⟩ = some (.int .i64 u0) := by rw [hW2]; exact x0
      have x1' : W2.cell? ⟨g, a1 * 3 + 1, none⟩ = some (.int .i64 u1) := by rw [hW2]; exact x1
      have x2' : W2.cell? ⟨g, a1 * 3 + 2, none⟩ = some (.int .i64 (j : Int)) := by rw [hW2]; exact x2
      have b0' : W2.cell? ⟨x, 0, none⟩ = some (.slice (some ⟨g, 0, none⟩) nv cap) := by rw [hW2]; exact b0
      have hgw2 : g < W2.heap.size := by have := hb2.size; omega
      have HB2 := Lib.hid hb2
      have HI3 := Lib.hid (HI2.out (W2.alloc (.cells #[.int .i64 u0, .int .i64 u1, .int .i64 (j : Int)] 69)) (hrw2.below ((Below.refl _ _).alloc (Nat.le_refl _) _)))
      clear hW2 hrw2 hb2 x0 x1 x2 b0 b1 hgw HI2
      by_cases hjb : AncV Vs j b
      · skip
        have HI4 := Lib.hid (HI3.out true (by simp [hjb]))
        clear HI3
        go_wp2_with fail
        refine HI4.out.mono ?_
        rintro er W3 ⟨rfl, q3, hW3⟩
        have hv3 : W3.heap[W2.heap.size]? = some (.cells #[.int .i64 u0, .int .i64 u1, .int .i64 (j : Int)] 69 (0, 0)) := by rw [hW3]; exact bdNew W2 _
        have hb3 : Below w.heap.size w W3 := by rw [hW3]; exact bdN (HB2.out.alloc HB2.out.size _) q3
        have HB3 := Lib.hid hb3
        obtain ⟨⟨v0, v1, v2⟩, _, _, _⟩ := bk3 hv3
        have HJB := Lib.hid hjb
        clear hW3 hv3 hb3 x0' x1' x2' b0' hjb
        obtain ⟨p, hp⟩ : ∃ p : Nat, u0 = (p : Int) := by
          obtain ⟨p, _, _, h1, _⟩ := HOK.out.rest a1 u HU.out ha10
          exact ⟨p, by rw [HU0.out]; exact h1⟩
        subst hp
        have hpl := (HOK.out.par HU.out HU0.out.symm).1
        have HPA : Hid (AncV Vs p a1) := Lib.hid (.step HU.out HU0.out.symm .refl)
        clear hjl
        go_wp2_with fail
        go_round
        case rel =>
          refine ⟨p, rfl, by omega, HPA.out.trans HA.out, fun d h1 h2 => ?_, HB3.out⟩
          have h3 := HD.out d h1 h2
          exact h3.up HU.out HU0.out.symm (fun e => HAB.out (e ▸ h2))
        case measure => simp [intOf]; omega
      · skip
        have HI4 := Lib.hid (HI3.out false (by simp [hjb]))
        clear HI3
        go_wp2_with fail
        refine HI4.out.mono ?_
        rintro er W3 ⟨rfl, q3, hW3⟩
        have hv3 : W3.heap[W2.heap.size]? = some (.cells #[.int .i64 u0, .int .i64 u1, .int .i64 (j : Int)] 69 (0, 0)) := by rw [hW3]; exact bdNew W2 _
        have hb3 : Below w.heap.size w W3 := by rw [hW3]; exact bdN (HB2.out.alloc HB2.out.size _) q3
        have HB3 := Lib.hid hb3
        obtain ⟨⟨v0, v1, v2⟩, _, _, _⟩ := bk3 hv3
        have HJB := Lib.hid hjb
        clear hW3 hv3 hb3 x0' x1' x2' b0' hjb
        have hjlt : j < a1 := by
          rcases Nat.lt_or_ge j a1 with h1 | h1
          · exact h1
          · obtain ⟨p, j', u', e1, e2, e3, e4, e5, e6⟩ := HOK.out.rest a1 u HU.out ha10
            have h2 := e6.le HOK.out
            have h3 := HJ.out
            rw [e5] at h3
            omega
        clear hjl
        go_wp2_with fail
        go_round
        case rel =>
          refine ⟨j, rfl, by omega, HJA.out.trans HA.out, fun d h1 h2 => ?_, HB3.out⟩
          have h3 := HD.out d h1 h2
          rcases AncV.two HOK.out h3 HJA.out with h4 | h4
          · exact h4
          · exact absurd (h4.trans h2) HJB.out
        case measure => simp [intOf]; omega
end Go.Proofs.Ythnlcbeibhhjpaa
