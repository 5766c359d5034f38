/- The examples of the chapter. -/
import Derived.Test.YthnlcbeibhhjpaaVtD
import Derived.Test.YthnlcbeibhhjpaaVtJ
namespace Go.Proofs.Ythnlcbeibhhjpaa
open Go.RowKit
set_option maxRecDepth 100000
theorem ints_blk {P : Nat → Prop} {w : World} {b : Nat} {cs : Array Value} {t : TypeId} (L : List Int) (h : w.heap[b]? = some (.cells cs t (0, 0))) (hc : cs = (L.map (Value.int .i64)).toArray) (hp : P b) : IntsAt P w (some ⟨b, 0, none⟩) L := fun _ => by
  refine ⟨b, 0, rfl, hp, fun i x hi => ?_⟩
  subst hc
  rw [Nat.zero_add]
  refine cell_of_row w b i _ _ (0, 0) h |>.trans ?_
  simp [hi]
def awP : List Int := [-1, 0, 0, 1, 1]
theorem awP_ok : VP awP := ⟨by decide, by decide, rfl, fun i x hx => by
  have hi := (List.getElem?_eq_some_iff.1 hx).1
  simp [awP] at hi
  rcases (show i = 0 ∨ i = 1 ∨ i = 2 ∨ i = 3 by omega) with rfl | rfl | rfl | rfl <;> (have := Option.some.inj hx; omega)⟩
theorem awP_up : Up awP 4 [4, 1, 0] := .step (p := 1) rfl (by omega) (.step (p := 0) rfl (by omega) (.root rfl))
theorem awP_eul : eulF awP 5 6 0 = [0, 1, 3, 3, 4, 4, 1, 2, 2, 0] := by decide
/-- The four parents. -/
def awK : Nat → Nat
  | 0 => 0
  | 1 => 0
  | _ => 1
theorem awK_next {k : Nat} (hk : k < 4) : awP.take (k + 2) = awP.take (k + 1) ++ [((awK k : Nat) : Int)] := by
  rcases (show k = 0 ∨ k = 1 ∨ k = 2 ∨ k = 3 by omega) with rfl | rfl | rfl | rfl <;> rfl
theorem awK_lt (k : Nat) : awK k < k + 1 := by
  rcases (show k = 0 ∨ k = 1 ∨ 2 ≤ k by omega) with rfl | rfl | h
  · decide
  · decide
  · obtain ⟨m, rfl⟩ : ∃ m, k = m + 2 := ⟨k - 2, by omega⟩
    show 1 < _
    omega
theorem awK_at {k : Nat} (hk : k < 4) : awP[1 + k]? = some ((awK k : Nat) : Int) := by
  rcases (show k = 0 ∨ k = 1 ∨ k = 2 ∨ k = 3 by omega) with rfl | rfl | rfl | rfl <;> rfl
theorem vn_par {Vs : List Vn} {L : List Int} (h : Vs.map (·.1) = L) {i : Nat} {x : Int} (hx : L[i]? = some x) : ∃ v, Vs[i]? = some v ∧ v.1 = x := by
  subst h
  rw [List.getElem?_map] at hx
  exact Option.map_eq_some_iff.1 hx
theorem aw_common {Vs : List Vn} {c : Nat} (hv : VsOk Vs) (h : Vs.map (·.1) = awP) (hc : DeepV Vs 3 4 c) : c = 1 := by
  obtain ⟨v3, h3, e3⟩ := vn_par h (i := 3) (x := 1) rfl
  obtain ⟨v4, h4, e4⟩ := vn_par h (i := 4) (x := 1) rfl
  obtain ⟨c1, c2, c3⟩ := hc
  have h1 := (c3 1 (.step (p := 1) h3 e3 .refl) (.step (p := 1) h4 e4 .refl)).le hv
  have h5 := c1.le hv
  by_cases hc3 : c = 3
  · subst hc3
    have := (c2.up (p := 1) h4 e4 (by omega)).le hv
    omega
  · have := (c1.up (p := 1) h3 e3 hc3).le hv
    omega
set_option maxHeartbeats 8000000 in
theorem awakeV_any (w : World) : Calls Try.prog 9 #[] w fun er w' => er = .returned (.bool true) ∧ Below w.heap.size w w' := by
  obtain ⟨W1, hW1⟩ : ∃ W1, W1 = (w.alloc (.cells #[.int .i64 (-1), .int .i64 0, .int .i64 0, .int .i64 1, .int .i64 1] 3)).alloc (.cells #[.slice (some ⟨w.heap.size, 0, none⟩) 5 5] 24) := ⟨_, rfl⟩
  have hs1 : W1.heap.size = w.heap.size + 2 := by rw [hW1]; simp
  have hb1 : Below w.heap.size w W1 := by rw [hW1]; exact ((Below.refl _ _).alloc (Nat.le_refl _) _).alloc (by simp) _
  have hp1 : W1.heap[w.heap.size]? = some (.cells #[.int .i64 (-1), .int .i64 0, .int .i64 0, .int .i64 1, .int .i64 1] 3 (0, 0)) := by rw [hW1]; exact bdOld (bdNew w _)
  have hv1 : W1.heap[w.heap.size + 1]? = some (.cells #[.slice (some ⟨w.heap.size, 0, none⟩) 5 5] 24 (0, 0)) := by
    rw [hW1]
    have := bdNew (w.alloc (.cells #[.int .i64 (-1), .int .i64 0, .int .i64 0, .int .i64 1, .int .i64 1] 3)) (.cells #[.slice (some ⟨w.heap.size, 0, none⟩) 5 5] 24)
    rw [show (w.alloc (.cells #[.int .i64 (-1), .int .i64 0, .int .i64 0, .int .i64 1, .int .i64 1] 3)).heap.size = w.heap.size + 1 by simp] at this
    exact this
  have HP := Lib.hid (fun W (hW : Below W1.heap.size W1 W) => path_yes (some ⟨w.heap.size, 0, none⟩) 5 5 4 awP [4, 1, 0] W rfl (Nat.le_refl _) (by decide) (ints_blk (P := (· < W.heap.size)) awP (bdAt hp1 hW) rfl (by have := hW.size; omega)) awP_ok (by omega) awP_up)
  have HE := Lib.hid (fun W (hW : Below W1.heap.size W1 W) => euler_yes (some ⟨w.heap.size, 0, none⟩) 5 5 awP W rfl (Nat.le_refl _) (by decide) (ints_blk (P := (· < W.heap.size)) awP (bdAt hp1 hW) rfl (by have := hW.size; omega)) awP_ok (by rw [awP_eul]; decide))
  have HP' := Lib.hid (HP.out W1 (Below.refl _ _))
  rw [awP_eul] at HE
  have HS1 := Lib.hid hs1
  have HB1 := Lib.hid hb1
  have HP1 := Lib.hid hp1
  have HV1 := Lib.hid hv1
  have HW1 := Lib.hid hW1
  clear hs1 hb1 hp1 hv1 hW1
  go_enter Try.func9, Try.ntmps9
  go_wp2_with fail
  rw [← HW1.out]
  refine HP'.out.mono ?_
  rintro er w1 ⟨⟨A1, c1, rfl, hr1⟩, hb1⟩
  have HR1 := Lib.hid hr1
  have HBB1 := Lib.hid hb1
  have HE' := Lib.hid (HE.out w1 hb1)
  obtain ⟨v0, q0⟩ := bk1 (bdAt HV1.out hb1)
  clear hr1 hb1
  go_wp2_with fail
  refine HE'.out.mono ?_
  rintro er w2 ⟨⟨A2, c2, rfl, hr2⟩, hb2⟩
  have HR2 := Lib.hid hr2
  have HB2 := Lib.hid hb2
  have HN := Lib.hid (ixNew_any w2)
  clear v0 q0 hr2 hb2
  go_wp2_with fail
  refine HN.out.mono ?_
  rintro er w3 ⟨rfl, hix, hb3, hk3⟩
  have HIX := Lib.hid hix
  have HB3 := Lib.hid hb3
  have hI1 : IntsAt (fun b => W1.heap.size ≤ b ∧ b < w1.heap.size) w1 A1 [0, 1, 4] := intsAt_own (B := W1.heap.size) (n := 3) (c := c1) HR1.out (fun b h1 h2 => ⟨h1, h2⟩)
  have hI2 : IntsAt (fun b => w1.heap.size ≤ b ∧ b < w2.heap.size) w2 A2 [0, 1, 3, 3, 4, 4, 1, 2, 2, 0] := intsAt_own (B := w1.heap.size) (n := 10) (c := c2) HR2.out (fun b h1 h2 => ⟨h1, h2⟩)
  have hz2 := HB2.out.size
  have hz3 := hb3.size
  have hJ1 : IntsAt (fun _ => True) (w3.alloc (.cells #[.int .i64 0, .int .i64 1, .int .i64 4] 3)) A1 [0, 1, 4] := (((hI1.more fun b hb => hb.2).below HB2.out |>.more fun b hb => (show b < w2.heap.size from by omega)).below (hb3.alloc hz3 (.cells #[.int .i64 0, .int .i64 1, .int .i64 4] 3))).more fun _ _ => trivial
  have HQ1 := Lib.hid (eqI_any (fun _ => True) (fun _ => True) A1 (some ⟨w3.heap.size, 0, none⟩) c1 3 [0, 1, 4] [0, 1, 4] _ (by decide) (by decide) hJ1 (ints_blk [0, 1, 4] (bdNew w3 _) rfl trivial))
  rw [show decide (([0, 1, 4] : List Int) = [0, 1, 4]) = true from by decide, show ([0, 1, 4] : List Int).length = 3 from rfl] at HQ1
  have HI2 := Lib.hid hI2
  clear hix hb3 hk3 hI1 hI2 hJ1 HR1 HR2
  go_wp2_with fail
  refine HQ1.out.mono ?_
  rintro er w4 ⟨rfl, q1, hw4⟩
  have hb4 : Below w3.heap.size w3 w4 := by rw [hw4]; exact bdN ((Below.refl _ _).alloc (Nat.le_refl _) _) q1
  have hz4 := hb4.size
  have HB4 := Lib.hid hb4
  have hJ2 : IntsAt (fun _ => True) (w4.alloc (.cells #[.int .i64 0, .int .i64 1, .int .i64 3, .int .i64 3, .int .i64 4, .int .i64 4, .int .i64 1, .int .i64 2, .int .i64 2, .int .i64 0] 3)) A2 [0, 1, 3, 3, 4, 4, 1, 2, 2, 0] := ((HI2.out.more fun b hb => hb.2).below ((HB3.out.trans (hb4.mono hz3)).alloc (by omega) (.cells #[.int .i64 0, .int .i64 1, .int .i64 3, .int .i64 3, .int .i64 4, .int .i64 4, .int .i64 1, .int .i64 2, .int .i64 2, .int .i64 0] 3))).more fun _ _ => trivial
  have HQ2 := Lib.hid (eqI_any (fun _ => True) (fun _ => True) A2 (some ⟨w4.heap.size, 0, none⟩) c2 10 [0, 1, 3, 3, 4, 4, 1, 2, 2, 0] [0, 1, 3, 3, 4, 4, 1, 2, 2, 0] _ (by decide) (by decide) hJ2 (ints_blk [0, 1, 3, 3, 4, 4, 1, 2, 2, 0] (bdNew w4 _) rfl trivial))
  rw [show decide (([0, 1, 3, 3, 4, 4, 1, 2, 2, 0] : List Int) = [0, 1, 3, 3, 4, 4, 1, 2, 2, 0]) = true from by decide, show ([0, 1, 3, 3, 4, 4, 1, 2, 2, 0] : List Int).length = 10 from rfl] at HQ2
  clear hw4 hb4 hJ2
  go_wp2_with fail
  refine HQ2.out.mono ?_
  rintro er w5 ⟨rfl, q2, hw5⟩
  have hb5 : Below w4.heap.size w4 w5 := by rw [hw5]; exact bdN ((Below.refl _ _).alloc (Nat.le_refl _) _) q2
  have hz5 := hb5.size
  have hb35 := HB4.out.trans (hb5.mono hz4)
  have hb15 : Below W1.heap.size W1 w5 := (((HBB1.out.trans (HB2.out.mono HBB1.out.size)).trans (HB3.out.mono (by have := HBB1.out.size; omega))).trans (hb35.mono (by have := HBB1.out.size; omega)))
  have hx5 : IxM w2.heap.size (w2.heap.size + 1) [(-1, 0, 0)] w5 := HIX.out.below hb35
  obtain ⟨v0, q0⟩ := bk1 (bdAt HV1.out hb15)
  have HX5 := Lib.hid hx5
  have HP5 := Lib.hid (bdAt HP1.out hb15)
  have HB5 : Hid (Below w.heap.size w w5) := Lib.hid (HB1.out.trans (hb15.mono HB1.out.size))
  have hz25 : w2.heap.size ≤ w5.heap.size := by omega
  have HS25 : Hid (w.heap.size ≤ w2.heap.size) := Lib.hid (by have := HBB1.out.size; have := HS1.out; omega)
  clear hw5 hb5 hb35 hb15 hx5 hz2 hz3 hz4 hz5
  go_wp2_with fail
  go_loopw [52] (fun s52 wr => ∃ (k : Nat) (Vs : List Vn), k ≤ 4 ∧ s52 = .int .i64 k ∧ IxM w2.heap.size (w2.heap.size + 1) Vs wr ∧ Vs.map (·.1) = awP.take (k + 1) ∧ wr.heap[w.heap.size]? = some (.cells #[.int .i64 (-1), .int .i64 0, .int .i64 0, .int .i64 1, .int .i64 1] 3 (0, 0)) ∧ Below w.heap.size w wr ∧ w2.heap.size ≤ wr.heap.size) (fun s52 _ => 4 - (intOf s52).toNat)
  case atStart => exact ⟨0, _, by omega, rfl, HX5.out, rfl, HP5.out, HB5.out, hz25⟩
  case round =>
    obtain ⟨k, Vs, hk, rfl, hix, hpar, hpb, hb, hsz⟩ := hrel
    have HIX := Lib.hid hix
    have HPAR := Lib.hid hpar
    have HPB := Lib.hid hpb
    have HB := Lib.hid hb
    have hlen : Vs.length = k + 1 := by
      have := congrArg List.length hpar
      simp [awP] at this
      omega
    by_cases hlt : k < 4
    · have y0 : wr.cell? ⟨w.heap.size, 1 + k, none⟩ = some (.int .i64 ((awK k : Nat) : Int)) := by
        refine (cell_of_row wr w.heap.size (1 + k) _ _ (0, 0) hpb).trans ?_
        rcases (show k = 0 ∨ k = 1 ∨ k = 2 ∨ k = 3 by omega) with rfl | rfl | rfl | rfl <;> rfl
      have HBR := Lib.hid (branch_yes w2.heap.size (w2.heap.size + 1) (awK k) (k + 1) Vs wr hix hlen (by omega) (awK_lt k) hsz)
      have HNX := Lib.hid (awK_next hlt)
      have d1 : (((k + 1 : Nat) : Int) != (k : Int) + 1) = false := by simp
      have hkI : (k : Int) < 4 := by omega
      generalize hpa : awK k = pa at y0 HBR HNX
      have HLEN := Lib.hid hlen
      have HSZ := Lib.hid hsz
      clear hix hpar hpb hb hlen hpa v0 q0
      go_wp2_with fail
      refine HBR.out.mono ?_
      rintro er w6 ⟨rfl, ⟨d, j, hix6⟩, hb6, hk6⟩
      have HX6 := Lib.hid hix6
      have HB6 := Lib.hid hb6
      have HK6 := Lib.hid hk6
      clear hix6 hb6 hk6 y0
      go_wp2_with fail
      go_roundw
      case rel =>
        refine ⟨k + 1, _, by omega, by go_num, HX6.out, ?_, HK6.out _ _ _ _ HPB.out (by decide) (by decide) (by decide), HB.out.trans (HB6.out.mono HS25.out), by have := HB6.out.size; omega⟩
        rw [List.map_append, HPAR.out, HNX.out]; rfl
      case measure => simp [intOf]; omega
    · obtain rfl : k = 4 := by omega
      have HCM := Lib.hid (common_yes w2.heap.size (w2.heap.size + 1) 3 4 5 Vs wr hix hlen (by omega) (by omega) (by omega))
      have HAC := Lib.hid (fun c hc => aw_common (c := c) hix.ok hpar hc)
      clear hix hpar hpb hb hlen v0 q0
      go_wp2_with fail
      refine HCM.out.mono ?_
      rintro er w6 ⟨⟨c, rfl, hc⟩, hb6⟩
      obtain rfl := HAC.out c hc
      have HB6 := Lib.hid hb6
      clear hc hb6
      go_wp2_with fail
      go_ret
      exact ⟨rfl, HB.out.trans (HB6.out.mono HB.out.size)⟩
end Go.Proofs.Ythnlcbeibhhjpaa
