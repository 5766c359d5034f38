/- Walks: Make. -/
import Derived.Test.YtedjjleckhclcaaCasH
import Derived.Test.YtedjjleckhclcaaRoundWp
namespace Go.Proofs.Ytedjjleckhclcaa
open Go.RowKit Go.Shelf
set_option maxRecDepth 100000
attribute [local go_sem] Oper.semAt_some

theorem wideF (f : FuncId) : Fence.wide.fn f := trivial
/-- What Make hands back. -/
def MakePost (w : World) (M : List (List Int)) (e : Ending) (w' : World) : Prop :=
  Below w.heap.size w w' ∧ ((ckM M ≠ 0 ∧ e = .returned (.tuple #[.pointer none, .int .i64 (ckM M)])) ∨
    (ckM M = 0 ∧ ∃ x g, e = .returned (.tuple #[.pointer (some ⟨x, 0, none⟩), .int .i64 0]) ∧ w.heap.size ≤ x ∧ IX x g w'.heap.size (lsts M) 0 w'))
theorem ckM_4a {M : List (List Int)} (h : 32 < M.length) : ckM M = 4 := by unfold ckM; rw [if_pos (.inl h)]
theorem ckM_4b {M : List (List Int)} (h : M.any longC = true) : ckM M = 4 := by unfold ckM; rw [if_pos (.inr h)]
theorem ckM_1a {M : List (List Int)} (h : M.length = 0) : ckM M = 1 := by
  obtain rfl := List.length_eq_zero_iff.1 h
  rfl
theorem ckM_1b {M : List (List Int)} (h1 : ¬ 32 < M.length) (h2 : M.any longC = false) (h : M.any (fun c => !okCat c) = true) : ckM M = 1 := by
  unfold ckM
  rw [if_neg (by rintro (h | h); exact h1 h; rw [h2] at h; cases h), if_pos (.inr h)]
theorem ckM_0 {M : List (List Int)} (h1 : ¬ 32 < M.length) (h2 : M.any longC = false) (h3 : M.length ≠ 0) (h : M.any (fun c => !okCat c) = false) : ckM M = 0 := by
  unfold ckM
  rw [if_neg (by rintro (h | h); exact h1 h; rw [h2] at h; cases h), if_neg (by rintro (h' | h'); exact h3 h'; rw [h] at h'; cases h')]
theorem passF {P : Prop} (h : P) : (∀ f, (none : Option FuncId) = some f → Fence.wide.fn f) ∧ P := ⟨fun _ h => (by cases h), h⟩

theorem Try.infoAug : (Try.prog.info? 51).map (fun i => (i.zero, i.size, i.bytes)) = some (some (.agg #[.slice none 0 0, .slice none 0 0]), 2, 48) := by kernel_rfl


/-- The pairs of rounds. -/
def prp {n₀ : Nat} {w0 : World} {M : List (List Int)} (x : Cat n₀ w0 M) : Nat × List Int := (x.i, x.l)
theorem make_start (w : World) (q m cp : Nat) (A : Option Addr) :
    MkS (w.heap.size + 1 + 1) (w.heap.size + 1 + 1 + 1) (w.heap.size + 1) w.heap.size (w.heap.size + 1 + 1 + 1 + 1 + 1) m (st []) ((((((w.drewN q).alloc (.cells (madeCells #[nilSl, nilSl] (m * 2)) 51)).alloc (.cells #[.slice (some ⟨w.heap.size, 0, none⟩) m m, .int .i64 0] 46)).alloc (.cells #[.pointer (some ⟨w.heap.size + 1, 0, none⟩)] 25)).alloc (.cells #[nilSl] 31)).alloc (.cells #[.slice A m cp] 22)) ∧
    ((((((w.drewN q).alloc (.cells (madeCells #[nilSl, nilSl] (m * 2)) 51)).alloc (.cells #[.slice (some ⟨w.heap.size, 0, none⟩) m m, .int .i64 0] 46)).alloc (.cells #[.pointer (some ⟨w.heap.size + 1, 0, none⟩)] 25)).alloc (.cells #[nilSl] 31)).alloc (.cells #[.slice A m cp] 22)).heap[w.heap.size + 1 + 1 + 1 + 1]? = some (.cells #[.slice A m cp] 22 (0, 0)) ∧
    Below w.heap.size w ((((((w.drewN q).alloc (.cells (madeCells #[nilSl, nilSl] (m * 2)) 51)).alloc (.cells #[.slice (some ⟨w.heap.size, 0, none⟩) m m, .int .i64 0] 46)).alloc (.cells #[.pointer (some ⟨w.heap.size + 1, 0, none⟩)] 25)).alloc (.cells #[nilSl] 31)).alloc (.cells #[.slice A m cp] 22)) ∧
    ((((((w.drewN q).alloc (.cells (madeCells #[nilSl, nilSl] (m * 2)) 51)).alloc (.cells #[.slice (some ⟨w.heap.size, 0, none⟩) m m, .int .i64 0] 46)).alloc (.cells #[.pointer (some ⟨w.heap.size + 1, 0, none⟩)] 25)).alloc (.cells #[nilSl] 31)).alloc (.cells #[.slice A m cp] 22)).heap.size = w.heap.size + 1 + 1 + 1 + 1 + 1 := by
  have z : (w.drewN q).heap.size = w.heap.size := rfl
  have b0 := bdNew (w.drewN q) (.cells (madeCells #[nilSl, nilSl] (m * 2)) 51)
  have hb := bdN (Below.refl w.heap.size w) q
  have s0 : ((w.drewN q).alloc (.cells (madeCells #[nilSl, nilSl] (m * 2)) 51)).heap.size = w.heap.size + 1 := by simp
  have hb0 := hb.alloc (Nat.le_refl _) (.cells (madeCells #[nilSl, nilSl] (m * 2)) 51)
  generalize ((w.drewN q).alloc (.cells (madeCells #[nilSl, nilSl] (m * 2)) 51)) = V0 at b0 s0 hb0 ⊢
  rw [z] at b0
  have b1 := bdNew V0 (.cells #[.slice (some ⟨w.heap.size, 0, none⟩) m m, .int .i64 0] 46)
  have a0 := bdOld (p := .cells #[.slice (some ⟨w.heap.size, 0, none⟩) m m, .int .i64 0] 46) b0
  have s1 : (V0.alloc (.cells #[.slice (some ⟨w.heap.size, 0, none⟩) m m, .int .i64 0] 46)).heap.size = w.heap.size + 1 + 1 := by simp [s0]
  have hb1 := hb0.alloc (by omega) (.cells #[.slice (some ⟨w.heap.size, 0, none⟩) m m, .int .i64 0] 46)
  generalize (V0.alloc (.cells #[.slice (some ⟨w.heap.size, 0, none⟩) m m, .int .i64 0] 46)) = V1 at b1 a0 s1 hb1 ⊢
  rw [s0] at b1
  have b2 := bdNew V1 (.cells #[.pointer (some ⟨w.heap.size + 1, 0, none⟩)] 25)
  have a1 := bdOld (p := .cells #[.pointer (some ⟨w.heap.size + 1, 0, none⟩)] 25) b1
  have a0 := bdOld (p := .cells #[.pointer (some ⟨w.heap.size + 1, 0, none⟩)] 25) a0
  have s2 : (V1.alloc (.cells #[.pointer (some ⟨w.heap.size + 1, 0, none⟩)] 25)).heap.size = w.heap.size + 1 + 1 + 1 := by simp [s1]
  have hb2 := hb1.alloc (by omega) (.cells #[.pointer (some ⟨w.heap.size + 1, 0, none⟩)] 25)
  generalize (V1.alloc (.cells #[.pointer (some ⟨w.heap.size + 1, 0, none⟩)] 25)) = V2 at b2 a1 a0 s2 hb2 ⊢
  rw [s1] at b2
  have b3 := bdNew V2 (.cells #[nilSl] 31)
  have a2 := bdOld (p := .cells #[nilSl] 31) b2
  have a1 := bdOld (p := .cells #[nilSl] 31) a1
  have a0 := bdOld (p := .cells #[nilSl] 31) a0
  have s3 : (V2.alloc (.cells #[nilSl] 31)).heap.size = w.heap.size + 1 + 1 + 1 + 1 := by simp [s2]
  have hb3 := hb2.alloc (by omega) (.cells #[nilSl] 31)
  generalize (V2.alloc (.cells #[nilSl] 31)) = V3 at b3 a2 a1 a0 s3 hb3 ⊢
  rw [s2] at b3
  have b4 := bdNew V3 (.cells #[.slice A m cp] 22)
  have a3 := bdOld (p := .cells #[.slice A m cp] 22) b3
  have a2 := bdOld (p := .cells #[.slice A m cp] 22) a2
  have a1 := bdOld (p := .cells #[.slice A m cp] 22) a1
  have a0 := bdOld (p := .cells #[.slice A m cp] 22) a0
  have s4 : (V3.alloc (.cells #[.slice A m cp] 22)).heap.size = w.heap.size + 1 + 1 + 1 + 1 + 1 := by simp [s3]
  have hb4 := hb3.alloc (by omega) (.cells #[.slice A m cp] 22)
  generalize (V3.alloc (.cells #[.slice A m cp] 22)) = V4 at b4 a3 a2 a1 a0 s4 hb4 ⊢
  rw [s3] at b4
  exact ⟨⟨a2, ⟨none, 0, a3, none, 0, rfl, Nat.le_refl _, by unfold maxLen; omega, fun _ => rfl, IntsAt.nil _ _ _⟩, a1, ⟨_, size_madeCells _ _, a0⟩, fun j l h => by simp [st] at h, by omega⟩, b4, hb4, s4⟩
theorem cell_two {w : World} {b b' o i j : Nat} {u v val : Value} (h : w.cell? ⟨b, o, none⟩ = some val) (hne : b ≠ b') : ((w.setCell ⟨b', i, none⟩ u).setCell ⟨b', j, none⟩ v).cell? ⟨b, o, none⟩ = some val :=
  (World.cell?_of_block ((setCell_other hne).trans (setCell_other hne))).trans h
theorem keepsFrom_bel0 {B : Nat} {W W' : World} (h : Below W.heap.size W W') : KeepsFrom B W W' :=
  ⟨h.size, fun k _ _ hk _ => (h.block k (Array.getElem?_eq_some_iff.1 hk).1).trans hk⟩
theorem make_keeps {W w1 : World} {n₀ B g N bx i j : Nat} {u v z : Value} (hb' : Below W.heap.size W w1) (hg : n₀ ≤ g) (hN : n₀ ≤ N) (hn : n₀ ≤ W.heap.size) (h1 : bx ≠ g) (h2 : bx ≠ N) (h3 : bx < W.heap.size) :
    KeepsFrom B W (((w1.setCell ⟨g, i, none⟩ u).setCell ⟨g, j, none⟩ v).setCell ⟨N, 0, none⟩ z) ∧ KpB n₀ bx W (((w1.setCell ⟨g, i, none⟩ u).setCell ⟨g, j, none⟩ v).setCell ⟨N, 0, none⟩ z) := by
  refine ⟨?_, ?_, ?_⟩
  · have k1 : KeepsFrom B W w1 := keepsFrom_bel0 hb'
    have k2 : KeepsFrom B w1 (w1.setCell ⟨g, i, none⟩ u) := (KeepsOthers.setCell _ _ _).from _
    have k3 : KeepsFrom B (w1.setCell ⟨g, i, none⟩ u) ((w1.setCell ⟨g, i, none⟩ u).setCell ⟨g, j, none⟩ v) := (KeepsOthers.setCell _ _ _).from _
    have k4 : KeepsFrom B ((w1.setCell ⟨g, i, none⟩ u).setCell ⟨g, j, none⟩ v) (((w1.setCell ⟨g, i, none⟩ u).setCell ⟨g, j, none⟩ v).setCell ⟨N, 0, none⟩ z) := (KeepsOthers.setCell _ _ _).from _
    exact ((k1.trans k2).trans k3).trans k4
  · have b1 : Below n₀ W w1 := hb'.mono hn
    have b2 : Below n₀ W (w1.setCell ⟨g, i, none⟩ u) := b1.setCell (p := ⟨g, i, none⟩) hg u
    have b3 : Below n₀ W ((w1.setCell ⟨g, i, none⟩ u).setCell ⟨g, j, none⟩ v) := b2.setCell (p := ⟨g, j, none⟩) hg v
    exact b3.setCell (p := ⟨N, 0, none⟩) hN z
  · exact (setCell_other h2).trans ((setCell_other h1).trans ((setCell_other h1).trans (hb'.block _ h3)))
theorem keepsFrom_bel {B : Nat} {W W' : World} (h : Below W.heap.size W W') : KeepsFrom B W W' :=
  ⟨h.size, fun k _ _ hk _ => (h.block k (Array.getElem?_eq_some_iff.1 hk).1).trans hk⟩
theorem below_put' {w W : World} {D : Nat} (h : Below w.heap.size w W) (hD : w.heap.size ≤ D) (hK : W.heap[D]? = some (.deferred (some []))) : Below w.heap.size w (W.putObj D (.deferred none)) :=
  h.trans (belowK_b (w := w) (Nat.le_refl _) W D _ _ hD hK rfl rfl)

theorem prp_of {n₀ : Nat} {w0 : World} {M : List (List Int)} (xs : List (Cat n₀ w0 M)) : (xs.map prp).map Prod.fst = xs.map Cat.i ∧ ∀ p ∈ xs.map prp, M[p.1]? = some p.2 := by
  refine ⟨by rw [List.map_map]; rfl, fun p hp => ?_⟩
  obtain ⟨x, _, rfl⟩ := List.mem_map.1 hp
  exact x.hi
theorem st_end {n₀ : Nat} {w0 : World} {M : List (List Int)} {xs : List (Cat n₀ w0 M)} (h : xs.map Cat.i = (List.range' 0 M.length).reverse) (j : Nat) : (st (xs.map prp)).1 j = (lsts M)[j]? := by
  obtain ⟨h1, h2⟩ := prp_of xs
  exact (st_part M M.length (xs.map prp) (Nat.le_refl _) (by rw [h1, h, Nat.sub_self]) h2).2 j (by omega)
theorem make_done {w0 W : World} {X N ix g h0 m D n₀ : Nat} {M : List (List Int)} {xs : List (Cat n₀ w0 M)} (hm : M.length = m) (h : MkS X N ix g h0 m (st (xs.map prp)) W) (hxs : xs.map Cat.i = (List.range' 0 M.length).reverse)
    (hK : W.heap[D]? = some (.deferred (some []))) (h1 : ix < h0) (h2 : g < ix) : IX ix g (W.putObj D (.deferred none)).heap.size (lsts M) 0 (W.putObj D (.deferred none)) := by
  have hr : ∀ r, some D = some r → ∃ o : Obj, W.heap[r]? = some o ∧ o.isCells = false := fun r e => by cases e; exact ⟨_, hK, rfl⟩
  have h' := h.grown (grownBy_putObj' W D (.deferred none)) hr
  have hsz := h'.size
  have hl : (lsts M).length = m := by rw [lsts_len, hm]
  refine ⟨by rw [hl]; exact h'.box, ?_, by omega, by omega, by omega⟩
  rw [hl]
  intro j l hj hjm
  obtain ⟨A1, c1, A2, c2, q1, q2, q3, q4⟩ := h'.lists j l (by rw [st_end hxs]; exact hj) hjm
  exact ⟨A1, c1, A2, c2, q1, q2, q3.more fun b hb => ⟨hb.2, by omega⟩, q4.more fun b hb => ⟨hb.2, by omega⟩⟩
set_option maxHeartbeats 8000000 in
theorem make_any (A : Option Addr) (cp : Nat) (M : List (List Int)) (w : World) (hm : M.length ≤ maxLen) (hR : RowsAt (· < w.heap.size) w A M) :
    Calls Try.prog 9 #[.slice A M.length cp] w (MakePost w M) := by
  have HR := Lib.hid hR
  have HC1 := Lib.hid (conLong_any A cp M _ w hm hR)
  have HC2 := Lib.hid (conBad_any A cp M _ w hm hR)
  obtain ⟨m, hmm⟩ : ∃ m, M.length = m := ⟨_, rfl⟩
  have HM := Lib.hid hmm
  rw [hmm] at HC1 HC2 hm ⊢
  unfold maxLen at hm
  clear hR hmm
  refine (callsIn_wide (n := 3)).1 ?_
  refine callsIn_of_wp_marks Try.func9 rfl trivial ?_ rfl
  simp only [Try.ntmps9, List.size_toArray, List.length_cons, List.length_nil, Nat.reduceAdd, Nat.reduceSub, Array.replicate_succ, Array.replicate_zero, List.push_toArray, List.append_toArray, List.nil_append, List.cons_append]
  by_cases h1 : 32 < m
  · have HE := Lib.hid (ckM_4a (M := M) (by rw [HM.out]; exact h1))
    gi_wp2_with fail
    refine ⟨trivial, ?_⟩
    gi_wp2_with fail
    exact ⟨_, results_tmp2 rfl _ _ _, Below.refl _ _, .inl ⟨by rw [HE.out]; decide, by rw [HE.out]; rfl⟩⟩
  cases h2 : M.any longC
  case true =>
    have HE := Lib.hid (ckM_4b h2)
    rw [h2] at HC1
    clear h2
    gi_wp2_with fail
    refine ⟨trivial, (callsIn_wide.2 HC1.out).mono ?_⟩
    rintro e w1 ⟨rfl, rfl⟩
    gi_wp2_with fail
    exact ⟨_, results_tmp2 rfl _ _ _, Below.refl _ _, .inl ⟨by rw [HE.out]; decide, by rw [HE.out]; rfl⟩⟩
  case false =>
    rw [h2] at HC1
    by_cases h3 : m = 0
    · have HE := Lib.hid (ckM_1a (M := M) (by rw [HM.out]; exact h3))
      clear h2
      subst h3
      gi_wp2_with fail
      refine ⟨trivial, (callsIn_wide.2 HC1.out).mono ?_⟩
      rintro e w1 ⟨rfl, rfl⟩
      gi_wp2_with fail
      refine ⟨trivial, ?_⟩
      gi_wp2_with fail
      exact ⟨_, results_tmp2 rfl _ _ _, Below.refl _ _, .inl ⟨by rw [HE.out]; decide, by rw [HE.out]; rfl⟩⟩
    have h3b : ((m : Int) == 0) = false := by simp; omega
    cases h4 : M.any (fun c => !okCat c)
    case true =>
      have HE := Lib.hid (ckM_1b (by rw [HM.out]; exact h1) h2 h4)
      rw [h4] at HC2
      clear h2 h4
      gi_wp2_with fail
      refine ⟨trivial, (callsIn_wide.2 HC1.out).mono ?_⟩
      rintro e w1 ⟨rfl, rfl⟩
      gi_wp2_with fail
      refine ⟨trivial, (callsIn_wide.2 HC2.out).mono ?_⟩
      rintro e w1 ⟨rfl, q, rfl⟩
      gi_wp2_with fail
      exact ⟨_, results_tmp2 rfl _ _ _, bdN (Below.refl _ _) _, .inl ⟨by rw [HE.out]; decide, by rw [HE.out]; rfl⟩⟩
    case false =>
      have HE := Lib.hid (ckM_0 (by rw [HM.out]; exact h1) h2 (by rw [HM.out]; exact h3) h4)
      rw [h4] at HC2
      obtain ⟨i0, hi, hz0, hz1, hz2⟩ := info_parts Try.infoAug
      have hmk : ∀ W : World, (Instr.makeSlice 44 (.int .i64 (m : Int)) (.int .i64 (m : Int))).run Try.prog W = .ok (.slice (some ⟨W.heap.size, 0, none⟩) m m) (W.alloc (.cells (madeCells #[nilSl, nilSl] (m * 2)) 51)) := fun W => by
        have h := run_make (P := Try.prog) W 44 51 i0 _ Try.underlying44 hi hz0 .i64 .i64 (m : Int) (m : Int) (by omega) (Int.le_refl _) (by rw [hz2]; omega) (by omega)
        rw [hz1] at h
        exact h
      clear h2 h4
      gi_wp2_with fail
      refine ⟨trivial, (callsIn_wide.2 HC1.out).mono ?_⟩
      rintro e w1 ⟨rfl, rfl⟩
      gi_wp2_with fail
      refine ⟨trivial, (callsIn_wide.2 HC2.out).mono ?_⟩
      rintro e w1 ⟨rfl, q, rfl⟩
      gi_wp2_with fail
      refine ⟨trivial, (back_in Fence.wide _ wideF rfl A m cp _).mono ?_⟩
      rintro e w' ⟨rfl, rfl⟩
      gi_wp2_with fail
      obtain ⟨hS, hbx, hB, hsz⟩ := make_start w q m cp A
      generalize ((((((w.drewN q).alloc (.cells (madeCells #[nilSl, nilSl] (m * 2)) 51)).alloc (.cells #[.slice (some ⟨w.heap.size, 0, none⟩) m m, .int .i64 0] 46)).alloc (.cells #[.pointer (some ⟨w.heap.size + 1, 0, none⟩)] 25)).alloc (.cells #[nilSl] 31)).alloc (.cells #[.slice A m cp] 22)) = W0 at hS hbx hB hsz ⊢
      clear hmk hi hz0 hz1 hz2 HC1 HC2
      have HB0 := Lib.hid hB
      have HL1 := Lib.hid (ckM_ok HE.out).2.2.1
      refine wpIn_rangeFunc_ownG rfl (by omega) (gf := 37) (lb := #[.pointer (some ⟨w.heap.size + 1 + 1 + 1 + 1, 0, none⟩)]) rfl trivial (enters_of Try.func37 (by kernel_rfl) rfl)
        (back_stops Fence.wide (3 - 1) wideF rfl (by omega) (w.heap.size + 1 + 1 + 1 + 1) w.heap.size A cp M W0 (by rw [HM.out]; exact hbx) (HR.out.below hB) (by omega) (by rw [HM.out]; omega))
        (fun h k => h.trans k) (fun W l o o' hl h h1 h2 => ⟨belowK_b (w := W0) (by omega) W l o o' hl h h1 h2, (grownBy_putObj' W l o').block _ (by have := (Array.getElem?_eq_some_iff.1 h).1; omega) (by intro e; injection e with e; omega)⟩) (Below.refl _ _) (fun _ => rfl)
        (fun pre W => MkS (w.heap.size + 1 + 1) (w.heap.size + 1 + 1 + 1) (w.heap.size + 1) w.heap.size (w.heap.size + 1 + 1 + 1 + 1 + 1) m (st (pre.map prp)) W ∧ Below w.heap.size w W)
        (fun _ _ _ => False)
        (.and (Own.from (fun s X Y row hs hg hr => hs.grown hg hr) _) (ownFrom_below (Nat.le_refl _) (by omega)))
        (fun _ _ _ _ _ hs _ _ => hs)
        ⟨hS, hB⟩
        (fun x => { tmps := #[.slice A m cp, undef, .pointer none, .int .i64 0, .pointer (some ⟨w.heap.size + 1 + 1, 0, none⟩), .pointer (some ⟨w.heap.size + 1 + 1 + 1, 0, none⟩), .int .i64 (x.i : Int), .slice x.A x.l.length x.c, .slice A m cp,
          .int .i64 (m : Int), .bool (decide ((32 : Int) < (m : Int))), .bool (decide ((32 : Int) < (m : Int))), .slice A m cp, .bool false, .bool (decide ((32 : Int) < (m : Int))), .slice A m cp, .int .i64 (m : Int), .bool false, .bool false, .slice A m cp, .bool false, .bool false, .slice A m cp, .int .i64 (m : Int),
          .slice (some ⟨w.heap.size, 0, none⟩) m m, .agg #[.slice (some ⟨w.heap.size, 0, none⟩) m m, .int .i64 0], .pointer (some ⟨w.heap.size + 1, 0, none⟩), .slice A m cp, .func (.func 37) #[] #[.pointer (some ⟨w.heap.size + 1 + 1 + 1 + 1, 0, none⟩)],
          .int .i64 (x.i : Int), .slice x.A x.l.length x.c, undef, undef, undef, undef, undef, undef, undef, undef, undef, undef, undef, undef, undef, undef, undef, undef, undef, undef], defers := [] }) ?assign ?body ?done ?stop
      case assign =>
        intro l x W K hK
        unfold Cat.enc
        gi_wp2_with fail
        exact hK
      case body =>
        rintro l pre x W ⟨hS, hB⟩ hlt
        have him : x.i < m := by have := (List.getElem?_eq_some_iff.1 x.hi).1; rw [HM.out] at this; exact this
        obtain ⟨An, cn, n1, n2⟩ := hS.nx
        have hsn : (st (pre.map prp)).2.length ≤ 2000 := st_len _ fun p hp => HL1.out p.2 (List.mem_of_getElem? ((prp_of pre).2 p hp))
        have hxl : x.l.length ≤ 1000 := HL1.out _ (List.mem_of_getElem? x.hi)
        obtain ⟨A', c', e1, e2, e3, e4, e5⟩ := n2
        injection e1 with e1 _ e1'
        subst e1 e1'
        have HCA := Lib.hid (augment_any x.A An x.c cn x.l (st (pre.map prp)).2 W.drew (· < W.heap.size) (fun b h => h) ((x.hA.keep fun b o hb => (hB.cell (p := ⟨b, o, none⟩) hb).trans (HB0.out.cell (p := ⟨b, o, none⟩) hb).symm).more fun b hb => Nat.lt_of_lt_of_le hb hB.size) (e5.more fun b h => h.2) (by omega) (by omega))
        have p0 := (bk1 hS.x).1
        have q0 := (bk2 hS.box).1.1
        obtain ⟨cs, r1, r2⟩ := hS.row
        obtain ⟨u0, hu0⟩ : ∃ u, cs[x.i * 2]? = some u := ⟨cs[x.i * 2]'(by omega), Array.getElem?_eq_getElem _⟩
        obtain ⟨u1, hu1⟩ : ∃ u, cs[x.i * 2 + 1]? = some u := ⟨cs[x.i * 2 + 1]'(by omega), Array.getElem?_eq_getElem _⟩
        have hfact : ∀ w1 : World, Below W.drew.heap.size W.drew w1 → (w1.cell? ⟨w.heap.size + 1 + 1, 0, none⟩ = some (.pointer (some ⟨w.heap.size + 1, 0, none⟩)) ∧ w1.cell? ⟨w.heap.size + 1, 0, none⟩ = some (.slice (some ⟨w.heap.size, 0, none⟩) m m) ∧ w1.cell? ⟨w.heap.size + 1 + 1 + 1, 0, none⟩ = some (.slice An (st (pre.map prp)).2.length cn)) ∧
            (w1.cell? ⟨w.heap.size, x.i * 2, none⟩ = some u0 ∧ w1.cell? ⟨w.heap.size, x.i * 2 + 1, none⟩ = some u1 ∧ w1.frozen? ⟨w.heap.size, x.i * 2, none⟩ = false ∧ w1.frozen? ⟨w.heap.size, x.i * 2 + 1, none⟩ = false) := fun w1 hb => by
          have hb' : Below W.heap.size W w1 := (Below.refl W.heap.size W).drew.trans hb
          have hr := bdAt r2 hb'
          exact ⟨⟨(bk1 (bdAt hS.x hb')).1, (bk2 (bdAt hS.box hb')).1.1, (bk1 (bdAt n1 hb')).1⟩, (cell_of_row _ _ _ _ _ _ hr).trans hu0, (cell_of_row _ _ _ _ _ _ hr).trans hu1, by simp [World.frozen?, hr], by simp [World.frozen?, hr]⟩
        have HF := Lib.hid hfact
        have p1 := (bk1 n1).1
        have HN1 := Lib.hid n1
        have HS := Lib.hid hS
        have HB := Lib.hid hB
        have hmix : Try.prog.follows .mixedOrders = true := by kernel_rfl
        clear hfact n1 hS hB hsn hxl hlt e2 e3 e4 e5 r1 r2 hu0 hu1
        have him' : (x.i : Int) < (m : Int) := by omega
        gi_wp2_with fail
        refine wpIn_held_round (S := (fun V => V.cell? ⟨w.heap.size + 1 + 1, 0, none⟩ = some (.pointer (some ⟨w.heap.size + 1, 0, none⟩)) ∧ V.cell? ⟨w.heap.size + 1, 0, none⟩ = some (.slice (some ⟨w.heap.size, 0, none⟩) m m) ∧ V.cell? ⟨w.heap.size + 1 + 1 + 1, 0, none⟩ = some (.slice An (st (pre.map prp)).2.length cn))) (by kernel_rfl) (by kernel_rfl) ?hL (by exact ⟨p0, q0, p1⟩) (fun hHeld => ?_)
        case hL => (rintro ⟨a, w, h⟩; exact h)
        refine wpAnyH_take (i := 0) (oi := ⟨some 31, _, _, _, _, _⟩) (v := ?_) rfl (by kernel_rfl) (by kernel_rfl) (by kernel_rfl) (fun _ _ _ h => h) (Or.inl ⟨by rfl, ?_⟩) (by assumption) ?_
        rotate_left
        · (intro w hSw; (try dsimp only at hSw); go_simp; (try with_reducible rfl))
        (try simp only [Act.put, List.setIfInBounds_toArray, List.set_cons_zero, List.set_cons_succ])
        refine wpAnyH_take (i := 1) (oi := ⟨some 32, _, _, _, _, _⟩) (v := ?_) rfl (by kernel_rfl) (by kernel_rfl) (by kernel_rfl) (fun _ _ _ h => h) (Or.inl ⟨by rfl, ?_⟩) (by assumption) ?_
        rotate_left
        · (intro w hSw; (try dsimp only at hSw); go_simp; (try with_reducible rfl))
        (try simp only [Act.put, List.setIfInBounds_toArray, List.set_cons_zero, List.set_cons_succ])
        refine wpAnyH_take (i := 2) (oi := ⟨some 33, _, _, _, _, _⟩) (v := ?_) rfl (by kernel_rfl) (by kernel_rfl) (by kernel_rfl) (fun _ _ _ h => h) (Or.inl ⟨by rfl, ?_⟩) (by assumption) ?_
        rotate_left
        · (intro w hSw; (try dsimp only at hSw); go_simp; (try with_reducible rfl))
        (try simp only [Act.put, List.setIfInBounds_toArray, List.set_cons_zero, List.set_cons_succ])
        refine wpAnyH_take (i := 3) (oi := ⟨some 34, _, _, _, _, _⟩) (v := ?_) rfl (by kernel_rfl) (by kernel_rfl) (by kernel_rfl) (fun _ _ _ h => h) (Or.inl ⟨by rfl, ?_⟩) (by assumption) ?_
        rotate_left
        · (intro w hSw; (try dsimp only at hSw); go_simp; (try with_reducible rfl))
        (try simp only [Act.put, List.setIfInBounds_toArray, List.set_cons_zero, List.set_cons_succ])
        refine wpAnyH_take (i := 4) (oi := ⟨some 35, _, _, _, _, _⟩) (v := ?_) rfl (by kernel_rfl) (by kernel_rfl) (by kernel_rfl) (fun _ _ _ h => h) (Or.inl ⟨by rfl, ?_⟩) (by assumption) ?_
        rotate_left
        · (intro w hSw; (try dsimp only at hSw); go_simp; (try with_reducible rfl))
        (try simp only [Act.put, List.setIfInBounds_toArray, List.set_cons_zero, List.set_cons_succ])
        refine wpAnyH_take (i := 5) (oi := ⟨some 36, _, _, _, _, _⟩) (v := ?_) rfl (by kernel_rfl) (by kernel_rfl) (by kernel_rfl) (fun _ _ _ h => h) (Or.inl ⟨by rfl, ?_⟩) (by assumption) ?_
        rotate_left
        · (intro w hSw; (try dsimp only at hSw); go_simp; (try with_reducible rfl))
        (try simp only [Act.put, List.setIfInBounds_toArray, List.set_cons_zero, List.set_cons_succ])
        refine wpAnyH_take (i := 6) (oi := ⟨some 37, _, _, _, _, _⟩) (v := ?_) rfl (by kernel_rfl) (by kernel_rfl) (by kernel_rfl) (fun _ _ _ h => h) (Or.inl ⟨by rfl, ?_⟩) (by assumption) ?_
        rotate_left
        · (intro w hSw; (try dsimp only at hSw); go_simp; (try with_reducible rfl))
        (try simp only [Act.put, List.setIfInBounds_toArray, List.set_cons_zero, List.set_cons_succ])
        refine wpAnyH_ready (rs := [7]) (by kernel_rfl) (by simp) ?_
        refine AllReadyH.cons rfl (fun K hK => ?_) AllReadyH.nil
        go_simp
        refine HCA.out.mono ?_; rintro e w1 ⟨A1, c1, A2, c2, rfl, v1, v2, hb⟩; obtain ⟨⟨z0, z1, z2⟩, y0, y1, yf0, yf1⟩ := HF.out w1 hb
        refine hK.out _ _ (by exact ⟨z0, z1, z2⟩) (fun hHeld => ?_)
        clear hK K
        (try simp only [Act.put, List.setIfInBounds_toArray, List.set_cons_zero, List.set_cons_succ])
        refine wpAnyH_take (i := 8) (oi := ⟨some 39, _, _, _, _, _⟩) (v := ?_) rfl (by kernel_rfl) (by kernel_rfl) (by kernel_rfl) (fun _ _ _ h => h) (Or.inl ⟨by rfl, ?_⟩) (by assumption) ?_
        rotate_left
        · (intro w hSw; (try dsimp only at hSw); go_simp; (try with_reducible rfl))
        (try simp only [Act.put, List.setIfInBounds_toArray, List.set_cons_zero, List.set_cons_succ])
        refine wpAnyH_ready (rs := [9]) (by kernel_rfl) (by simp) ?_
        refine AllReadyH.cons rfl (fun K hK => ?_) AllReadyH.nil
        go_simp
        refine hK.out _ _ ⟨cell_two z0 (by omega), cell_two z1 (by omega), cell_two z2 (by omega)⟩ (fun hHeld => ?_)
        clear hK K
        (try simp only [Act.put, List.setIfInBounds_toArray, List.set_cons_zero, List.set_cons_succ])
        refine wpAnyH_done (by kernel_rfl) ?_ _
        obtain ⟨W2, hW2⟩ : ∃ W2, W2 = ((w1.setCell ⟨w.heap.size, x.i * 2, none⟩ (.slice A1 (aug x.l (st (pre.map prp)).2).length c1)).setCell ⟨w.heap.size, x.i * 2 + 1, none⟩ (.slice A2 ((aug x.l (st (pre.map prp)).2).length + 1) c2)) := ⟨_, rfl⟩
        have hb' : Below W.heap.size W w1 := (Below.refl W.heap.size W).drew.trans hb
        have hS1 := HS.out.below hb'
        have hWs := HS.out.size
        have hst := hS1.step (i := x.i) (l := x.l) him (by omega) (by omega) (by omega) (by omega) (by omega) (by omega) (by omega) (by omega) (by omega) (v1.more fun b hb => ⟨by have h1 : W.heap.size ≤ b := hb.1; omega, hb.2⟩) (v2.more fun b hb => ⟨by have h1 : W.heap.size ≤ b := hb.1; omega, hb.2⟩)
        have hfin : KeepsFrom W0.heap.size W (W2.setCell ⟨w.heap.size + 1 + 1 + 1, 0, none⟩ (.slice A1 (aug x.l (st (pre.map prp)).2).length c1)) ∧ KpB w.heap.size (w.heap.size + 1 + 1 + 1 + 1) W (W2.setCell ⟨w.heap.size + 1 + 1 + 1, 0, none⟩ (.slice A1 (aug x.l (st (pre.map prp)).2).length c1)) ∧
            (MkS (w.heap.size + 1 + 1) (w.heap.size + 1 + 1 + 1) (w.heap.size + 1) w.heap.size (w.heap.size + 1 + 1 + 1 + 1 + 1) m (st ((pre ++ [x]).map prp)) (W2.setCell ⟨w.heap.size + 1 + 1 + 1, 0, none⟩ (.slice A1 (aug x.l (st (pre.map prp)).2).length c1)) ∧ Below w.heap.size w (W2.setCell ⟨w.heap.size + 1 + 1 + 1, 0, none⟩ (.slice A1 (aug x.l (st (pre.map prp)).2).length c1))) := by
          have hk := make_keeps (n₀ := w.heap.size) (B := W0.heap.size) (g := w.heap.size) (N := w.heap.size + 1 + 1 + 1) (bx := w.heap.size + 1 + 1 + 1 + 1) (i := x.i * 2) (j := x.i * 2 + 1) (u := .slice A1 (aug x.l (st (pre.map prp)).2).length c1) (v := .slice A2 ((aug x.l (st (pre.map prp)).2).length + 1) c2) (z := .slice A1 (aug x.l (st (pre.map prp)).2).length c1) hb' (Nat.le_refl _) (by omega) (by omega) (by omega) (by omega) (by omega)
          rw [List.map_append, List.map_singleton, st_snoc, hW2]
          exact ⟨hk.1, hk.2, hst, HB.out.trans hk.2.1⟩
        have hN2 : W2.heap[w.heap.size + 1 + 1 + 1]? = some (.cells #[.slice An (st (pre.map prp)).2.length cn] 31 (0, 0)) := by
          rw [hW2]
          exact (setCell_other (by omega)).trans ((setCell_other (by omega)).trans (bdAt HN1.out hb'))
        obtain ⟨hh1, hh2, hh3⟩ := hHeld
        have hgc : W2.cell? ⟨w.heap.size, x.i * 2, none⟩ = some (.slice A1 (aug x.l (st (pre.map prp)).2).length c1) := by
          obtain ⟨cs1, r1, r2⟩ := hS1.row
          rw [hW2, cell_of_row _ _ _ _ _ _ (setCell_at (setCell_at r2))]
          simp [Array.getElem?_setIfInBounds, r1]
          omega
        rw [← hW2] at hh1 hh2 hh3 ⊢
        have hNf := (bk1 hN2).2
        clear hN2
        have HFIN := Lib.hid hfin
        clear hfin hst hS1 hb' hb v1 v2 z0 z1 z2 y0 y1 yf0 yf1 p0 q0 p1 hW2
        obtain ⟨L1, hL1⟩ : ∃ L1, L1 = (aug x.l (st (pre.map prp)).2).length := ⟨_, rfl⟩
        rw [← hL1] at hgc HFIN ⊢
        clear hL1
        gi_wp2_with fail
        exact HFIN.out
      case done =>
        rintro D xs W hD hxs ⟨hS, hB⟩ hK
        have hfin := make_done HM.out hS hxs hK (by omega) (by omega)
        have HFIN := Lib.hid hfin
        have HBW := Lib.hid (below_put' hB (by omega) hK)
        have p0 := (bk1 hS.x).1
        have HK := Lib.hid hK
        clear hfin hS hB hK hxs
        gi_wp2_with fail
        refine ⟨by simp, .inl ⟨_, _, rfl, run_takeDeferred HK.out, ?_⟩⟩
        exact ⟨_, results_tmp2 rfl _ _ _, HBW.out, .inr ⟨HE.out, _, _, rfl, by omega, HFIN.out⟩⟩
      case stop =>
        rintro D c pre W hD hpre h _
        exact h.elim
end Go.Proofs.Ytedjjleckhclcaa
