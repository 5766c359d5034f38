/- The reference of layer 28: Delete, where it succeeds. -/
import Derived.Test.YtbmaijkpcpbgjaaOrdT
namespace Go.Proofs.Ytbmaijkpcpbgjaa
open Go.RowKit
set_option maxRecDepth 100000
/-- What the reference's Delete leaves. -/
def RDel (made : Nat) (L' : List Int) (w : World) (er : Ending) (w' : World) : Prop :=
  ∃ A cap, er = .returned (.tuple #[.agg #[.slice A L'.length cap, .int .i64 (made : Int)], .int .i64 0]) ∧ ORow w.heap.size w' A cap L' ∧ Below w.heap.size w w'
theorem rdel_end {made k n m g3 c3 NB : Nat} {L : List Int} {w w3 : World} {xs3 : List Value} {v1 v2 : Value} (hn : L.length = n) (hk : k < n)
    (how : w3.ownsRow NB 3 1 (.slice (some ⟨g3, 0, none⟩) m c3) m xs3) (hm : m + 1 = n) (hxs : xs3 = (L.eraseIdx k).map (Value.int .i64)) (h1 : w.heap.size ≤ NB) (h2 : w.heap.size + 1 < NB) (hb : Below w.heap.size w w3) :
    RDel made (L.eraseIdx k) w (.returned (.tuple #[.agg #[.slice (some ⟨g3, 0, none⟩) m c3, .int .i64 (made : Int)], .int .i64 0])) (((w3.setCell ⟨w.heap.size + 1, 0, none⟩ v1).setCell ⟨w.heap.size + 1, 1, none⟩ v2)) := by
  have hl : (L.eraseIdx k).length = m := by rw [List.length_eraseIdx, if_pos (by omega)]; omega
  refine ⟨some ⟨g3, 0, none⟩, c3, by rw [hl], ?_, (hb.setCell (p := ⟨w.heap.size + 1, 0, none⟩) (by simp) _).setCell (p := ⟨w.heap.size + 1, 1, none⟩) (by simp) _⟩
  have h4 := ownsRow_setCell_below (ownsRow_setCell_below how (a := ⟨w.heap.size + 1, 0, none⟩) h2 v1) (a := ⟨w.heap.size + 1, 1, none⟩) h2 v2
  rw [hxs, ← hl] at h4
  exact (ORow.more (B := NB) (B' := w.heap.size) (A := some ⟨g3, 0, none⟩) (cap := c3) h4 h1)
set_option maxHeartbeats 8000000 in
theorem refDel_S (B cap n made : Nat) (L : List Int) (w : World) (hn : L.length = n) (hl : n ≤ 2000) (g0 : Nat) (h : ORow B w (some ⟨g0, 0, none⟩) cap L) (j : Nat) (x : Int) (hj : j < n) (hat : atI L x = (j : Int)) (hc : cap ≠ j + 1) :
    Calls Try.prog 26 #[.agg #[.slice (some ⟨g0, 0, none⟩) n cap, .int .i64 made], .int .i64 x] w (RDel made (L.eraseIdx j) w) := by
  have hcm2 := h.len.2
  unfold maxLen at hcm2
  rw [hn] at hcm2
  have HN := Lib.hid hn
  have hg0l := (World.ownsRow.lt h g0 rfl).2
  have hcell : ∀ (i : Nat) (y : Int), L[i]? = some y → w.cell? ⟨g0, i, none⟩ = some (.int .i64 y) := fun i y hy => by
    obtain ⟨g1, hA1, _, _, hcc⟩ := h.get hy
    have : g0 = g1 := by injection hA1 with hA1; injection hA1
    rw [this]; exact hcc
  have HC := Lib.hid hcell
  clear hcell
  have HAT := Lib.hid (refAt_any B (some ⟨g0, 0, none⟩) cap n made L x (w.alloc (.cells #[.slice (some ⟨g0, 0, none⟩) n cap, .int .i64 made] 27) |>.alloc (.cells #[.slice none 0 0, .int .i64 0] 27)) hn ((h.below ((Below.refl _ _).alloc (Nat.le_refl _) _)).below ((Below.refl _ _).alloc (Nat.le_refl _) _)))
  rw [hat] at HAT
  have hc2 : (cap == j + 1) = false := by simpa using hc
  have hc3 : ¬ cap = j + 1 := hc
  have d1 : decide ((j : Int) < 0) = false := decide_eq_false (by omega)
  obtain ⟨i1, hi1, hy0, hy1, hy2⟩ := info_parts Try.infoInt
  have hb1 : (0 : Int) ≤ (j : Int) + 1 := by omega
  have hb2 : (j : Int) + 1 ≤ (cap : Int) := by omega
  have hb3 : (j : Int) + 1 ≤ (n : Int) := by omega
  have hb5 : (j : Int) ≤ (cap : Int) := by omega
  have hb4 : ((j : Int) + 1).toNat = j + 1 := by omega
  clear hn h hat
  go_enter Try.func26, Try.ntmps26
  go_wp2_with fail
  refine HAT.out.mono ?_
  rintro er w1 ⟨rfl, rfl⟩
  have hnews1 : ∀ ad, (some ⟨g0, 0, none⟩ : Option Addr) = some ad → ∀ (i : Nat) (u : Value), ((L.take j).map (Value.int .i64))[i]? = some u → ((((w.alloc (.cells #[.slice (some ⟨g0, 0, none⟩) n cap, .int .i64 made] 27)).alloc (.cells #[.slice none 0 0, .int .i64 0] 27)).alloc (.cells #[.slice (some ⟨g0, 0, none⟩) n cap, .int .i64 made] 27)).alloc (.cells #[] 3)).cell? (ad.add i) = some u := fun ad had i u hu => by
    obtain rfl := Option.some.inj had
    rw [addr_add, Nat.zero_add]
    rw [List.getElem?_map, List.getElem?_take] at hu
    obtain ⟨y, hy, rfl⟩ := Option.map_eq_some_iff.1 hu
    split at hy
    · exact (((Below.refl w.heap.size w).alloc (Nat.le_refl _) _ |>.alloc (by simp) _ |>.alloc (by simp; omega) _ |>.alloc (by simp; omega) _).cell (p := ⟨g0, i, none⟩) hg0l).trans (HC.out i y hy)
    · cases hy
  have HNW := Lib.hid hnews1
  clear hnews1
  have hown0 : ((((w.alloc (.cells #[.slice (some ⟨g0, 0, none⟩) n cap, .int .i64 made] 27)).alloc (.cells #[.slice none 0 0, .int .i64 0] 27)).alloc (.cells #[.slice (some ⟨g0, 0, none⟩) n cap, .int .i64 made] 27)).alloc (.cells #[] 3)).ownsRow (w.heap.size + 3) 3 1 (.slice (some ⟨w.heap.size + 3, 0, none⟩) 0 0) 0 [] := by
    have hh := World.ownsRow_lit (base := w.heap.size + 3) (e := 3) (size := 1) (((w.alloc (.cells #[.slice (some ⟨g0, 0, none⟩) n cap, .int .i64 made] 27)).alloc (.cells #[.slice none 0 0, .int .i64 0] 27)).alloc (.cells #[.slice (some ⟨g0, 0, none⟩) n cap, .int .i64 made] 27)) #[] 0 (by simp) (by unfold maxLen; omega) rfl
    rw [show (((w.alloc (.cells #[.slice (some ⟨g0, 0, none⟩) n cap, .int .i64 made] 27)).alloc (.cells #[.slice none 0 0, .int .i64 0] 27)).alloc (.cells #[.slice (some ⟨g0, 0, none⟩) n cap, .int .i64 made] 27)).heap.size = w.heap.size + 3 by simp] at hh
    exact hh
  have HOW0 := Lib.hid hown0
  clear hown0
  go_wp2_with (at_builtin; refine wpList_app _ rfl (.tmp 14) (.tmp 18) 25 rfl (w.heap.size + 3) 3 i1 _ 8 Try.underlying25 hi1 hy0 hy1 hy2 rfl (w.heap.size + 3) 0 0 [] rfl HOW0.out (some ⟨g0, 0, none⟩) j cap ((L.take j).map (Value.int .i64)) rfl (by have := HN.out; simp <;> omega) (fun hh => by cases hh) HNW.out (ints_one _) (by unfold maxLen; omega) (by omega) (by simp) ?_)
  intro g1 c1 w1 hown1 hgrow1
  have hbl1 := grown_row HOW0.out hgrow1 (by simp)
  have hbx0 : ((((w.alloc (.cells #[.slice (some ⟨g0, 0, none⟩) n cap, .int .i64 made] 27)).alloc (.cells #[.slice none 0 0, .int .i64 0] 27)).alloc (.cells #[.slice (some ⟨g0, 0, none⟩) n cap, .int .i64 made] 27)).alloc (.cells #[] 3)).heap[w.heap.size]? = some (.cells #[.slice (some ⟨g0, 0, none⟩) n cap, .int .i64 made] 27 (0, 0)) := bdOld (bdOld (bdOld (bdNew _ _)))
  have hbr0 : ((((w.alloc (.cells #[.slice (some ⟨g0, 0, none⟩) n cap, .int .i64 made] 27)).alloc (.cells #[.slice none 0 0, .int .i64 0] 27)).alloc (.cells #[.slice (some ⟨g0, 0, none⟩) n cap, .int .i64 made] 27)).alloc (.cells #[] 3)).heap[w.heap.size + 1]? = some (.cells #[.slice none 0 0, .int .i64 0] 27 (0, 0)) := bdOld (bdOld (by
    have hh := bdNew (w.alloc (.cells #[.slice (some ⟨g0, 0, none⟩) n cap, .int .i64 made] 27)) (.cells #[.slice none 0 0, .int .i64 0] 27)
    rw [show (w.alloc (.cells #[.slice (some ⟨g0, 0, none⟩) n cap, .int .i64 made] 27)).heap.size = w.heap.size + 1 by simp] at hh
    exact hh))
  have HB0 := Lib.hid ((Below.refl w.heap.size w).alloc (Nat.le_refl _) (.cells #[.slice (some ⟨g0, 0, none⟩) n cap, .int .i64 made] 27) |>.alloc (by simp) (.cells #[.slice none 0 0, .int .i64 0] 27) |>.alloc (by simp; omega) (.cells #[.slice (some ⟨g0, 0, none⟩) n cap, .int .i64 made] 27) |>.alloc (by simp; omega) (.cells #[] 3))
  have hs1 := hbl1.size
  simp at hs1
  have hx1 := (hbl1.block w.heap.size (by omega)).trans hbx0
  have hr1 := (hbl1.block (w.heap.size + 1) (by omega)).trans hbr0
  have HB1 : Hid (Below w.heap.size w w1) := Lib.hid (HB0.out.trans (hbl1.mono (by omega)))
  have HR1 := Lib.hid hr1
  have HX1 := Lib.hid hx1
  have hown1' : w1.ownsRow (w.heap.size + 3) 3 1 (.slice (some ⟨g1, 0, none⟩) j c1) j ((L.take j).map (Value.int .i64)) := by simpa using hown1
  have HOW1 := Lib.hid hown1'
  have hg1B := (hown1'.lt g1 rfl).1
  have hnews3 : ∀ ad, (some ⟨g0, j + 1, none⟩ : Option Addr) = some ad → ∀ (i : Nat) (u : Value), ((L.drop (j + 1)).map (Value.int .i64))[i]? = some u → w1.cell? (ad.add i) = some u := fun ad had i u hu => by
    obtain rfl := Option.some.inj had
    rw [addr_add]
    rw [List.getElem?_map, List.getElem?_drop] at hu
    obtain ⟨y, hy, rfl⟩ := Option.map_eq_some_iff.1 hu
    exact (HB1.out.cell (p := ⟨g0, j + 1 + i, none⟩) hg0l).trans (HC.out _ y hy)
  have HNW3 := Lib.hid hnews3
  obtain ⟨⟨b0, b1⟩, _, _⟩ := bk2 hx1
  obtain ⟨⟨r0, r1⟩, q0, q1⟩ := bk2 hr1
  have R0 := Lib.hid r0
  have R1 := Lib.hid r1
  have Q0 := Lib.hid q0
  have Q1 := Lib.hid q1
  clear r0 r1 q0 q1 hbx0 hbr0 hx1 hr1 hgrow1 hown1 hbl1 HNW hown1' hnews3
  have w1s : IntKind.i64.wrap ((j : Int) + 1) = (j : Int) + 1 := IntWalk.i64_in _ (by omega)
  go_wp2_with fail
  go_region_held3 (fun w' => w'.cell? ⟨w.heap.size, 0, none⟩ = some (.slice (some ⟨g0, 0, none⟩) n cap) ∧ w'.cell? ⟨w.heap.size, 1, none⟩ = some (.int .i64 made))
    (first
      | go_keep
      | (go_split_ands
         refine ⟨?_, ?_⟩
         · ((refine (hgrow3.cell_far ⟨w.heap.size, _, none⟩ (by simp; omega) (by simp; omega)).trans ?_); assumption)
         · ((refine (hgrow3.cell_far ⟨w.heap.size, _, none⟩ (by simp; omega) (by simp; omega)).trans ?_); assumption)))
    ((refine step_app _ (by rfl) (.tmp 20) (.tmp 25) 25 (by rfl) (w.heap.size + 3) 3 i1 _ 8 Try.underlying25 hi1 hy0 hy1 hy2 rfl g1 j c1 ((L.take j).map (Value.int .i64)) (by rfl) (HOW1.out) (some ⟨g0, j + 1, none⟩) (n - (j + 1)) (cap - (j + 1)) ((L.drop (j + 1)).map (Value.int .i64)) (by rfl) (by have := HN.out; simp <;> omega) (fun hh => by cases hh) HNW3.out (ints_one _) (by unfold maxLen; omega) (by omega) (by simp; omega) ?_; intro g3 c3 w3 hown3 hgrow3; have z0 := (hgrow3.cell_far ⟨w.heap.size + 1, 0, none⟩ (by simp; omega) (by simp; omega)).trans R0.out; have z1 := (hgrow3.cell_far ⟨w.heap.size + 1, 1, none⟩ (by simp; omega) (by simp; omega)).trans R1.out; have y0 := (hgrow3.frozen_far ⟨w.heap.size + 1, 0, none⟩ (by simp; omega) (by simp; omega)).trans Q0.out; have y1 := (hgrow3.frozen_far ⟨w.heap.size + 1, 1, none⟩ (by simp; omega) (by simp; omega)).trans Q1.out))
  have hbl3 : Below (w.heap.size + 3) w1.drew w3 := grown_row (W := w1.drew) HOW1.out hgrow3 (by show w.heap.size + 3 ≤ w1.heap.size; omega)
  have HB3 : Hid (Below w.heap.size w w3) := Lib.hid ((bdN HB1.out 1).trans (hbl3.mono (by omega)))
  have HOW3 := Lib.hid hown3
  clear hbl3 hown3 hgrow3
  go_wp2_with fail
  exact bodyPost_ret (v := .tuple #[.agg #[.slice (some ⟨g3, 0, none⟩) (j + (n - (j + 1))) c3, .int .i64 (made : Int)], .int .i64 0]) (by simp [results, Try.results26, go_sem, z0, z1]) rfl (rdel_end (NB := w.heap.size + 3) HN.out hj HOW3.out (by omega) (by rw [List.eraseIdx_eq_take_drop_succ, List.map_append]) (by omega) (by omega) HB3.out)
set_option maxHeartbeats 8000000 in
theorem refDel_E (B n made j : Nat) (L : List Int) (w : World) (hn : L.length = n) (hl : n ≤ 2000) (g0 : Nat) (h : ORow B w (some ⟨g0, 0, none⟩) (j + 1) L) (x : Int) (hj : j < n) (hat : atI L x = (j : Int)) :
    Calls Try.prog 26 #[.agg #[.slice (some ⟨g0, 0, none⟩) n (j + 1), .int .i64 made], .int .i64 x] w (RDel made (L.eraseIdx j) w) := by
  have hcm2 := h.len.2
  unfold maxLen at hcm2
  rw [hn] at hcm2
  have HN := Lib.hid hn
  have hg0l := (World.ownsRow.lt h g0 rfl).2
  have hcell : ∀ (i : Nat) (y : Int), L[i]? = some y → w.cell? ⟨g0, i, none⟩ = some (.int .i64 y) := fun i y hy => by
    obtain ⟨g1, hA1, _, _, hcc⟩ := h.get hy
    have : g0 = g1 := by injection hA1 with hA1; injection hA1
    rw [this]; exact hcc
  have HC := Lib.hid hcell
  clear hcell
  have HAT := Lib.hid (refAt_any B (some ⟨g0, 0, none⟩) (j + 1) n made L x (w.alloc (.cells #[.slice (some ⟨g0, 0, none⟩) n (j + 1), .int .i64 made] 27) |>.alloc (.cells #[.slice none 0 0, .int .i64 0] 27)) hn ((h.below ((Below.refl _ _).alloc (Nat.le_refl _) _)).below ((Below.refl _ _).alloc (Nat.le_refl _) _)))
  rw [hat] at HAT
  have d1 : decide ((j : Int) < 0) = false := decide_eq_false (by omega)
  obtain ⟨i1, hi1, hy0, hy1, hy2⟩ := info_parts Try.infoInt
  have hb1 : (0 : Int) ≤ (j : Int) + 1 := by omega
  have hb2 : (j : Int) + 1 ≤ ((j + 1) : Int) := by omega
  have hb3 : (j : Int) + 1 ≤ (n : Int) := by omega
  have hb5 : (j : Int) ≤ ((j + 1) : Int) := by omega
  have hb4 : ((j : Int) + 1).toNat = j + 1 := by omega
  clear hn h hat
  go_enter Try.func26, Try.ntmps26
  go_wp2_with fail
  refine HAT.out.mono ?_
  rintro er w1 ⟨rfl, rfl⟩
  have hnews1 : ∀ ad, (some ⟨g0, 0, none⟩ : Option Addr) = some ad → ∀ (i : Nat) (u : Value), ((L.take j).map (Value.int .i64))[i]? = some u → ((((w.alloc (.cells #[.slice (some ⟨g0, 0, none⟩) n (j + 1), .int .i64 made] 27)).alloc (.cells #[.slice none 0 0, .int .i64 0] 27)).alloc (.cells #[.slice (some ⟨g0, 0, none⟩) n (j + 1), .int .i64 made] 27)).alloc (.cells #[] 3)).cell? (ad.add i) = some u := fun ad had i u hu => by
    obtain rfl := Option.some.inj had
    rw [addr_add, Nat.zero_add]
    rw [List.getElem?_map, List.getElem?_take] at hu
    obtain ⟨y, hy, rfl⟩ := Option.map_eq_some_iff.1 hu
    split at hy
    · exact (((Below.refl w.heap.size w).alloc (Nat.le_refl _) _ |>.alloc (by simp) _ |>.alloc (by simp; omega) _ |>.alloc (by simp; omega) _).cell (p := ⟨g0, i, none⟩) hg0l).trans (HC.out i y hy)
    · cases hy
  have HNW := Lib.hid hnews1
  clear hnews1
  have hown0 : ((((w.alloc (.cells #[.slice (some ⟨g0, 0, none⟩) n (j + 1), .int .i64 made] 27)).alloc (.cells #[.slice none 0 0, .int .i64 0] 27)).alloc (.cells #[.slice (some ⟨g0, 0, none⟩) n (j + 1), .int .i64 made] 27)).alloc (.cells #[] 3)).ownsRow (w.heap.size + 3) 3 1 (.slice (some ⟨w.heap.size + 3, 0, none⟩) 0 0) 0 [] := by
    have hh := World.ownsRow_lit (base := w.heap.size + 3) (e := 3) (size := 1) (((w.alloc (.cells #[.slice (some ⟨g0, 0, none⟩) n (j + 1), .int .i64 made] 27)).alloc (.cells #[.slice none 0 0, .int .i64 0] 27)).alloc (.cells #[.slice (some ⟨g0, 0, none⟩) n (j + 1), .int .i64 made] 27)) #[] 0 (by simp) (by unfold maxLen; omega) rfl
    rw [show (((w.alloc (.cells #[.slice (some ⟨g0, 0, none⟩) n (j + 1), .int .i64 made] 27)).alloc (.cells #[.slice none 0 0, .int .i64 0] 27)).alloc (.cells #[.slice (some ⟨g0, 0, none⟩) n (j + 1), .int .i64 made] 27)).heap.size = w.heap.size + 3 by simp] at hh
    exact hh
  have HOW0 := Lib.hid hown0
  clear hown0
  go_wp2_with (at_builtin; refine wpList_app _ rfl (.tmp 14) (.tmp 18) 25 rfl (w.heap.size + 3) 3 i1 _ 8 Try.underlying25 hi1 hy0 hy1 hy2 rfl (w.heap.size + 3) 0 0 [] rfl HOW0.out (some ⟨g0, 0, none⟩) j (j + 1) ((L.take j).map (Value.int .i64)) rfl (by have := HN.out; simp <;> omega) (fun hh => by cases hh) HNW.out (ints_one _) (by unfold maxLen; omega) (by omega) (by simp) ?_)
  intro g1 c1 w1 hown1 hgrow1
  have hbl1 := grown_row HOW0.out hgrow1 (by simp)
  have hbx0 : ((((w.alloc (.cells #[.slice (some ⟨g0, 0, none⟩) n (j + 1), .int .i64 made] 27)).alloc (.cells #[.slice none 0 0, .int .i64 0] 27)).alloc (.cells #[.slice (some ⟨g0, 0, none⟩) n (j + 1), .int .i64 made] 27)).alloc (.cells #[] 3)).heap[w.heap.size]? = some (.cells #[.slice (some ⟨g0, 0, none⟩) n (j + 1), .int .i64 made] 27 (0, 0)) := bdOld (bdOld (bdOld (bdNew _ _)))
  have hbr0 : ((((w.alloc (.cells #[.slice (some ⟨g0, 0, none⟩) n (j + 1), .int .i64 made] 27)).alloc (.cells #[.slice none 0 0, .int .i64 0] 27)).alloc (.cells #[.slice (some ⟨g0, 0, none⟩) n (j + 1), .int .i64 made] 27)).alloc (.cells #[] 3)).heap[w.heap.size + 1]? = some (.cells #[.slice none 0 0, .int .i64 0] 27 (0, 0)) := bdOld (bdOld (by
    have hh := bdNew (w.alloc (.cells #[.slice (some ⟨g0, 0, none⟩) n (j + 1), .int .i64 made] 27)) (.cells #[.slice none 0 0, .int .i64 0] 27)
    rw [show (w.alloc (.cells #[.slice (some ⟨g0, 0, none⟩) n (j + 1), .int .i64 made] 27)).heap.size = w.heap.size + 1 by simp] at hh
    exact hh))
  have HB0 := Lib.hid ((Below.refl w.heap.size w).alloc (Nat.le_refl _) (.cells #[.slice (some ⟨g0, 0, none⟩) n (j + 1), .int .i64 made] 27) |>.alloc (by simp) (.cells #[.slice none 0 0, .int .i64 0] 27) |>.alloc (by simp; omega) (.cells #[.slice (some ⟨g0, 0, none⟩) n (j + 1), .int .i64 made] 27) |>.alloc (by simp; omega) (.cells #[] 3))
  have hs1 := hbl1.size
  simp at hs1
  have hx1 := (hbl1.block w.heap.size (by omega)).trans hbx0
  have hr1 := (hbl1.block (w.heap.size + 1) (by omega)).trans hbr0
  have HB1 : Hid (Below w.heap.size w w1) := Lib.hid (HB0.out.trans (hbl1.mono (by omega)))
  have HR1 := Lib.hid hr1
  have HX1 := Lib.hid hx1
  have hown1' : w1.ownsRow (w.heap.size + 3) 3 1 (.slice (some ⟨g1, 0, none⟩) j c1) j ((L.take j).map (Value.int .i64)) := by simpa using hown1
  have HOW1 := Lib.hid hown1'
  have hg1B := (hown1'.lt g1 rfl).1
  have hnews3 : ∀ ad, (some ⟨g0, 0, none⟩ : Option Addr) = some ad → ∀ (i : Nat) (u : Value), ((L.drop (j + 1)).map (Value.int .i64))[i]? = some u → w1.cell? (ad.add i) = some u := fun ad had i u hu => by
    obtain rfl := Option.some.inj had
    rw [addr_add]
    rw [List.getElem?_map, List.getElem?_drop] at hu
    obtain ⟨y, hy, rfl⟩ := Option.map_eq_some_iff.1 hu
    rw [List.getElem?_eq_none (by have := HN.out; omega)] at hy
    cases hy
  have HNW3 := Lib.hid hnews3
  obtain ⟨⟨b0, b1⟩, _, _⟩ := bk2 hx1
  obtain ⟨⟨r0, r1⟩, q0, q1⟩ := bk2 hr1
  have R0 := Lib.hid r0
  have R1 := Lib.hid r1
  have Q0 := Lib.hid q0
  have Q1 := Lib.hid q1
  clear r0 r1 q0 q1 hbx0 hbr0 hx1 hr1 hgrow1 hown1 hbl1 HNW hown1' hnews3
  have w1s : IntKind.i64.wrap ((j : Int) + 1) = (j : Int) + 1 := IntWalk.i64_in _ (by omega)
  go_wp2_with fail
  go_region_held3 (fun w' => w'.cell? ⟨w.heap.size, 0, none⟩ = some (.slice (some ⟨g0, 0, none⟩) n (j + 1)) ∧ w'.cell? ⟨w.heap.size, 1, none⟩ = some (.int .i64 made))
    (first
      | go_keep
      | (go_split_ands
         refine ⟨?_, ?_⟩
         · ((refine (hgrow3.cell_far ⟨w.heap.size, _, none⟩ (by simp; omega) (by simp; omega)).trans ?_); assumption)
         · ((refine (hgrow3.cell_far ⟨w.heap.size, _, none⟩ (by simp; omega) (by simp; omega)).trans ?_); assumption)))
    ((refine step_app _ (by rfl) (.tmp 20) (.tmp 25) 25 (by rfl) (w.heap.size + 3) 3 i1 _ 8 Try.underlying25 hi1 hy0 hy1 hy2 rfl g1 j c1 ((L.take j).map (Value.int .i64)) (by rfl) (HOW1.out) (some ⟨g0, 0, none⟩) 0 0 ((L.drop (j + 1)).map (Value.int .i64)) (by rfl) (by have := HN.out; simp <;> omega) (fun hh => by cases hh) HNW3.out (ints_one _) (by unfold maxLen; omega) (by omega) (by simp; omega) ?_; intro g3 c3 w3 hown3 hgrow3; have z0 := (hgrow3.cell_far ⟨w.heap.size + 1, 0, none⟩ (by simp; omega) (by simp; omega)).trans R0.out; have z1 := (hgrow3.cell_far ⟨w.heap.size + 1, 1, none⟩ (by simp; omega) (by simp; omega)).trans R1.out; have y0 := (hgrow3.frozen_far ⟨w.heap.size + 1, 0, none⟩ (by simp; omega) (by simp; omega)).trans Q0.out; have y1 := (hgrow3.frozen_far ⟨w.heap.size + 1, 1, none⟩ (by simp; omega) (by simp; omega)).trans Q1.out))
  have hbl3 : Below (w.heap.size + 3) w1.drew w3 := grown_row (W := w1.drew) HOW1.out hgrow3 (by show w.heap.size + 3 ≤ w1.heap.size; omega)
  have HB3 : Hid (Below w.heap.size w w3) := Lib.hid ((bdN HB1.out 1).trans (hbl3.mono (by omega)))
  have HOW3 := Lib.hid hown3
  clear hbl3 hown3 hgrow3
  go_wp2_with fail
  exact bodyPost_ret (v := .tuple #[.agg #[.slice (some ⟨g3, 0, none⟩) j c3, .int .i64 (made : Int)], .int .i64 0]) (by simp [results, Try.results26, go_sem, z0, z1]) rfl (rdel_end (NB := w.heap.size + 3) HN.out hj HOW3.out (by omega) (by rw [List.eraseIdx_eq_take_drop_succ, List.map_append]) (by omega) (by omega) HB3.out)
end Go.Proofs.Ytbmaijkpcpbgjaa
