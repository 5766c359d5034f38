/- The reference of layer 28: InsertAfter, way FS. By genord3.py. -/
import Derived.Test.YtbmaijkpcpbgjaaOrdT
namespace Go.Proofs.Ytbmaijkpcpbgjaa
open Go.RowKit
set_option maxRecDepth 100000
set_option maxHeartbeats 4000000 in
theorem refIns_FS (B : Nat) (cap n made : Nat) (L : List Int) (w : World) (hn : L.length = n) (hm : made < 2000) (hl : n ≤ 2000) (g0 : Nat) (h : ORow B w (some ⟨g0, 0, none⟩) cap L) (hc : cap ≠ 0) :
    Calls Try.prog 27 #[.agg #[.slice (some ⟨g0, 0, none⟩) n cap, .int .i64 made], .int .i64 (-1)] w (RIns made (insE L 0 (made : Int)) w) := by
  have hcm := h.len
  have hcm2 := hcm.2
  unfold maxLen at hcm2
  rw [hn] at hcm2
  have HN := Lib.hid hn
  have hg0l := (World.ownsRow.lt h g0 rfl).2
  have hcell : ∀ (i : Nat) (y : Int), L[i]? = some y → w.cell? ⟨g0, i, none⟩ = some (.int .i64 y) := fun i y hy => by
    obtain ⟨g1, hA1, _, _, hcc⟩ := h.get hy
    have : g0 = g1 := by injection hA1 with hA1; injection hA1
    rw [this]; exact hcc
  have HC := Lib.hid hcell
  clear hcell
  have hc2 : (cap == 0) = false := by simpa using hc
  have hc3 : ¬ cap = 0 := hc
  have hm2 : ¬ (2000 : Int) ≤ (made : Int) := by omega
  have hm3 : decide ((2000 : Int) ≤ (made : Int)) = false := decide_eq_false hm2
  obtain ⟨i1, hi1, hy0, hy1, hy2⟩ := info_parts Try.infoInt
  clear hn h hcm
  have hnews1 : ∀ ad, (some ⟨g0, 0, none⟩ : Option Addr) = some ad → ∀ (i : Nat) (u : Value), ((L.take 0).map (Value.int .i64))[i]? = some u → (((w.alloc (.cells #[.slice (some ⟨g0, 0, none⟩) n cap, .int .i64 made] 27)).alloc (.cells #[.slice none 0 0, .int .i64 0] 27)).alloc (.cells #[] 3)).cell? (ad.add i) = some u := fun ad had i u hu => by
    obtain rfl := Option.some.inj had
    rw [addr_add, Nat.zero_add]
    rw [List.getElem?_map, List.getElem?_take] at hu
    obtain ⟨y, hy, rfl⟩ := Option.map_eq_some_iff.1 hu
    split at hy
    · exact (((Below.refl w.heap.size w).alloc (Nat.le_refl _) _ |>.alloc (by simp) _ |>.alloc (by simp; omega) _).cell (p := ⟨g0, i, none⟩) hg0l).trans (HC.out i y hy)
    · cases hy
  have HNW := Lib.hid hnews1
  clear hnews1
  have hown0 : (((w.alloc (.cells #[.slice (some ⟨g0, 0, none⟩) n cap, .int .i64 made] 27)).alloc (.cells #[.slice none 0 0, .int .i64 0] 27)).alloc (.cells #[] 3)).ownsRow (w.heap.size + 2) 3 1 (.slice (some ⟨w.heap.size + 2, 0, none⟩) 0 0) 0 [] := by
    have hh := World.ownsRow_lit (base := (w.heap.size + 2)) (e := 3) (size := 1) ((w.alloc (.cells #[.slice (some ⟨g0, 0, none⟩) n cap, .int .i64 made] 27)).alloc (.cells #[.slice none 0 0, .int .i64 0] 27)) #[] 0 (by simp) (by unfold maxLen; omega) rfl
    rw [show ((w.alloc (.cells #[.slice (some ⟨g0, 0, none⟩) n cap, .int .i64 made] 27)).alloc (.cells #[.slice none 0 0, .int .i64 0] 27)).heap.size = w.heap.size + 2 by simp] at hh
    exact hh
  have HOW0 := Lib.hid hown0
  clear hown0
  go_enter Try.func27, Try.ntmps27
  go_wp2_with (at_builtin; refine wpList_app _ rfl (.tmp 22) (.tmp 26) 25 rfl (w.heap.size + 2) 3 i1 _ 8 Try.underlying25 hi1 hy0 hy1 hy2 rfl (w.heap.size + 2) 0 0 [] rfl HOW0.out (some ⟨g0, 0, none⟩) 0 cap ((L.take 0).map (Value.int .i64)) rfl (by have := HN.out; simp <;> omega) (fun hh => by cases hh) HNW.out (ints_one _) (by unfold maxLen; omega) (by omega) (by simp) ?_)
  intro g1 c1 w1 hown1 hgrow1
  have hbl1 : Below (w.heap.size + 2) (((w.alloc (.cells #[.slice (some ⟨g0, 0, none⟩) n cap, .int .i64 made] 27)).alloc (.cells #[.slice none 0 0, .int .i64 0] 27)).alloc (.cells #[] 3)) w1 := grown_row HOW0.out hgrow1 (by simp)
  have hbx0 : (((w.alloc (.cells #[.slice (some ⟨g0, 0, none⟩) n cap, .int .i64 made] 27)).alloc (.cells #[.slice none 0 0, .int .i64 0] 27)).alloc (.cells #[] 3)).heap[w.heap.size]? = some (.cells #[.slice (some ⟨g0, 0, none⟩) n cap, .int .i64 made] 27 (0, 0)) := bdOld (bdOld (bdNew _ _))
  have hbr0 : (((w.alloc (.cells #[.slice (some ⟨g0, 0, none⟩) n cap, .int .i64 made] 27)).alloc (.cells #[.slice none 0 0, .int .i64 0] 27)).alloc (.cells #[] 3)).heap[w.heap.size + 1]? = some (.cells #[.slice none 0 0, .int .i64 0] 27 (0, 0)) := bdOld (by have hh := bdNew (w.alloc (.cells #[.slice (some ⟨g0, 0, none⟩) n cap, .int .i64 made] 27)) (.cells #[.slice none 0 0, .int .i64 0] 27); rw [show (w.alloc (.cells #[.slice (some ⟨g0, 0, none⟩) n cap, .int .i64 made] 27)).heap.size = w.heap.size + 1 by simp] at hh; exact hh)
  have HB0 : Hid (Below w.heap.size w (((w.alloc (.cells #[.slice (some ⟨g0, 0, none⟩) n cap, .int .i64 made] 27)).alloc (.cells #[.slice none 0 0, .int .i64 0] 27)).alloc (.cells #[] 3))) := Lib.hid ((Below.refl w.heap.size w).alloc (Nat.le_refl _) _ |>.alloc (by simp) _ |>.alloc (by simp; omega) _)
  have hs1 : (((w.alloc (.cells #[.slice (some ⟨g0, 0, none⟩) n cap, .int .i64 made] 27)).alloc (.cells #[.slice none 0 0, .int .i64 0] 27)).alloc (.cells #[] 3)).heap.size ≤ w1.heap.size := hbl1.size
  simp at hs1
  have hx1 := (hbl1.block w.heap.size (by omega)).trans hbx0
  have hr1 := (hbl1.block (w.heap.size + 1) (by omega)).trans hbr0
  have HB1 : Hid (Below w.heap.size w w1) := Lib.hid (HB0.out.trans (hbl1.mono (by omega)))
  have HX1 := Lib.hid hx1
  have HR1 := Lib.hid hr1
  have hown1' : w1.ownsRow (w.heap.size + 2) 3 1 (.slice (some ⟨g1, 0, none⟩) 0 c1) 0 ((L.take 0).map (Value.int .i64)) := by simpa using hown1
  have HOW1 := Lib.hid hown1'
  clear hown1'
  obtain ⟨⟨b0, b1⟩, _, _⟩ := bk2 hx1
  clear hbx0 hbr0 hx1 hr1 hgrow1 hown1 hbl1 HNW
  have HOW1a : Hid ((w1.alloc (.cells #[.int .i64 (made : Int)] 3)).ownsRow (w.heap.size + 2) 3 1 (.slice (some ⟨g1, 0, none⟩) 0 c1) 0 ((L.take 0).map (Value.int .i64))) := Lib.hid (HOW1.out.alloc _)
  go_wp2_with (at_builtin; refine wpList_app _ rfl (.tmp 28) (.tmp 31) 25 rfl (w.heap.size + 2) 3 i1 _ 8 Try.underlying25 hi1 hy0 hy1 hy2 rfl g1 0 c1 ((L.take 0).map (Value.int .i64)) rfl HOW1a.out (some ⟨w1.heap.size, 0, none⟩) 1 1 [.int .i64 (made : Int)] rfl rfl (fun hh => by cases hh) (fun ad had => by obtain rfl := Option.some.inj had; exact World.news_of_block (cs := #[.int .i64 (made : Int)]) (t := 3) (fr := (0, 0)) (heap_alloc_new w1 _)) (by simp [Value.oneCell']) (by unfold maxLen; omega) (by omega) (by simp; omega) ?_)
  intro g2 c2 w2 hown2 hgrow2
  have hbl2 : Below (w.heap.size + 2) w1 w2 := ((Below.refl _ _).alloc (by omega) _).trans (grown_row HOW1a.out hgrow2 (by simp; omega))
  have hs2 : w1.heap.size ≤ w2.heap.size := hbl2.size
  have hx2 := (hbl2.block w.heap.size (by omega)).trans HX1.out
  have hr2 := (hbl2.block (w.heap.size + 1) (by omega)).trans HR1.out
  have HB2 : Hid (Below w.heap.size w w2) := Lib.hid (HB1.out.trans (hbl2.mono (by omega)))
  have HX2 := Lib.hid hx2
  have HR2 := Lib.hid hr2
  have hown2' : w2.ownsRow (w.heap.size + 2) 3 1 (.slice (some ⟨g2, 0, none⟩) 1 c2) 1 (((L.take 0).map (Value.int .i64)) ++ [.int .i64 (made : Int)]) := by simpa using hown2
  have HOW2 := Lib.hid hown2'
  clear hown2'
  clear b0 b1
  obtain ⟨⟨b0, b1⟩, _, _⟩ := bk2 hx2
  clear hx2 hr2 hgrow2 hown2 hbl2
  have hnews3 : ∀ ad, ((some ⟨g0, 0, none⟩) : Option Addr) = some ad → ∀ (i : Nat) (u : Value), (((L.drop 0).map (Value.int .i64)))[i]? = some u → w2.cell? (ad.add i) = some u := fun ad had i u hu => by
    obtain rfl := Option.some.inj had
    rw [addr_add]
    rw [List.getElem?_map, List.getElem?_drop] at hu
    obtain ⟨y, hy, rfl⟩ := Option.map_eq_some_iff.1 hu
    exact (HB2.out.cell (p := ⟨g0, 0 + i, none⟩) hg0l).trans (HC.out _ y hy)
  have HNW3 := Lib.hid hnews3
  clear hnews3
  go_wp2_with (at_builtin; refine wpList_app _ rfl (.tmp 33) (.tmp 37) 25 rfl (w.heap.size + 2) 3 i1 _ 8 Try.underlying25 hi1 hy0 hy1 hy2 rfl g2 1 c2 (((L.take 0).map (Value.int .i64)) ++ [.int .i64 (made : Int)]) rfl HOW2.out (some ⟨g0, 0, none⟩) n cap ((L.drop 0).map (Value.int .i64)) rfl (by have := HN.out; simp <;> omega) (fun hh => by cases hh) HNW3.out (ints_one _) (by unfold maxLen; omega) (by omega) (by omega) ?_)
  intro g3 c3 w3 hown3 hgrow3
  have hbl3 : Below (w.heap.size + 2) w2 w3 := grown_row HOW2.out hgrow3 (by omega)
  have hs3 : w2.heap.size ≤ w3.heap.size := hbl3.size
  have hx3 := (hbl3.block w.heap.size (by omega)).trans HX2.out
  have hr3 := (hbl3.block (w.heap.size + 1) (by omega)).trans HR2.out
  have HB3 : Hid (Below w.heap.size w w3) := Lib.hid (HB2.out.trans (hbl3.mono (by omega)))
  have HOW3 := Lib.hid hown3
  clear b0 b1
  obtain ⟨⟨b0, b1⟩, _, _⟩ := bk2 hx3
  obtain ⟨⟨r0, r1⟩, q0, q1⟩ := bk2 hr3
  have HR3 := Lib.hid hr3
  clear hx3 hr3 hgrow3 hown3 hbl3
  have hne1 : w.heap.size ≠ w.heap.size + 1 := by omega
  have hne2 : w.heap.size + 1 ≠ w.heap.size := by omega
  go_wp2_with fail
  go_region
  go_wp2_with fail
  exact bodyPost_ret (v := .tuple #[.agg #[.slice (some ⟨g3, 0, none⟩) (1 + n) c3, .int .i64 ((made : Int) + 1)], .int .i64 made, .int .i64 0]) (by simp [results, Try.results27, go_sem, r0, r1]) rfl (rins_end (NB := (w.heap.size + 2)) HN.out (by omega) HOW3.out (by omega) (by simp [insE]) (by omega) (by omega) HB3.out)
end Go.Proofs.Ytbmaijkpcpbgjaa
