/- Walks: count. -/
import Derived.OwnWalk
import Derived.Laws.MakeOwn
import Derived.Test.YtakaadoppijeaaaDoorBvI
namespace Go.Proofs.YtakaadoppijeaaaDoor
open Go.RowKit
set_option maxRecDepth 100000
theorem Tryd.infoInt : (Tryd.prog.info? 3).map (fun i => (i.zero, i.size, i.bytes)) = some (some (.int .i64 0), 1, 8) := by kernel_rfl
theorem Tryd.infoU64 : (Tryd.prog.info? 56).map (fun i => (i.zero, i.size, i.bytes)) = some (some (.int .u64 0), 1, 8) := by kernel_rfl
theorem setAt {w : World} {b : Nat} {i : Nat} {v : Value} {cs : Array Value} {t : TypeId} (h : w.heap[b]? = some (.cells cs t (0, 0))) : (w.setCell ⟨b, i, none⟩ v).heap[b]? = some (.cells (cs.setIfInBounds i v) t (0, 0)) := by
  simp [World.setCell, Array.getElem?_modify, h]
theorem setOff {w : World} {b b' : Nat} {i : Nat} {v : Value} (h : b ≠ b') : (w.setCell ⟨b', i, none⟩ v).heap[b]? = w.heap[b]? := Below.heap_setCell _ _ _ _ (by simpa using h)
theorem setOffC {w : World} {b b' o : Nat} {i : Nat} {v : Value} (h : b ≠ b') : (w.setCell ⟨b', i, none⟩ v).cell? ⟨b, o, none⟩ = w.cell? ⟨b, o, none⟩ := by
  unfold World.cell?
  rw [setOff h]
/-- What count keeps. -/
structure CntS (x wb bb n₀ : Nat) (l : List Bool) (w : World) (k : Nat) (W : World) : Prop where
  box : W.heap[x]? = some (.cells #[.int .i64 l.length, .slice (some ⟨wb, 0, none⟩) (nwd l) (nwd l), .slice (some ⟨bb, 0, none⟩) (nwd l + 1) (nwd l + 1)] 55 (0, 0))
  words : ∀ j, j < nwd l → W.cell? ⟨wb, j, none⟩ = some (.int .u64 (wd l j))
  row : ∃ cs : Array Value, cs.size = nwd l + 1 ∧ W.heap[bb]? = some (.cells cs 3 (0, 0)) ∧ ∀ j, j ≤ k → cs[j]? = some (.int .i64 (bc l j))
  below : Below n₀ w W
  size : w.heap.size ≤ W.heap.size
theorem CntS.vec {x wb bb n₀ : Nat} {l : List Bool} {w W : World} (h : CntS x wb bb n₀ l w (nwd l) W) : BV x wb bb l W :=
  ⟨h.box, h.words, fun j hj => by
    obtain ⟨cs, _, h1, h2⟩ := h.row
    exact (cell_of_row _ _ _ _ _ _ h1).trans (h2 j hj)⟩
theorem CntS.next {x wb bb n₀ k : Nat} {l : List Bool} {w W : World} (h : CntS x wb bb n₀ l w k W) (hk : k < nwd l) (hxb : x ≠ bb) (hwb : wb ≠ bb) (hn : n₀ ≤ bb) (q : Nat) :
    CntS x wb bb n₀ l w (k + 1) ((W.drewN q).setCell ⟨bb, k + 1, none⟩ (.int .i64 (bc l (k + 1)))) := by
  obtain ⟨cs, h0, h1, h2⟩ := h.row
  refine ⟨(setOff hxb).trans h.box, fun j hj => (setOffC hwb).trans (h.words j hj), ⟨_, by simpa using h0, setAt h1, fun j hj => ?_⟩, (bdN h.below q).setCell (by simpa using hn) _, by simpa using h.size⟩
  rw [Array.getElem?_setIfInBounds]
  by_cases e : k + 1 = j
  · subst e; simp; omega
  · rw [if_neg e]; exact h2 j (by omega)
theorem CntS.drewN {x wb bb n₀ k : Nat} {l : List Bool} {w W : World} (h : CntS x wb bb n₀ l w k W) (q : Nat) : CntS x wb bb n₀ l w k (W.drewN q) := ⟨h.box, h.words, h.row, bdN h.below q, h.size⟩
theorem count_start {x wb n₀ : Nat} {l : List Bool} {w : World} (hbox : w.heap[x]? = some (.cells #[.int .i64 l.length, .slice (some ⟨wb, 0, none⟩) (nwd l) (nwd l), .slice none 0 0] 55 (0, 0)))
    (hw : ∀ j, j < nwd l → w.cell? ⟨wb, j, none⟩ = some (.int .u64 (wd l j))) (hwx : wb ≠ x) (hn : n₀ ≤ x) :
    CntS x wb w.heap.size n₀ l w 0 ((w.setCell ⟨x, 2, none⟩ (.slice (some ⟨w.heap.size, 0, none⟩) (nwd l + 1) (nwd l + 1))).alloc (.cells (madeCells #[.int .i64 0] (nwd l + 1)) 3)) := by
  have hx := bdLt hbox
  have h1 := setAt (i := 2) (v := .slice (some ⟨w.heap.size, 0, none⟩) (nwd l + 1) (nwd l + 1)) hbox
  have h2 := bdNew (w.setCell ⟨x, 2, none⟩ (.slice (some ⟨w.heap.size, 0, none⟩) (nwd l + 1) (nwd l + 1))) (.cells (madeCells #[.int .i64 0] (nwd l + 1)) 3)
  have hs : (w.setCell ⟨x, 2, none⟩ (.slice (some ⟨w.heap.size, 0, none⟩) (nwd l + 1) (nwd l + 1))).heap.size = w.heap.size := by simp
  rw [hs] at h2
  refine ⟨bdOld h1, fun j hj => ?_, ⟨_, size_madeCells _ _, h2, fun j hj => ?_⟩, ((Below.refl _ _).setCell (by simpa using hn) _).alloc (by simp; omega) _, by simp⟩
  · have := World.block_lt_of_cell? _ _ (hw j hj)
    have e := ((Below.refl w.heap.size (w.setCell ⟨x, 2, none⟩ (.slice (some ⟨w.heap.size, 0, none⟩) (nwd l + 1) (nwd l + 1)))).alloc (by simp) (.cells (madeCells #[.int .i64 0] (nwd l + 1)) 3)).cell (p := ⟨wb, j, none⟩) this
    rw [e, setOffC hwx]
    exact hw j hj
  · have : j = 0 := by omega
    subst this
    rw [bc_zero, ← Array.getElem?_toList, toList_madeCells_one]
    simp
set_option maxHeartbeats 4000000 in
theorem count_any (x wb n₀ : Nat) (l : List Bool) (w : World) (hl : l.length ≤ 2000000) (hbox : w.heap[x]? = some (.cells #[.int .i64 l.length, .slice (some ⟨wb, 0, none⟩) (nwd l) (nwd l), .slice none 0 0] 55 (0, 0)))
    (hw : ∀ j, j < nwd l → w.cell? ⟨wb, j, none⟩ = some (.int .u64 (wd l j))) (hwl : wb < w.heap.size) (hwx : wb ≠ x) (hn : n₀ ≤ x) :
    Calls Tryd.prog 33 #[.pointer (some ⟨x, 0, none⟩)] w fun e w' => e = .returned (.tuple #[]) ∧ (∃ bb, BV x wb bb l w') ∧ Below n₀ w w' := by
  have hx := bdLt hbox
  have HS := Lib.hid (count_start hbox hw hwx hn)
  obtain ⟨⟨c0, c1, c2⟩, d0, d1, d2⟩ := bk3 hbox
  obtain ⟨n, hn'⟩ : ∃ n, n = nwd l := ⟨_, rfl⟩
  rw [← hn'] at c1 HS
  have hn40 : n ≤ 40000 := by rw [hn']; unfold nwd; omega
  have HN := Lib.hid hn'
  obtain ⟨i1, hi1, hy0, hy1, hy2⟩ := info_parts Tryd.infoInt
  have hmk : ∀ W : World, (Instr.makeSlice 33 (.int .i64 ((n : Int) + 1)) (.int .i64 ((n : Int) + 1))).run Tryd.prog W = .ok (.slice (some ⟨W.heap.size, 0, none⟩) (n + 1) (n + 1)) (W.alloc (.cells (madeCells #[.int .i64 0] (n + 1)) 3)) := fun W => by
    have h := run_make (P := Tryd.prog) W 33 3 i1 _ Tryd.underlying33 hi1 hy0 .i64 .i64 ((n : Int) + 1) ((n : Int) + 1) (by omega) (Int.le_refl _) (by rw [hy2]; omega) (by omega)
    rw [hy1, Nat.mul_one, show ((n : Int) + 1).toNat = n + 1 by omega] at h
    exact h
  clear hbox hw hn' hi1 hy0 hy1 hy2
  go_enter Tryd.func33, Tryd.ntmps33
  go_wp2_with fail
  clear hmk c0 c1 c2 d0 d1 d2
  go_loopw [19] (fun c wr => ∃ k : Nat, k ≤ n ∧ c = .int .i64 k ∧ CntS x wb w.heap.size n₀ l w k wr) (fun c _ => n - (intOf c).toNat)
  case atStart => exact ⟨0, by omega, rfl, HS.out⟩
  case round =>
    clear HS
    obtain ⟨k, hk, rfl, hinv⟩ := hrel
    have HV := Lib.hid hinv
    clear hinv
    by_cases hlt : k < n
    · have hltI : (k : Int) < (n : Int) := by omega
      obtain ⟨⟨c0, c1, c2⟩, d0, d1, d2⟩ := bk3 HV.out.box
      rw [← HN.out] at c1 c2
      obtain ⟨cs, r0, r1, r2⟩ := HV.out.row
      have y0 := (cell_of_row _ _ _ _ _ _ r1).trans (r2 k (Nat.le_refl _))
      have hks : k + 1 < cs.size := by rw [r0, ← HN.out]; omega
      have y1 := (cell_of_row wr _ (k + 1) _ _ _ r1).trans (Array.getElem?_eq_getElem hks)
      have y2 : wr.frozen? ⟨w.heap.size, k + 1, none⟩ = false := by simp [World.frozen?, r1]
      have x0 := HV.out.words k (by rw [← HN.out]; exact hlt)
      have HX := Lib.hid (bc_succ l k)
      have hbk := bc_len l k
      have hbk1 := bc_len l (k + 1)
      have HNX := Lib.hid (fun q => HV.out.next (by rw [← HN.out]; exact hlt) (by omega) (by omega) (by omega) q)
      obtain ⟨u, hu⟩ : ∃ u, u = bc l k := ⟨_, rfl⟩
      obtain ⟨u1, hu1⟩ : ∃ u1, u1 = bc l (k + 1) := ⟨_, rfl⟩
      obtain ⟨v, hv⟩ : ∃ v, v = wd l k := ⟨_, rfl⟩
      obtain ⟨p, hp⟩ : ∃ p, p = popc v := ⟨_, rfl⟩
      rw [← hu1] at HX HNX hbk1
      rw [← hu] at HX y0 hbk
      rw [← hv] at HX x0
      rw [← hp] at HX
      have hvb : v < 18446744073709551616 := by rw [hv]; exact wd_lt _ _
      have HON := Lib.hid (fun W => ones_q v p W hvb hp.symm)
      have hsum : (u : Int) + (p : Int) = (u1 : Int) := by have := HX.out; omega
      have HSUM := Lib.hid hsum
      have hkw : IntKind.i64.wrap ((k : Int) + 1) = (k : Int) + 1 := IntWalk.i64_in _ (by omega)
      have hI1 : (k : Int) < (n : Int) + 1 := by omega
      have hkt : ((k : Int) + 1).toNat = k + 1 := by omega
      have hsw : IntKind.i64.wrap ((u : Int) + (p : Int)) = (u1 : Int) := by rw [HSUM.out]; exact IntWalk.i64_in _ (by omega)
      clear hu hu1 hv hp r0 r1 r2 hvb hsum
      go_wp2_with fail
      go_still_tail 16, (by kernel_rfl)
      still_call (HON.out _)
      repeat still_step
      refine wpStill_nil ?_
      change wpList _ _ _ _ _ wr.drew
      go_wp2_with fail
      go_roundw
      case rel => exact ⟨k + 1, by omega, by go_num, HNX.out 1⟩
      case measure => simp [intOf]; omega
    · have hkn : k = n := by omega
      subst hkn
      have HF : Hid (BV x wb w.heap.size l wr) := Lib.hid (by have := HV.out; rw [HN.out] at this; exact this.vec)
      go_wp2_with fail
      go_end0
      exact ⟨rfl, ⟨_, HF.out⟩, HV.out.below⟩
end Go.Proofs.YtakaadoppijeaaaDoor
