/- Walks: Bits, Runs. -/
import Derived.Laws.OwnMore
import Derived.Test.YtakaadoppijeaaaDoorInts
import Derived.Test.YtakaadoppijeaaaDoorBvR
import Derived.Test.YtakaadoppijeaaaDoorBvK
namespace Go.Proofs.YtakaadoppijeaaaDoor
open Go.RowKit
set_option maxRecDepth 100000
theorem Tryd.infoBool : (Tryd.prog.info? 4).map (fun i => (i.zero, i.size, i.bytes)) = some (some (.bool false), 1, 1) := by kernel_rfl
/-- What Bits keeps. -/
structure BitsS (l : List Bool) (w : World) (k : Nat) (W : World) : Prop where
  row : ∃ cs : Array Value, cs.size = l.length ∧ W.heap[w.heap.size]? = some (.cells cs 4 (0, 0)) ∧ ∀ j, j < k → cs[j]? = some (.bool (l.getD j false))
  below : Below w.heap.size w W
theorem BitsS.next {l : List Bool} {w W : World} {k : Nat} (h : BitsS l w k W) (hk : k < l.length) : BitsS l w (k + 1) (W.setCell ⟨w.heap.size, k, none⟩ (.bool (l.getD k false))) := by
  obtain ⟨cs, h0, h1, h2⟩ := h.row
  refine ⟨⟨_, by simpa using h0, setAt h1, fun j hj => ?_⟩, h.below.setCell (by simp) _⟩
  rw [Array.getElem?_setIfInBounds]
  by_cases e : k = j
  · subst e; simp; omega
  · rw [if_neg e]; exact h2 j (by omega)
theorem BitsS.at {l : List Bool} {w W : World} (h : BitsS l w l.length W) : BitsAt (· = w.heap.size) W (some ⟨w.heap.size, 0, none⟩) l := fun _ => by
  obtain ⟨cs, h0, h1, h2⟩ := h.row
  refine ⟨w.heap.size, 0, rfl, rfl, fun i x hx => ?_⟩
  have hi := (List.getElem?_eq_some_iff.1 hx).1
  have := h2 i hi
  rw [List.getD_eq_getElem?_getD, hx] at this
  rw [Nat.zero_add]
  exact (cell_of_row _ _ _ _ _ _ h1).trans this
set_option maxHeartbeats 2000000 in
theorem bv_bits (x wb bb : Nat) (l : List Bool) (w : World) (h : BV x wb bb l w) (hl : l.length ≤ 2000000) :
    Calls Tryd.prog 15 #[.pointer (some ⟨x, 0, none⟩)] w fun e w' => e = .returned (.slice (some ⟨w.heap.size, 0, none⟩) l.length l.length) ∧ BitsAt (· = w.heap.size) w' (some ⟨w.heap.size, 0, none⟩) l ∧ Below w.heap.size w w' := by
  obtain ⟨⟨c0, c1, c2⟩, _, _, _⟩ := bk3 h.box
  have HV := Lib.hid h
  obtain ⟨n, hn⟩ : ∃ n, n = l.length := ⟨_, rfl⟩
  have hS : BitsS l w 0 (w.alloc (.cells (madeCells #[.bool false] l.length) 4)) := ⟨⟨_, size_madeCells _ _, bdNew _ _, fun j hj => absurd hj (by omega)⟩, (Below.refl _ _).alloc (Nat.le_refl _) _⟩
  rw [← hn] at c0 hl hS ⊢
  have HS := Lib.hid hS
  have HN := Lib.hid hn
  obtain ⟨i1, hi1, hy0, hy1, hy2⟩ := info_parts Tryd.infoBool
  have hmk : ∀ W : World, (Instr.makeSlice 22 (.int .i64 (n : Int)) (.int .i64 (n : Int))).run Tryd.prog W = .ok (.slice (some ⟨W.heap.size, 0, none⟩) n n) (W.alloc (.cells (madeCells #[.bool false] n) 4)) := fun W => by
    have h := run_make (P := Tryd.prog) W 22 4 i1 _ Tryd.underlying22 hi1 hy0 .i64 .i64 (n : Int) (n : Int) (by omega) (Int.le_refl _) (by rw [hy2]; omega) (by omega)
    rw [hy1, Nat.mul_one] at h
    exact h
  clear h hn hS hi1 hy0 hy1 hy2
  go_enter Tryd.func15, Tryd.ntmps15
  go_wp2_with fail
  clear hmk c0 c1 c2
  go_loopw [14] (fun c wr => ∃ k : Nat, k ≤ n ∧ c = .int .i64 k ∧ BitsS l w k wr) (fun c _ => n - (intOf c).toNat)
  case atStart => exact ⟨0, by omega, rfl, HS.out⟩
  case round =>
    clear HS
    obtain ⟨k, hk, rfl, hinv⟩ := hrel
    have HI := Lib.hid hinv
    by_cases hlt : k < n
    · have hltI : (k : Int) < (n : Int) := by omega
      obtain ⟨cs, r0, r1, r2⟩ := HI.out.row
      have y2 : wr.frozen? ⟨w.heap.size, k, none⟩ = false := by simp [World.frozen?, r1]
      have hks : k < cs.size := by rw [r0, ← HN.out]; omega
      have y1 := (cell_of_row wr _ k _ _ _ r1).trans (Array.getElem?_eq_getElem hks)
      have HNX := Lib.hid (HI.out.next (by rw [← HN.out]; exact hlt))
      have HBT := Lib.hid (bit_any x wb bb k l wr (HV.out.below HI.out.below) (by rw [← HN.out]; exact hl) (by rw [← HN.out]; exact hlt))
      generalize l.getD k false = v at HNX HBT
      clear hinv r0 r1 r2
      go_wp2_with fail
      refine HBT.out.mono ?_
      rintro e w1 ⟨rfl, rfl⟩
      go_wp2_with fail
      go_roundw
      case rel => exact ⟨k + 1, by omega, by go_num, HNX.out⟩
      case measure => simp [intOf]; omega
    · have hkn : k = n := by omega
      subst hkn
      clear hinv
      go_wp2_with fail
      go_ret
      exact ⟨rfl, BitsS.at (by have := HI.out; rwa [HN.out] at this), HI.out.below⟩
end Go.Proofs.YtakaadoppijeaaaDoor
