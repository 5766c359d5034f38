/- Walks: Make. -/
import Derived.Test.YtakaadoppijeaaaDoorBvJ
namespace Go.Proofs.YtakaadoppijeaaaDoor
open Go.RowKit
set_option maxRecDepth 100000
/-- What Make keeps. -/
structure MkV (x wb : Nat) (l : List Bool) (w : World) (k : Nat) (W : World) : Prop where
  box : W.heap[x]? = some (.cells #[.int .i64 l.length, .slice (some ⟨wb, 0, none⟩) (nwd l) (nwd l), .slice none 0 0] 55 (0, 0))
  row : ∃ cs : Array Value, cs.size = nwd l ∧ W.heap[wb]? = some (.cells cs 56 (0, 0)) ∧ ∀ j, j < nwd l → cs[j]? = some (.int .u64 (wdK l k j))
  below : Below w.heap.size w W
  size : w.heap.size ≤ W.heap.size
theorem MkV.drewN {x wb k : Nat} {l : List Bool} {w W : World} (h : MkV x wb l w k W) (q : Nat) : MkV x wb l w k (W.drewN q) := ⟨h.box, h.row, bdN h.below q, h.size⟩
theorem MkV.on {x wb k : Nat} {l : List Bool} {w W : World} (h : MkV x wb l w k W) (_hk : l[k]? = some true) (hxb : x ≠ wb) (hn : w.heap.size ≤ wb) (q : Nat) :
    MkV x wb l w (k + 1) ((W.drewN q).setCell ⟨wb, k / 64, none⟩ (.int .u64 (wdK l (k + 1) (k / 64)))) := by
  obtain ⟨cs, h0, h1, h2⟩ := h.row
  refine ⟨(setOff hxb).trans h.box, ⟨_, by simpa using h0, setAt h1, fun j hj => ?_⟩, (bdN h.below q).setCell (by simpa using hn) _, by simpa using h.size⟩
  rw [Array.getElem?_setIfInBounds]
  by_cases e : k / 64 = j
  · subst e; simp; omega
  · rw [if_neg e, wdK_other _ _ _ (fun h => e h.symm)]; exact h2 j hj
theorem MkV.off {x wb k : Nat} {l : List Bool} {w W : World} (h : MkV x wb l w k W) (hk : l[k]? = some false) : MkV x wb l w (k + 1) W := by
  obtain ⟨cs, h0, h1, h2⟩ := h.row
  exact ⟨h.box, ⟨cs, h0, h1, fun j hj => by rw [wdK_off _ _ _ hk]; exact h2 j hj⟩, h.below, h.size⟩
theorem make_start (l : List Bool) (w : World) : MkV (w.heap.size + 1) w.heap.size l w 0 ((w.alloc (.cells (madeCells #[.int .u64 0] (nwd l)) 56)).alloc (.cells #[.int .i64 l.length, .slice (some ⟨w.heap.size, 0, none⟩) (nwd l) (nwd l), .slice none 0 0] 55)) := by
  have h2 := bdNew (w.alloc (.cells (madeCells #[.int .u64 0] (nwd l)) 56)) (.cells #[.int .i64 l.length, .slice (some ⟨w.heap.size, 0, none⟩) (nwd l) (nwd l), .slice none 0 0] 55)
  have hs : (w.alloc (.cells (madeCells #[.int .u64 0] (nwd l)) 56)).heap.size = w.heap.size + 1 := by simp
  rw [hs] at h2
  refine ⟨h2, ⟨_, size_madeCells _ _, bdOld (bdNew _ _), fun j hj => ?_⟩, ((Below.refl _ _).alloc (Nat.le_refl _) _).alloc (by simp) _, by simp; omega⟩
  rw [wdK_zero, ← Array.getElem?_toList, toList_madeCells_one]
  simp [hj]
theorem or_val (y r y2 : Nat) (hy : y < 18446744073709551616) (hr : r < 64) (h : y ||| 2 ^ r = y2) : bits .or .u64 (y : Int) (IntKind.u64.wrap (2 ^ r)) = (y2 : Int) := by
  have hp : 2 ^ r ≤ 2 ^ 63 := Nat.pow_le_pow_right (by decide) (by omega)
  have e : ((2 : Int) ^ r) = ((2 ^ r : Nat) : Int) := by simp
  rw [e, u64_in _ (by omega), bits_or_u64_nat _ _ hy (by omega), h]
/-- A vector was made. -/
def MadeV (l : List Bool) (w : World) (e : Ending) (w' : World) : Prop := ∃ x wb bb, e = .returned (.tuple #[.pointer (some ⟨x, 0, none⟩), .int .i64 0]) ∧ BV x wb bb l w' ∧ Below w.heap.size w w'
theorem make_full (A : Option Addr) (n cp : Nat) (w : World) (hn : 65536 < n) : Calls Tryd.prog 10 #[.slice A n cp] w fun e w' => e = .returned (.tuple #[.pointer none, .int .i64 4]) ∧ w = w' := by
  have hnI : decide (65536 < (n : Int)) = true := decide_eq_true (by omega)
  go_enter Tryd.func10, Tryd.ntmps10
  go_wp2_with fail
  go_ret2
  exact ⟨rfl, rfl⟩
set_option maxHeartbeats 4000000 in
theorem make_any (A : Option Addr) (cp : Nat) (l : List Bool) (P : Nat → Prop) (w : World) (hP : ∀ b, P b → b < w.heap.size) (hA : BitsAt P w A l) (hn : l.length ≤ 65536) :
    Calls Tryd.prog 10 #[.slice A l.length cp] w (MadeV l w) := by
  have HA := Lib.hid hA
  have HP := Lib.hid hP
  have HS := Lib.hid (make_start l w)
  obtain ⟨m, hm⟩ : ∃ m, m = l.length := ⟨_, rfl⟩
  obtain ⟨n, hn'⟩ : ∃ n, n = nwd l := ⟨_, rfl⟩
  have hq : ((m : Int) + 64 - 1) / 64 = (n : Int) := by rw [hn', hm]; unfold nwd; omega
  rw [← hn', ← hm] at HS
  rw [← hm] at hn ⊢
  have hn40 : n ≤ 40000 := by omega
  have HN := Lib.hid hn'
  have HM := Lib.hid hm
  have hnI : decide (65536 < (m : Int)) = false := decide_eq_false (by omega)
  obtain ⟨i1, hi1, hy0, hy1, hy2⟩ := info_parts Tryd.infoU64
  have hmk : ∀ W : World, (Instr.makeSlice 53 (.int .i64 (n : Int)) (.int .i64 (n : Int))).run Tryd.prog W = .ok (.slice (some ⟨W.heap.size, 0, none⟩) n n) (W.alloc (.cells (madeCells #[.int .u64 0] n) 56)) := fun W => by
    have h := run_make (P := Tryd.prog) W 53 56 i1 _ Tryd.underlying53 hi1 hy0 .i64 .i64 (n : Int) (n : Int) (by omega) (Int.le_refl _) (by rw [hy2]; omega) (by omega)
    rw [hy1, Nat.mul_one] at h
    exact h
  clear hA hP hn' hm hi1 hy0 hy1 hy2
  go_enter Tryd.func10, Tryd.ntmps10
  go_wp2_with fail
  clear hmk hq
  go_loopw [22] (fun c wr => ∃ k : Nat, k ≤ m ∧ c = .int .i64 k ∧ MkV (w.heap.size + 1) w.heap.size l w k wr) (fun c _ => m - (intOf c).toNat)
  case atStart => exact ⟨0, by omega, rfl, HS.out⟩
  case round =>
    clear HS
    obtain ⟨k, hk, rfl, hinv⟩ := hrel
    have HV := Lib.hid hinv
    clear hinv
    by_cases hlt : k < m
    · have hltI : (k : Int) < (m : Int) := by omega
      obtain ⟨v, hv⟩ : ∃ v, l[k]? = some v := ⟨l[k]'(by rw [← HM.out]; exact hlt), List.getElem?_eq_getElem _⟩
      obtain ⟨p, off, hAe, hp, hc⟩ := HA.out (by rw [← HM.out]; omega)
      subst hAe
      have x0 := (HV.out.below.cell (p := ⟨p, off + k, none⟩) (HP.out p hp)).trans (hc k v hv)
      clear hc hp
      cases v
      · have HNX := Lib.hid (HV.out.off hv)
        clear hv
        go_wp2_with fail
        go_roundw
        case rel => exact ⟨k + 1, by omega, by go_num, HNX.out⟩
        case measure => simp [intOf]; omega
      · have hon := wdK_on l k hv
        have HNX := Lib.hid (fun q => HV.out.on hv (by omega) (Nat.le_refl _) q)
        obtain ⟨⟨c0, c1, c2⟩, d0, d1, d2⟩ := bk3 HV.out.box
        rw [← HN.out] at c1
        rw [← HM.out] at c0
        obtain ⟨cs, r0, r1, r2⟩ := HV.out.row
        have hj : k / 64 < nwd l := by unfold nwd; rw [← HM.out]; omega
        have y0 := (cell_of_row _ _ _ _ _ _ r1).trans (r2 (k / 64) hj)
        have y2 : wr.frozen? ⟨w.heap.size, k / 64, none⟩ = false := by simp [World.frozen?, r1]
        rw [← HN.out] at hj
        obtain ⟨y, hy⟩ : ∃ y, y = wdK l k (k / 64) := ⟨_, rfl⟩
        obtain ⟨z, hz⟩ : ∃ z, z = wdK l (k + 1) (k / 64) := ⟨_, rfl⟩
        have hyb : y < 18446744073709551616 := by rw [hy]; exact wdK_lt _ _ _
        rw [← hy] at y0 hon
        rw [← hz] at hon HNX
        obtain ⟨j, hje⟩ : ∃ j, j = k / 64 := ⟨_, rfl⟩
        obtain ⟨r, hre⟩ : ∃ r, r = k % 64 := ⟨_, rfl⟩
        rw [← hje] at y0 y2 hj HNX
        rw [← hre] at hon
        have hI1 : (k : Int) / 64 = (j : Int) := by omega
        have hI2 : (k : Int) % 64 = (r : Int) := by omega
        have hI3 : (k : Int).tmod 64 = (r : Int) := by rw [Int.tmod_eq_emod_of_nonneg (by omega)]; exact hI2
        have hr64 : r < 64 := by omega
        have hr64I : (r : Int) < 64 := by omega
        have hjI : (j : Int) < (n : Int) := by omega
        have hjw : IntKind.i64.wrap (j : Int) = (j : Int) := IntWalk.i64_in _ (by omega)
        have hrw : IntKind.i64.wrap (r : Int) = (r : Int) := IntWalk.i64_in _ (by omega)
        have hO := or_val y r z hyb hr64 hon
        clear hv hon hy hz hje hre r0 r1 r2 hyb
        go_wp2_with fail
        go_still_tail 12, (by kernel_rfl)
        change wpList _ _ _ _ _ wr.drew
        go_wp2_with fail
        go_roundw
        case rel =>
          exact ⟨k + 1, by omega, by go_num, HNX.out 1⟩
        case measure => simp [intOf]; omega
    · have hkm : k = m := by omega
      subst hkm
      have HF : Hid (MkV (w.heap.size + 1) w.heap.size l w l.length wr) := Lib.hid (by have := HV.out; rw [HM.out] at this; exact this)
      have HC := Lib.hid (count_any (w.heap.size + 1) w.heap.size w.heap.size l wr (by rw [← HM.out]; omega) HF.out.box (fun j hj => by
        obtain ⟨cs, r0, r1, r2⟩ := HF.out.row
        rw [← wdK_all]
        exact (cell_of_row _ _ _ _ _ _ r1).trans (r2 j hj)) (by obtain ⟨cs, r0, r1, r2⟩ := HF.out.row; exact bdLt r1) (by omega) (by omega))
      go_wp2_with fail
      refine HC.out.mono ?_
      rintro e w1 ⟨rfl, ⟨bb, hbv⟩, hb⟩
      have HB := Lib.hid hb
      have HBV := Lib.hid hbv
      clear hb hbv
      go_wp2_with fail
      go_ret2
      exact ⟨_, _, bb, rfl, HBV.out, HF.out.below.trans HB.out⟩
end Go.Proofs.YtakaadoppijeaaaDoor
