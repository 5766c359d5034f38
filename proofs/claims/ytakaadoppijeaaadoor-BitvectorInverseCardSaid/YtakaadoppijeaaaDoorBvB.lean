/- A vector in memory; walks: bit. -/
import Derived.Test.YtakaadoppijeaaaDoorBvN
namespace Go.Proofs.YtakaadoppijeaaaDoor
open Go.RowKit
set_option maxRecDepth 100000
/-- The number of words. -/
def nwd (l : List Bool) : Nat := (l.length + 63) / 64
/-- A word. -/
def wd (l : List Bool) (j : Nat) : Nat := wdN (fun i => l.getD (64 * j + i) false) 64
/-- The ones ahead of a word. -/
def bc (l : List Bool) (j : Nat) : Nat := (l.take (64 * j)).countP id
/-- A vector in memory. -/
structure BV (x wb bb : Nat) (l : List Bool) (W : World) : Prop where
  box : W.heap[x]? = some (.cells #[.int .i64 l.length, .slice (some ⟨wb, 0, none⟩) (nwd l) (nwd l), .slice (some ⟨bb, 0, none⟩) (nwd l + 1) (nwd l + 1)] 55 (0, 0))
  words : ∀ j, j < nwd l → W.cell? ⟨wb, j, none⟩ = some (.int .u64 (wd l j))
  before : ∀ j, j ≤ nwd l → W.cell? ⟨bb, j, none⟩ = some (.int .i64 (bc l j))
theorem wd_lt (l : List Bool) (j : Nat) : wd l j < 18446744073709551616 := wdN_lt _ 64
theorem wd_bit (l : List Bool) {i : Nat} : (wd l (i / 64)).testBit (i % 64) = l.getD i false := by
  unfold wd
  rw [wdN_bit, decide_eq_true (by omega), Bool.true_and, show 64 * (i / 64) + i % 64 = i by omega]
theorem bit_val (v r : Nat) (hv : v < 18446744073709551616) : (bits .and .u64 ((v : Int) / 2 ^ r) 1 == 1) = v.testBit r := by
  have e : ((v : Int) / 2 ^ r) = ((v / 2 ^ r : Nat) : Int) := by simp
  have hle : v / 2 ^ r ≤ v := Nat.div_le_self _ _
  have h := bits_and_u64_nat (v / 2 ^ r) 1 (by omega) (by decide)
  rw [Nat.and_one_is_mod] at h
  rw [e, show (1 : Int) = ((1 : Nat) : Int) from rfl, h, Nat.testBit_eq_decide_div_mod_eq]
  generalize v / 2 ^ r % 2 = y
  by_cases hy : y = 1
  · subst hy; rfl
  · rw [decide_eq_false hy, beq_eq_false_iff_ne]
    omega
set_option maxHeartbeats 2000000 in
theorem bit_any (x wb bb i : Nat) (l : List Bool) (w : World) (h : BV x wb bb l w) (hl : l.length ≤ 2000000) (hi : i < l.length) :
    Calls Tryd.prog 35 #[.pointer (some ⟨x, 0, none⟩), .int .i64 i] w fun e w' => e = .returned (.bool (l.getD i false)) ∧ w = w' := by
  obtain ⟨⟨c0, c1, c2⟩, _, _, _⟩ := bk3 h.box
  have hj : i / 64 < nwd l := by unfold nwd; omega
  have x0 := h.words _ hj
  obtain ⟨j, hj'⟩ : ∃ j, j = i / 64 := ⟨_, rfl⟩
  obtain ⟨r, hr'⟩ : ∃ r, r = i % 64 := ⟨_, rfl⟩
  obtain ⟨v, hv⟩ : ∃ v, v = wd l (i / 64) := ⟨_, rfl⟩
  obtain ⟨n, hn⟩ : ∃ n, n = nwd l := ⟨_, rfl⟩
  rw [← hv, ← hj'] at x0
  rw [← hj', ← hn] at hj
  rw [← hn] at c1 c2
  have hI1 : (i : Int) / 64 = (j : Int) := by omega
  have hI2 : (i : Int) % 64 = (r : Int) := by omega
  have hjI : (j : Int) < (n : Int) := by omega
  have hn2 : n ≤ 40000 := by rw [hn]; unfold nwd; omega
  have hr64 : r < 64 := by omega
  have hr64I : (r : Int) < 64 := by omega
  have HV := Lib.hid hv
  have HJ := Lib.hid hj'
  have HR := Lib.hid hr'
  have HN := Lib.hid hn
  have hvb : v < 18446744073709551616 := by rw [hv]; exact wd_lt _ _
  clear hv hj' hr' hn h hj
  go_enter Tryd.func35, Tryd.ntmps35
  go_wp2_with fail
  go_ret
  refine ⟨?_, rfl⟩
  rw [bit_val v r hvb, HV.out, HR.out, wd_bit]
  rfl
end Go.Proofs.YtakaadoppijeaaaDoor
