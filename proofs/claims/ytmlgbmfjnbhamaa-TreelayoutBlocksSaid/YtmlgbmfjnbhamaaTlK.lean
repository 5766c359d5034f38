/- What touched keeps: how many nodes touch each block; newTouched, add. -/
import Derived.Test.YtmlgbmfjnbhamaaTlJ
import Derived.Test.YtmlgbmfjnbhamaaMapC
namespace Go.Proofs.Ytmlgbmfjnbhamaa
open Go.RowKit
set_option maxRecDepth 100000
theorem zeroInt (W : World) : (zeroValue 3).run Try.prog W = .ok (.int .i64 0) W := Try.zeroValue3 W
/-- The entries of a table of counts: only what is not 0. -/
def gF (g : Int → Nat) : Int → Option Value := fun x => if g x = 0 then none else some (.int .i64 (g x : Int))
theorem gF_get (g : Int → Nat) (x : Int) : (gF g x).getD (.int .i64 0) = .int .i64 (g x : Int) := by
  unfold gF
  by_cases h : g x = 0
  · rw [if_pos h, h]; rfl
  · rw [if_neg h]; rfl
theorem gF_up (g : Int → Nat) (q : Int) : (fun x => if x = q then some (Value.int .i64 ((g q + 1 : Nat) : Int)) else gF g x) = gF (fun x => if x = q then g q + 1 else g x) := by
  funext x
  unfold gF
  by_cases h : x = q
  · subst h; simp
  · simp [h]
/-- The map of block mb counts, with c entries. -/
def TM (w : World) (mb n c : Nat) (g : Int → Nat) : Prop := CMap 3 w mb n c (gF g)
/-- What a call of add leaves. -/
structure AddP (w : World) (mb n c : Nat) (g : Int → Nat) (er : Ending) (w' : World) : Prop where
  er : er = .returned (.tuple #[])
  tm : TM w' mb n c g
  size : w.heap.size ≤ w'.heap.size
  keep : ∀ b, b < w.heap.size → b ≠ mb → w'.heap[b]? = w.heap[b]?
  bel : ∀ B w0, Below B w0 w → B ≤ mb → Below B w0 w'
set_option maxHeartbeats 4000000 in
theorem add_any (sz x q : Int) (mb n c : Nat) (g : Int → Nat) (w : World) (h : TM w mb n c g) (hn : n < 1000000) (hg : g q ≤ 1000000) (hs : 1 ≤ sz) (hx : 0 ≤ x ∧ x ≤ 1000000) (hq : x.tdiv sz = q) :
    Calls Try.prog 44 #[.agg #[.int .i64 sz, .map (some mb)], .int .i64 x] w (AddP w mb (n + 1) (if g q = 0 then c + 1 else c) (fun x => if x = q then g q + 1 else g x)) := by
  have hq0 : 0 ≤ q ∧ q ≤ 1000000 := by
    rw [← hq, Int.tdiv_eq_ediv_of_nonneg hx.1]
    exact ⟨Int.ediv_nonneg hx.1 (by omega), Int.le_trans (Int.ediv_le_self _ hx.1) hx.2⟩
  obtain ⟨w1, hw1⟩ : ∃ w1, w1 = w.alloc (.cells #[.int .i64 sz, .map (some mb)] 64) := ⟨_, rfl⟩
  have hb1 : Below w.heap.size w w1 := by rw [hw1]; exact (Below.refl _ _).alloc (Nat.le_refl _) _
  have hm1 : CMap 3 (w1.drew) mb n c (gF g) := (h.below hb1 h.lt).same rfl
  have hlk := hm1.imap.get Try.underlying3 Try.underlying62 (zeroInt (w1.drew)) (s := q) (wf_i64 (by omega) (by omega))
  rw [gF_get] at hlk
  obtain ⟨gq, hgq⟩ : ∃ gq, gq = g q := ⟨_, rfl⟩
  rw [← hgq] at hlk hg
  obtain ⟨gq1, hgq1⟩ : ∃ gq1 : Nat, gq1 = gq + 1 := ⟨_, rfl⟩
  have hgl : gq1 ≤ 1000001 := by omega
  have hgI : (gq : Int) + 1 = (gq1 : Int) := by omega
  obtain ⟨w2, hrun, hm2, hgr⟩ := hm1.update Try.underlying3 Try.underlying62 (by unfold maxLen; omega) (s := q) (wf_i64 (by omega) (by omega)) (.int .i64 (gq1 : Int))
  have hfin : AddP w mb (n + 1) (if g q = 0 then c + 1 else c) (fun x => if x = q then g q + 1 else g x) (.returned (.tuple #[])) w2 := by
    refine ⟨rfl, ?_, ?_, fun b hb hne => ?_, fun B w0 hb hB => ?_⟩
    · rw [hgq1, hgq, gF_up] at hm2
      have : (if (gF g q).isSome = true then c else c + 1) = (if g q = 0 then c + 1 else c) := by
        unfold gF
        by_cases h0 : g q = 0
        · rw [if_pos h0, if_pos h0]; rfl
        · rw [if_neg h0, if_neg h0]; rfl
      rw [this] at hm2
      exact hm2
    · have h1 := hgr.size
      have h2 : (w1.drew).heap.size = w.heap.size + 1 := by show w1.heap.size = _; rw [hw1]; simp
      omega
    · rw [hgr.block b (by show b < w1.heap.size; rw [hw1]; simp; omega) (by simpa using hne)]
      exact hb1.block b hb
    · have h3 : B ≤ w.heap.size := (by have := h.lt; omega)
      exact (show Below B w0 w1.drew from bdN (hb.trans (hb1.mono h3)) 1).grown hgr (by show B ≤ w1.heap.size; rw [hw1]; simp; omega) (fun k e => by injection e with e; omega)
  have HFIN := Lib.hid hfin
  have hz : sz ≠ 0 := by omega
  have hcell : w1.cell? ⟨w.heap.size, 0, none⟩ = some (.int .i64 sz) ∧ w1.cell? ⟨w.heap.size, 1, none⟩ = some (.map (some mb)) := by
    have := (bk2 (show w1.heap[w.heap.size]? = some (.cells #[.int .i64 sz, .map (some mb)] 64 (0, 0)) by rw [hw1]; exact bdNew w _)).1
    exact this
  subst hw1
  clear h hm1 hm2 hgr hfin hgq hgq1 hg hcell
  go_enter Try.func44, Try.ntmps44
  go_wp2_with fail
  go_region
  go_end0
  exact HFIN.out
end Go.Proofs.Ytmlgbmfjnbhamaa
