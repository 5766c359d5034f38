/- newTouched, remove. -/
import Derived.Test.YtmlgbmfjnbhamaaTlK
namespace Go.Proofs.Ytmlgbmfjnbhamaa
open Go.RowKit
set_option maxRecDepth 100000
set_option maxHeartbeats 1000000 in
theorem newT_any (sz : Int) (w : World) : Calls Try.prog 43 #[.int .i64 sz] w fun e w' => ∃ mb, e = .returned (.agg #[.int .i64 sz, .map (some mb)]) ∧ TM w' mb 0 0 (fun _ => 0) ∧ w.heap.size ≤ mb ∧ Below w.heap.size w w' := by
  have hmm := @run_makeMap Try.prog
  go_enter Try.func43, Try.ntmps43
  go_wp2_with fail
  have hb0 : ((w.alloc (.cells #[.int .i64 sz, .map (some (w.heap.size + 1))] 64)).alloc (.map #[] 0)).heap[w.heap.size]? = some (.cells #[.int .i64 sz, .map (some (w.heap.size + 1))] 64 (0, 0)) := bdOld (bdNew w _)
  obtain ⟨⟨z0, z1⟩, _⟩ := bk2 hb0
  refine bodyPost_ret (v := .agg #[.int .i64 sz, .map (some (w.heap.size + 1))]) (by simp [results, Try.results43, go_sem, z0, z1]) rfl ?_
  refine ⟨w.heap.size + 1, rfl, ?_, by omega, ((Below.refl _ _).alloc (Nat.le_refl _) _).alloc (by simp) _⟩
  have h := CMap.made 3 (w.alloc (.cells #[.int .i64 sz, .map (some (w.heap.size + 1))] 64))
  rw [show (w.alloc (.cells #[.int .i64 sz, .map (some (w.heap.size + 1))] 64)).heap.size = w.heap.size + 1 by simp] at h
  have e : (gF fun _ => 0) = fun _ => none := by funext x; simp [gF]
  unfold TM
  rw [e]
  exact h
theorem gF_down (g : Int → Nat) (q : Int) (h : g q ≠ 1) (h0 : g q ≠ 0) : (fun x => if x = q then some (Value.int .i64 ((g q - 1 : Nat) : Int)) else gF g x) = gF (fun x => if x = q then g q - 1 else g x) := by
  funext x
  unfold gF
  by_cases hx : x = q
  · subst hx
    simp only [if_true]
    rw [if_neg (by omega)]
  · simp [hx]
theorem gF_gone (g : Int → Nat) (q : Int) (u : Option Value) : (fun x => if x = q then none else if x = q then u else gF g x) = gF (fun x => if x = q then 0 else g x) := by
  funext x
  unfold gF
  by_cases hx : x = q
  · subst hx; simp
  · simp [hx]
set_option maxHeartbeats 4000000 in
theorem remove_any (sz x q : Int) (mb n c : Nat) (g : Int → Nat) (w : World) (h : TM w mb n c g) (hn : n < 1000000) (hg : g q ≤ 1000000) (hg0 : 1 ≤ g q) (hs : 1 ≤ sz) (hx : 0 ≤ x ∧ x ≤ 1000000) (hq : x.tdiv sz = q) :
    Calls Try.prog 47 #[.agg #[.int .i64 sz, .map (some mb)], .int .i64 x] w (AddP w mb (n + 1) (if g q = 1 then c - 1 else c) (fun x => if x = q then g q - 1 else g x)) := by
  have hq0 : 0 ≤ q ∧ q ≤ 1000000 := by
    rw [← hq, Int.tdiv_eq_ediv_of_nonneg hx.1]
    exact ⟨Int.ediv_nonneg hx.1 (by omega), Int.le_trans (Int.ediv_le_self _ hx.1) hx.2⟩
  obtain ⟨w1, hw1⟩ : ∃ w1, w1 = w.alloc (.cells #[.int .i64 sz, .map (some mb)] 64) := ⟨_, rfl⟩
  have hb1 : Below w.heap.size w w1 := by rw [hw1]; exact (Below.refl _ _).alloc (Nat.le_refl _) _
  have hz1 : w1.heap.size = w.heap.size + 1 := by rw [hw1]; simp
  have hml : mb < w.heap.size := CMap.lt h
  have hm1 : CMap 3 w1 mb n c (gF g) := CMap.below h hb1 hml
  have hlk := hm1.imap.get Try.underlying3 Try.underlying62 (zeroInt w1) (s := q) (wf_i64 (by omega) (by omega))
  rw [gF_get] at hlk
  obtain ⟨gq, hgq⟩ : ∃ gq, gq = g q := ⟨_, rfl⟩
  obtain ⟨gq1, hgq1⟩ : ∃ gq1 : Nat, gq1 = g q - 1 := ⟨_, rfl⟩
  rw [← hgq] at hlk
  have hgl : gq ≤ 1000000 := by omega
  have hgl1 : gq1 ≤ 1000000 := by omega
  have hgI : (gq : Int) - 1 = (gq1 : Int) := by omega
  obtain ⟨w2, hrun, hm2, hgr⟩ := hm1.update Try.underlying3 Try.underlying62 (by unfold maxLen; omega) (s := q) (wf_i64 (by omega) (by omega)) (.int .i64 (gq1 : Int))
  have hsome : (gF g q).isSome = true := by
    unfold gF
    rw [if_neg (by omega)]
    rfl
  have hc : (if (gF g q).isSome = true then c else c + 1) = c := if_pos hsome
  obtain ⟨c', hc'⟩ : ∃ c', c' = if g q = 1 then c - 1 else c := ⟨_, rfl⟩
  obtain ⟨g', hg'⟩ : ∃ g' : Int → Nat, g' = fun x => if x = q then g q - 1 else g x := ⟨_, rfl⟩
  rw [← hc', ← hg']
  rw [hc] at hm2
  have hlk2 := hm2.imap.get Try.underlying3 Try.underlying62 (zeroInt w2) (s := q) (wf_i64 (by omega) (by omega))
  simp only [if_true, Option.getD_some] at hlk2
  have hx1 : w1.heap[w.heap.size]? = some (.cells #[.int .i64 sz, .map (some mb)] 64 (0, 0)) := by rw [hw1]; exact bdNew w _
  have hx2 := (hgr.block w.heap.size (by omega) (by simp; omega)).trans hx1
  obtain ⟨⟨y0, y1⟩, yf⟩ := bk2 hx2
  have hs2 := hgr.size
  have keep2 : ∀ b, b < w.heap.size → b ≠ mb → w2.heap[b]? = w.heap[b]? := fun b hb hne => by
    rw [hgr.block b (by omega) (by simpa using hne)]
    exact hb1.block b hb
  have bel2 : ∀ B w0, Below B w0 w → B ≤ mb → Below B w0 w2 := fun B w0 hb hB => by
    have h3 : B ≤ w.heap.size := by omega
    exact (hb.trans (hb1.mono h3)).grown hgr (by omega) (fun k e => by injection e with e; omega)
  have hz : sz ≠ 0 := by omega
  by_cases h1 : g q = 1
  · obtain ⟨w3, hrun3, hm3, hgr3⟩ := hm2.drop Try.underlying3 Try.underlying62 (s := q) (wf_i64 (by omega) (by omega)) 0
    have hfin : AddP w mb (n + 1) c' g' (.returned (.tuple #[])) w3 := by
      refine ⟨rfl, ?_, ?_, fun b hb hne => ?_, fun B w0 hb hB => ?_⟩
      · rw [gF_gone] at hm3
        simp only [if_true, Option.isSome_some] at hm3
        rw [hc', hg', if_pos h1, h1]
        exact hm3
      · have := hgr3.size; omega
      · rw [hgr3.block b (by omega) (by simpa using hne)]
        exact keep2 b hb hne
      · exact (bel2 B w0 hb hB).grown hgr3 (by omega) (fun k e => by injection e with e; omega)
    have HFIN := Lib.hid hfin
    have heq0 : ((gq1 : Int) == 0) = true := by simp; omega
    subst hw1
    clear h hm1 hm2 hm3 hgr hgr3 hfin hgq hgq1 hg hg0 hc hsome hc' hg' hx1 hx2 keep2 bel2 h1 hb1 hs2 hz1
    go_enter Try.func47, Try.ntmps47
    go_wp2_with fail
    go_end0
    exact HFIN.out
  · have hfin : AddP w mb (n + 1) c' g' (.returned (.tuple #[])) w2 := by
      refine ⟨rfl, ?_, by omega, keep2, bel2⟩
      rw [hgq1, gF_down g q h1 (by omega)] at hm2
      rw [hc', hg', if_neg h1]
      exact hm2
    have HFIN := Lib.hid hfin
    have hne : ((gq1 : Int) == 0) = false := by simp; omega
    have hne' : ¬ gq1 = 0 := by omega
    subst hw1
    clear h hm1 hm2 hgr hfin hgq hgq1 hg hg0 hc hsome hc' hg' hx1 hx2 keep2 bel2 h1 hb1 hs2 hz1
    go_enter Try.func47, Try.ntmps47
    go_wp2_with fail
    go_end0
    exact HFIN.out
end Go.Proofs.Ytmlgbmfjnbhamaa
