/- Size; Depth. -/
import Derived.Test.YthbcfcbonmphfaaDoorTermD
namespace Go.Proofs.YthbcfcbonmphfaaDoor
open Go.RowKit Go.Shelf
set_option maxRecDepth 100000
attribute [local go_sem] Oper.semAt_some

def sizeR (t : Tm) : Nat := if formed t then t.size else 0
def depthR (t : Tm) : Nat := if formed t then t.depth else 0
theorem size_any (t : Tm) (A : Option Addr) (c : Nat) (w : World) (hrep : TRep w.heap.size w t A) (hok : okT maxLen t) (hdp : t.depth ≤ 140737488355326) :
    Calls Tryd.prog 73 #[TV t A c] w fun e w' => e = .returned (.int .i64 (sizeR t : Int)) ∧ Below w.heap.size w w' := by
  refine (callsIn_wide (n := 3)).1 ?_
  refine callsIn_of_wp_marks Tryd.func73 rfl trivial ?_ rfl
  simp only [Tryd.ntmps73, List.size_toArray, List.length_cons, List.length_nil, Nat.reduceAdd, Nat.reduceSub, Array.replicate_succ, Array.replicate_zero, List.push_toArray, List.append_toArray, List.nil_append, List.cons_append]
  unfold TV
  gi_wp2_with fail
  refine ⟨trivial, (callsIn_wide.2 (wellFormed_any t A c _ ((hrep.later ((Below.refl _ _).alloc (Nat.le_refl _) _)).mono (by simp)) hok hdp)).mono ?_⟩
  rintro e w1 ⟨rfl, hb1⟩
  have hbx := cells_below (heap_alloc_new w (.cells (tcells t A c) 56)) hb1
  have hB := ((Below.refl w.heap.size w).alloc (Nat.le_refl _) (.cells (tcells t A c) 56)).trans (hb1.mono (by simp))
  have hs1 := hb1.size
  simp only [World.size_alloc] at hs1
  clear hb1
  obtain ⟨⟨x0, x1, x2⟩, _⟩ := blk3 ((Below.heap_alloc w1 (.cells #[.int .i64 0] 3) _ (Array.getElem?_eq_some_iff.1 hbx).1).trans hbx)
  generalize hf : formed t = bf at *
  cases bf
  · have HB := Lib.hid hB
    clear hB hbx hrep hok
    gi_wp2_with fail
    exact ⟨_, results_tmp rfl _ _ _, by simp [sizeR, hf], HB.out⟩
  · have hsize : t.size ≤ 1000 := fitsL_size (by unfold formed at hf; simp at hf; exact hf.1.1)
    gi_wp2_with fail
    refine ⟨trivial, (nodes_in Fence.wide _ wide_fn rfl t A c _).mono ?_⟩
    rintro e w' ⟨rfl, rfl⟩
    gi_wp2_with fail
    have hnx := heap_alloc_new (w1.alloc (.cells #[.int .i64 0] 3)) (.cells (tcells t A c) 56)
    have hr0 := (Boxed.new w1 3 (.int .i64 0)).alloc (.cells (tcells t A c) 56)
    have hB0 := (hB.alloc (by omega) (.cells #[.int .i64 0] 3)).alloc (by simp; omega) (.cells (tcells t A c) 56)
    have hsz : ((w1.alloc (.cells #[.int .i64 0] 3)).alloc (.cells (tcells t A c) 56)).heap.size = w1.heap.size + 2 := by simp
    simp only [World.size_alloc] at hnx
    clear hbx hB x0 x1 x2
    generalize ((w1.alloc (.cells #[.int .i64 0] 3)).alloc (.cells (tcells t A c) 56)) = W0 at hnx hr0 hB0 hsz ⊢
    refine wp_nodes w.heap.size _ t A c rfl hnx (hrep.later hB0) (by omega) hok hdp rfl
      (fun pre W => Boxed W w1.heap.size 3 (.int .i64 (pre.length : Nat)) ∧ Below w.heap.size w W)
      (fun _ _ _ => False)
      (.and ((boxed_own _ _ _).from _) (ownFrom_below (Nat.le_refl _) (by omega)))
      (fun _ => ownFrom_pure _ _)
      ⟨hr0, hB0⟩
      (fun x a' W => a' = { tmps := #[TV t A c, .pointer (some ⟨w.heap.size, 0, none⟩), .int .i64 0, .pointer (some ⟨w1.heap.size, 0, none⟩), TV t A c, .bool true, .bool false, TV t A c, .func (.func 139) #[] #[.pointer (some ⟨w1.heap.size + 1, 0, none⟩)], .int .i64 x.d, TV x.t x.A x.c, undef, undef, undef], defers := [] })
      (fun x a' => ownFrom_pure _ _)
      ?assign ?body ?done ?stop
    case assign =>
      rintro l pre x W K ⟨i1, i4⟩ hK
      unfold Nd.enc TV
      gi_wp2_with fail
      exact hK _ _ (KeepsFrom.refl _ _) (Kp.refl _ _ _) ⟨i1, i4⟩ (by simp [TV])
    case body =>
      rintro l pre x a' W hl _ ⟨i1, i4⟩ rfl hlt
      have I4 := Lib.hid i4
      clear hrep hok hB0 hnx hr0 i4 hf
      have c1 := i1.cell
      have f1 := i1.frozen
      gi_wp2_with fail
      exact ⟨(KeepsOthers.setCell _ _ _).from _, Kp.set _ _ _ (by omega) (by omega), by rw [List.length_append]; exact i1.set _, belowSet I4.out _ (by omega) _⟩
    case done =>
      rintro D ys W hD hys ⟨i1, i4⟩ hK
      have hl := congrArg List.length hys
      rw [List.length_map, Tm.pre_length] at hl
      rw [hl] at i1
      have I4 := Lib.hid i4
      have HK := Lib.hid hK
      clear hrep hok hB0 hnx hr0 i4 hys hK hl
      have c1 := i1.cell
      gi_wp2_with fail
      refine leave_mark HK.out ?_
      exact ⟨_, results_tmp rfl _ _ _, by simp [sizeR, hf], below_put I4.out (by omega) HK.out⟩
    case stop =>
      rintro D j pre W hD hpre h hK
      exact h.elim

theorem depth_any (t : Tm) (A : Option Addr) (c : Nat) (w : World) (hrep : TRep w.heap.size w t A) (hok : okT maxLen t) (hdp : t.depth ≤ 140737488355326) :
    Calls Tryd.prog 74 #[TV t A c] w fun e w' => e = .returned (.int .i64 (depthR t : Int)) ∧ Below w.heap.size w w' := by
  refine (callsIn_wide (n := 3)).1 ?_
  refine callsIn_of_wp_marks Tryd.func74 rfl trivial ?_ rfl
  simp only [Tryd.ntmps74, List.size_toArray, List.length_cons, List.length_nil, Nat.reduceAdd, Nat.reduceSub, Array.replicate_succ, Array.replicate_zero, List.push_toArray, List.append_toArray, List.nil_append, List.cons_append]
  unfold TV
  gi_wp2_with fail
  refine ⟨trivial, (callsIn_wide.2 (wellFormed_any t A c _ ((hrep.later ((Below.refl _ _).alloc (Nat.le_refl _) _)).mono (by simp)) hok hdp)).mono ?_⟩
  rintro e w1 ⟨rfl, hb1⟩
  have hbx := cells_below (heap_alloc_new w (.cells (tcells t A c) 56)) hb1
  have hB := ((Below.refl w.heap.size w).alloc (Nat.le_refl _) (.cells (tcells t A c) 56)).trans (hb1.mono (by simp))
  have hs1 := hb1.size
  simp only [World.size_alloc] at hs1
  clear hb1
  obtain ⟨⟨x0, x1, x2⟩, _⟩ := blk3 ((Below.heap_alloc w1 (.cells #[.int .i64 0] 3) _ (Array.getElem?_eq_some_iff.1 hbx).1).trans hbx)
  generalize hf : formed t = bf at *
  cases bf
  · have HB := Lib.hid hB
    clear hB hbx hrep hok
    gi_wp2_with fail
    exact ⟨_, results_tmp rfl _ _ _, by simp [depthR, hf], HB.out⟩
  · gi_wp2_with fail
    refine ⟨trivial, (nodes_in Fence.wide _ wide_fn rfl t A c _).mono ?_⟩
    rintro e w' ⟨rfl, rfl⟩
    gi_wp2_with fail
    have hnx := heap_alloc_new (w1.alloc (.cells #[.int .i64 0] 3)) (.cells (tcells t A c) 56)
    have hr0 := (Boxed.new w1 3 (.int .i64 0)).alloc (.cells (tcells t A c) 56)
    have hB0 := (hB.alloc (by omega) (.cells #[.int .i64 0] 3)).alloc (by simp; omega) (.cells (tcells t A c) 56)
    have hsz : ((w1.alloc (.cells #[.int .i64 0] 3)).alloc (.cells (tcells t A c) 56)).heap.size = w1.heap.size + 2 := by simp
    simp only [World.size_alloc] at hnx
    clear hbx hB x0 x1 x2
    generalize ((w1.alloc (.cells #[.int .i64 0] 3)).alloc (.cells (tcells t A c) 56)) = W0 at hnx hr0 hB0 hsz ⊢
    refine wp_nodes w.heap.size _ t A c rfl hnx (hrep.later hB0) (by omega) hok hdp rfl
      (fun pre W => Boxed W w1.heap.size 3 (.int .i64 ((maxd (pre.map Nd.pr) : Nat) : Int)) ∧ Below w.heap.size w W)
      (fun _ _ _ => False)
      (.and ((boxed_own _ _ _).from _) (ownFrom_below (Nat.le_refl _) (by omega)))
      (fun _ => ownFrom_pure _ _)
      ⟨hr0, hB0⟩
      (fun x a' W => a' = { tmps := #[TV t A c, .pointer (some ⟨w.heap.size, 0, none⟩), .int .i64 0, .pointer (some ⟨w1.heap.size, 0, none⟩), .int .i64 x.d, TV t A c, .bool true, .bool false, TV t A c, .func (.func 139) #[] #[.pointer (some ⟨w1.heap.size + 1, 0, none⟩)], .int .i64 x.d, TV x.t x.A x.c, undef, undef, undef, undef], defers := [] })
      (fun x a' => ownFrom_pure _ _)
      ?assign ?body ?done ?stop
    case assign =>
      rintro l pre x W K ⟨i1, i4⟩ hK
      unfold Nd.enc TV
      gi_wp2_with fail
      exact hK _ _ (KeepsFrom.refl _ _) (Kp.refl _ _ _) ⟨i1, i4⟩ (by simp [TV])
    case body =>
      rintro l pre x a' W hl _ ⟨i1, i4⟩ rfl hlt
      have I4 := Lib.hid i4
      clear hrep hok hB0 hnx hr0 i4 hf
      have c1 := i1.cell
      have f1 := i1.frozen
      gi_wp2_with fail
      have e : (pre ++ [x]).map Nd.pr = pre.map Nd.pr ++ [x.pr] := by simp
      have e2 : ((maxd ((pre ++ [x]).map Nd.pr) : Nat) : Int) = max (maxd (pre.map Nd.pr) : Int) (x.d : Int) := by
        rw [e, maxd_snoc]
        show ((max (maxd (pre.map Nd.pr)) x.d : Nat) : Int) = _
        omega
      exact ⟨(KeepsOthers.setCell _ _ _).from _, Kp.set _ _ _ (by omega) (by omega), by rw [e2]; exact i1.set _, belowSet I4.out _ (by omega) _⟩
    case done =>
      rintro D ys W hD hys ⟨i1, i4⟩ hK
      rw [hys, maxd_pre] at i1
      have I4 := Lib.hid i4
      have HK := Lib.hid hK
      clear hrep hok hB0 hnx hr0 i4 hys hK
      have c1 := i1.cell
      gi_wp2_with fail
      refine leave_mark HK.out ?_
      exact ⟨_, results_tmp rfl _ _ _, by simp [depthR, hf], below_put I4.out (by omega) HK.out⟩
    case stop =>
      rintro D j pre W hD hpre h hK
      exact h.elim
end Go.Proofs.YthbcfcbonmphfaaDoor
