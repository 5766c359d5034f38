/- isVariable, wellNamed, fits, variableSorts, wellFormed, Size, Depth. -/
import Derived.Test.YthbcfcbonmphfaaDoorTermB
import Derived.Test.YthbcfcbonmphfaaDoorLexA
namespace Go.Proofs.YthbcfcbonmphfaaDoor
open Go.RowKit Go.Shelf
set_option maxRecDepth 100000

set_option maxHeartbeats 1000000 in
theorem isVariable_any (t : Tm) (A : Option Addr) (c : Nat) (w : World) : Calls Tryd.prog 121 #[TV t A c] w fun e w' => e = .returned (.bool (isV t)) ∧ Below w.heap.size w w' := by
  unfold TV
  go_enter Tryd.func121, Tryd.ntmps121
  go_wp2_with fail
  go_ret
  exact ⟨rfl, (Below.refl _ _).alloc (Nat.le_refl _) _⟩

set_option maxHeartbeats 1000000 in
theorem wellNamed_any (t : Tm) (A : Option Addr) (c : Nat) (w : World) (h1 : t.nm.size ≤ maxLen) (h2 : t.st.size ≤ maxLen) : Calls Tryd.prog 120 #[TV t A c] w fun e w' => e = .returned (.bool (namedT t)) ∧ Below w.heap.size w w' := by
  have H1 := Lib.hid h1
  have H2 := Lib.hid h2
  clear h1 h2
  unfold TV
  go_enter Tryd.func120, Tryd.ntmps120
  go_wp2_with fail
  refine (isVariable_any t A c _).mono ?_
  rintro e w1 ⟨rfl, hb1⟩
  have HB1 := Lib.hid (((Below.refl _ _).alloc (Nat.le_refl _) (.cells (tcells t A c) 56)).trans (hb1.mono (by simp)))
  obtain ⟨⟨x0, x1, x2⟩, _⟩ := blk3 ((hb1.block _ (by simp)).trans (heap_alloc_new w (.cells (tcells t A c) 56)))
  clear hb1
  have hN : ∀ b, isV t = b → namedT t = (if b && (!isName t.st.toList || decide (0 < t.ks.length)) then false else isName t.nm.toList) := fun b h => by rw [← h]; rfl
  have HNM := Lib.hid hN
  clear hN
  generalize hv : isV t = v at *
  cases v
  · go_wp2_with fail
    refine (isName_any t.nm _ H1.out).mono ?_
    rintro e w2 ⟨rfl, rfl⟩
    go_wp2
    go_ret
    exact ⟨by rw [HNM.out false rfl]; rfl, HB1.out⟩
  · go_wp2_with fail
    refine (isName_any t.st _ H2.out).mono ?_
    rintro e w2 ⟨rfl, rfl⟩
    generalize hs : isName t.st.toList = sn at *
    cases sn
    · go_wp2
      go_ret
      exact ⟨by rw [HNM.out true rfl]; rfl, HB1.out⟩
    · by_cases hk : 0 < t.ks.length
      · have hI : decide ((0 : Int) < (t.ks.length : Int)) = true := decide_eq_true (by omega)
        go_wp2
        go_ret
        exact ⟨by rw [HNM.out true rfl]; simp [hk], HB1.out⟩
      · have hI : decide ((0 : Int) < (t.ks.length : Int)) = false := decide_eq_false (by omega)
        go_wp2_with fail
        refine (isName_any t.nm _ H1.out).mono ?_
        rintro e w2 ⟨rfl, rfl⟩
        go_wp2
        go_ret
        exact ⟨by rw [HNM.out true rfl]; simp [hk], HB1.out⟩

attribute [local go_sem] Oper.semAt_some

theorem fitsL_true {l : List (Nat × Tm)} (h1 : l.length ≤ 1000) (h2 : ∀ x, x ∈ l → fitX x = true) : fitsL l = true := by
  unfold fitsL; simp [h1, List.all_eq_true]; exact fun a b h => h2 (a, b) h
theorem fitsL_long {l p : List (Nat × Tm)} (hp : p <+: l) (h1 : 1000 < p.length) : fitsL l = false := by
  have := hp.length_le
  unfold fitsL; simp; intro h; omega
theorem fitsL_bad {l p : List (Nat × Tm)} (hp : p <+: l) {x : Nat × Tm} (hx : x ∈ p) (h1 : fitX x = false) : fitsL l = false := by
  unfold fitsL
  rw [Bool.and_eq_false_iff]
  right
  rw [List.all_eq_false]
  exact ⟨x, hp.subset hx, by simp [h1]⟩

theorem fitX_bad {n₀ : Nat} {W₀ : World} (x : Nd n₀ W₀) (h : 60 < x.d ∨ 6 < x.t.ks.length) : fitX x.pr = false := by
  unfold fitX Nd.pr; simp; omega
theorem fitX_good {n₀ : Nat} {W₀ : World} (x : Nd n₀ W₀) (h1 : x.d ≤ 60) (h2 : x.t.ks.length ≤ 6) : fitX x.pr = true := by
  unfold fitX Nd.pr; simp [h1, h2]
theorem fits_any (t : Tm) (A : Option Addr) (c : Nat) (w : World) (hrep : TRep w.heap.size w t A) (hok : okT maxLen t) (hdp : t.depth ≤ 140737488355326) :
    Calls Tryd.prog 79 #[TV t A c] w fun e w' => e = .returned (.bool (fitsL (t.pre 1))) ∧ Below w.heap.size w w' := by
  refine (callsIn_wide (n := 3)).1 ?_
  refine callsIn_of_wp_marks Tryd.func79 rfl trivial ?_ rfl
  simp only [Tryd.ntmps79, List.size_toArray, List.length_cons, List.length_nil, Nat.reduceAdd, Nat.reduceSub, Array.replicate_succ, Array.replicate_zero, List.push_toArray, List.append_toArray, List.nil_append, List.cons_append]
  unfold TV
  gi_wp2_with fail
  refine ⟨trivial, (nodes_in Fence.wide _ wide_fn rfl t A c _).mono ?_⟩
  rintro e w' ⟨rfl, rfl⟩
  gi_wp2_with fail
  have hbx := heap_alloc_new (((w.alloc (.cells (tcells t A c) 56)).alloc (.cells #[.bool false] 4)).alloc (.cells #[.int .i64 0] 3)) (.cells (tcells t A c) 56)
  have hc := (Boxed.new ((w.alloc (.cells (tcells t A c) 56)).alloc (.cells #[.bool false] 4)) 3 (.int .i64 0)).alloc (.cells (tcells t A c) 56)
  have hr := ((Boxed.new (w.alloc (.cells (tcells t A c) 56)) 4 (.bool false)).alloc (.cells #[.int .i64 0] 3)).alloc (.cells (tcells t A c) 56)
  have hB : Below w.heap.size w ((((w.alloc (.cells (tcells t A c) 56)).alloc (.cells #[.bool false] 4)).alloc (.cells #[.int .i64 0] 3)).alloc (.cells (tcells t A c) 56)) := (((((Below.refl _ _).alloc (Nat.le_refl _) _).alloc (by simp) _).alloc (by simp; omega) _).alloc (by simp; omega) _)
  have hsz : ((((w.alloc (.cells (tcells t A c) 56)).alloc (.cells #[.bool false] 4)).alloc (.cells #[.int .i64 0] 3)).alloc (.cells (tcells t A c) 56)).heap.size = w.heap.size + 4 := by simp
  simp only [World.size_alloc] at hbx hc hr
  generalize ((((w.alloc (.cells (tcells t A c) 56)).alloc (.cells #[.bool false] 4)).alloc (.cells #[.int .i64 0] 3)).alloc (.cells (tcells t A c) 56)) = W0 at hbx hc hr hB hsz ⊢
  refine wp_nodes w.heap.size _ t A c rfl hbx (hrep.later hB) (by omega) hok hdp rfl
    (fun pre W => (Boxed W (w.heap.size + 1) 4 (.bool false) ∧ Boxed W (w.heap.size + 1 + 1) 3 (.int .i64 (pre.length : Nat))) ∧ (pre.length ≤ 1000 ∧ ∀ x ∈ pre, fitX x.pr = true) ∧ Below w.heap.size w W)
    (fun j pre W => Boxed W (w.heap.size + 1) 4 (.bool false) ∧ (j = .ret ∧ (1000 < pre.length ∨ ∃ x ∈ pre, fitX x.pr = false)) ∧ Below w.heap.size w W)
    (.and (.and ((boxed_own _ _ _).from _) ((boxed_own _ _ _).from _)) (.and (ownFrom_pure _ _) (ownFrom_below (Nat.le_refl _) (by omega))))
    (fun _ => .and ((boxed_own _ _ _).from _) (.and (ownFrom_pure _ _) (ownFrom_below (Nat.le_refl _) (by omega))))
    ⟨⟨hr, hc⟩, ⟨by simp, by simp⟩, hB⟩
    (fun x a' W => ∃ Bx, NodeBox (w.heap.size + 1 + 1 + 1) x Bx W ∧ a' = { tmps := #[TV t A c, .pointer (some ⟨w.heap.size, 0, none⟩), .pointer (some ⟨w.heap.size + 1, 0, none⟩), .pointer (some ⟨w.heap.size + 1 + 1, 0, none⟩), .int .i64 x.d, .pointer (some ⟨Bx, 0, none⟩), TV t A c, .func (.func 139) #[] #[.pointer (some ⟨w.heap.size + 1 + 1 + 1, 0, none⟩)], .int .i64 x.d, TV x.t x.A x.c, undef, undef, undef, undef, undef, undef, undef, undef, undef, undef, undef, undef, undef, undef], defers := [] })
    (fun x a' s X Y row hs hg hr => by
      obtain ⟨Bx, ⟨h1, h2⟩, e⟩ := hs
      exact ⟨Bx, ⟨h1, cellsBlock_own Bx (fun _ : Unit => tcells x.t x.A x.c) 56 s X Y row h2 hg (fun r e => (hr r e).2)⟩, e⟩)
    ?assign ?body ?done ?stop
  case assign =>
    rintro l pre x W K ⟨⟨i1, i2⟩, i3, i4⟩ hK
    unfold Nd.enc TV
    gi_wp2_with fail
    have hb := i2.lt
    exact hK _ _ ((KeepsOthers.alloc _ _).from _) ((Kp.refl _ _ _).alloc i4.size _) ⟨⟨i1.alloc _, i2.alloc _⟩, i3, i4.alloc i4.size _⟩ ⟨W.heap.size, ⟨by omega, heap_alloc_new _ _⟩, rfl⟩
  case body =>
    rintro l pre x a' W hl _ ⟨⟨i1, i2⟩, ⟨i3, i5⟩, i4⟩ ⟨Bx, ⟨hBx, hbX⟩, rfl⟩ hlt
    have I4 := Lib.hid i4
    have I5 := Lib.hid i5
    clear hrep hok hB hbx hc hr i4 i5
    have c1 := i1.cell
    have c2 := i2.cell
    have f1 := i1.frozen
    have f2 := i2.frozen
    obtain ⟨⟨x0, x1, x2⟩, _⟩ := blk3 (cell_set_other hbX (w.heap.size + 1 + 1) (.int .i64 ((pre.length : Int) + 1)) (by omega))
    have c2' := (i2.set (.int .i64 ((pre.length : Int) + 1))).cell
    gi_wp2_with fail
    all_goals
      first
        | exact ⟨(KeepsOthers.setCell _ _ _).from _, Kp.set _ _ _ (by omega) (by omega), ⟨i1.other (by omega) _, by rw [List.length_append]; exact i2.set _⟩, ⟨by simp; omega, fun y hy => (List.mem_append.1 hy).elim (I5.out y) (fun h => by rw [List.mem_singleton.1 h]; exact fitX_good x (by omega) (by omega))⟩, belowSet I4.out _ (by omega) _⟩
        | (refine ⟨((KeepsOthers.setCell _ _ _).trans (KeepsOthers.setCell _ _ _)).from _, (i1.other (by omega) _).set _, ⟨rfl, ?_⟩, belowSet (belowSet I4.out _ (by omega) _) _ (by omega) _⟩
           first
             | exact .inl (by simp; omega)
             | exact .inr ⟨x, by simp, fitX_bad x (by omega)⟩)
  case done =>
    rintro D ys W hD hys ⟨⟨i1, i2⟩, ⟨i3, i5⟩, i4⟩ hK
    have hres : fitsL (t.pre 1) = true := by
      have hl := congrArg List.length hys
      rw [List.length_map] at hl
      refine fitsL_true (by omega) fun y hy => ?_
      rw [← hys, List.mem_map] at hy
      obtain ⟨z, hz, rfl⟩ := hy
      exact i5 z hz
    have I4 := Lib.hid i4
    clear hrep hok hB hbx hc hr i4 i5 hys
    have f1 := i1.frozen
    have c1 := i1.cell
    have hK2 := keep_deferred hK (w.heap.size + 1) (.bool true)
    have HK2 := Lib.hid hK2
    clear hK
    gi_wp2_with fail
    refine leave_mark HK2.out ?_
    have hc5 := (boxed_put (i1.set (.bool true)) HK2.out).cell
    refine ⟨.bool true, ?_, by rw [hres], below_put (belowSet I4.out _ (by omega) _) (by omega) HK2.out⟩
    simp [results, Tryd.f79, go_sem, hc5]
  case stop =>
    rintro D j pre W hD hpre ⟨i1, ⟨rfl, i3⟩, i4⟩ hK
    have hres : fitsL (t.pre 1) = false := by
      rcases i3 with h | ⟨x, hx, h⟩
      · exact fitsL_long hpre (by simpa using h)
      · exact fitsL_bad hpre (List.mem_map.2 ⟨x, hx, rfl⟩) h
    have HK := Lib.hid hK
    clear hK
    gi_wp2_with fail
    refine leave_mark HK.out ?_
    have hc5 := (boxed_put i1 HK.out).cell
    refine ⟨.bool false, ?_, by rw [hres], below_put i4 (by omega) HK.out⟩
    simp [results, Tryd.f79, go_sem, hc5]

end Go.Proofs.YthbcfcbonmphfaaDoor
