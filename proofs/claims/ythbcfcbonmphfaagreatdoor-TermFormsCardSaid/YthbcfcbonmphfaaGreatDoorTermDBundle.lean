/- A map with keys of the type string that the call has made, as a function. -/
import Derived.Test.YthbcfcbonmphfaaGreatDoorTermBBundle
import Derived.Test.YthbcfcbonmphfaaGreatDoorLexEBundle
import Derived.Maps.OwnIn
import Derived.Maps.Views
import Derived.Test.YthbcfcbonmphfaaGreatDoorProg
import Derived.Test.YthbcfcbonmphfaaGreatDoorTermSBundle
/- isVariable, wellNamed, fits, variableSorts, wellFormed, Size, Depth. -/
namespace Go.Proofs.YthbcfcbonmphfaaGreatDoor
open Go.RowKit Go.Shelf
set_option maxRecDepth 100000

set_option maxHeartbeats 1000000 in
theorem isVariable_any (t : Tm) (A : Option Addr) (c : Nat) (w : World) : Calls Tryz.prog 65 #[TV t A c] w fun e w' => e = .returned (.bool (isV t)) ∧ Below w.heap.size w w' := by
  unfold TV
  go_enter Tryz.func65, Tryz.ntmps65
  go_wp2_with fail
  go_ret
  exact ⟨rfl, (Below.refl _ _).alloc (Nat.le_refl _) _⟩

set_option maxHeartbeats 1000000 in
theorem wellNamed_any (t : Tm) (A : Option Addr) (c : Nat) (w : World) (h1 : t.nm.size ≤ maxLen) (h2 : t.st.size ≤ maxLen) : Calls Tryz.prog 62 #[TV t A c] w fun e w' => e = .returned (.bool (namedT t)) ∧ Below w.heap.size w w' := by
  have H1 := Lib.hid h1
  have H2 := Lib.hid h2
  clear h1 h2
  unfold TV
  go_enter Tryz.func62, Tryz.ntmps62
  go_wp2_with fail
  refine (isVariable_any t A c _).mono ?_
  rintro e w1 ⟨rfl, hb1⟩
  have HB1 := Lib.hid (((Below.refl _ _).alloc (Nat.le_refl _) (.cells (tcells t A c) 28)).trans (hb1.mono (by simp)))
  obtain ⟨⟨x0, x1, x2⟩, _⟩ := blk3 ((hb1.block _ (by simp)).trans (heap_alloc_new w (.cells (tcells t A c) 28)))
  clear hb1
  have hN : ∀ b, isV t = b → namedT t = (if b && (!isName t.st.toList || decide (0 < t.ks.length)) then false else isName t.nm.toList) := fun b h => by rw [← h]; rfl
  have HNM := Lib.hid hN
  clear hN
  generalize hv : isV t = v at *
  cases v
  · go_wp2_with fail
    refine (isName_any t.nm _ H1.out).mono ?_
    rintro e w2 ⟨rfl, rfl⟩
    go_wp2
    go_ret
    exact ⟨by rw [HNM.out false rfl]; rfl, HB1.out⟩
  · go_wp2_with fail
    refine (isName_any t.st _ H2.out).mono ?_
    rintro e w2 ⟨rfl, rfl⟩
    generalize hs : isName t.st.toList = sn at *
    cases sn
    · go_wp2
      go_ret
      exact ⟨by rw [HNM.out true rfl]; rfl, HB1.out⟩
    · by_cases hk : 0 < t.ks.length
      · have hI : decide ((0 : Int) < (t.ks.length : Int)) = true := decide_eq_true (by omega)
        go_wp2
        go_ret
        exact ⟨by rw [HNM.out true rfl]; simp [hk], HB1.out⟩
      · have hI : decide ((0 : Int) < (t.ks.length : Int)) = false := decide_eq_false (by omega)
        go_wp2_with fail
        refine (isName_any t.nm _ H1.out).mono ?_
        rintro e w2 ⟨rfl, rfl⟩
        go_wp2
        go_ret
        exact ⟨by rw [HNM.out true rfl]; simp [hk], HB1.out⟩

attribute [local go_sem] Oper.semAt_some

theorem fitsL_true {l : List (Nat × Tm)} (h1 : l.length ≤ 1000) (h2 : ∀ x, x ∈ l → fitX x = true) : fitsL l = true := by
  unfold fitsL; simp [h1, List.all_eq_true]; exact fun a b h => h2 (a, b) h
theorem fitsL_long {l p : List (Nat × Tm)} (hp : p <+: l) (h1 : 1000 < p.length) : fitsL l = false := by
  have := hp.length_le
  unfold fitsL; simp; intro h; omega
theorem fitsL_bad {l p : List (Nat × Tm)} (hp : p <+: l) {x : Nat × Tm} (hx : x ∈ p) (h1 : fitX x = false) : fitsL l = false := by
  unfold fitsL
  rw [Bool.and_eq_false_iff]
  right
  rw [List.all_eq_false]
  exact ⟨x, hp.subset hx, by simp [h1]⟩

theorem fitX_bad {n₀ : Nat} {W₀ : World} (x : Nd n₀ W₀) (h : 60 < x.d ∨ 6 < x.t.ks.length) : fitX x.pr = false := by
  unfold fitX Nd.pr; simp; omega
theorem fitX_good {n₀ : Nat} {W₀ : World} (x : Nd n₀ W₀) (h1 : x.d ≤ 60) (h2 : x.t.ks.length ≤ 6) : fitX x.pr = true := by
  unfold fitX Nd.pr; simp [h1, h2]
theorem fits_any (t : Tm) (A : Option Addr) (c : Nat) (w : World) (hrep : TRep w.heap.size w t A) (hok : okT maxLen t) (hdp : t.depth ≤ 140737488355326) :
    Calls Tryz.prog 58 #[TV t A c] w fun e w' => e = .returned (.bool (fitsL (t.pre 1))) ∧ Below w.heap.size w w' := by
  refine (callsIn_wide (n := 3)).1 ?_
  refine callsIn_of_wp_marks Tryz.func58 rfl trivial ?_ rfl
  simp only [Tryz.ntmps58, List.size_toArray, List.length_cons, List.length_nil, Nat.reduceAdd, Nat.reduceSub, Array.replicate_succ, Array.replicate_zero, List.push_toArray, List.append_toArray, List.nil_append, List.cons_append]
  unfold TV
  gi_wp2_with fail
  refine ⟨trivial, (nodes_in Fence.wide _ wide_fn rfl t A c _).mono ?_⟩
  rintro e w' ⟨rfl, rfl⟩
  gi_wp2_with fail
  have hbx := heap_alloc_new (((w.alloc (.cells (tcells t A c) 28)).alloc (.cells #[.bool false] 4)).alloc (.cells #[.int .i64 0] 3)) (.cells (tcells t A c) 28)
  have hc := (Boxed.new ((w.alloc (.cells (tcells t A c) 28)).alloc (.cells #[.bool false] 4)) 3 (.int .i64 0)).alloc (.cells (tcells t A c) 28)
  have hr := ((Boxed.new (w.alloc (.cells (tcells t A c) 28)) 4 (.bool false)).alloc (.cells #[.int .i64 0] 3)).alloc (.cells (tcells t A c) 28)
  have hB : Below w.heap.size w ((((w.alloc (.cells (tcells t A c) 28)).alloc (.cells #[.bool false] 4)).alloc (.cells #[.int .i64 0] 3)).alloc (.cells (tcells t A c) 28)) := (((((Below.refl _ _).alloc (Nat.le_refl _) _).alloc (by simp) _).alloc (by simp; omega) _).alloc (by simp; omega) _)
  have hsz : ((((w.alloc (.cells (tcells t A c) 28)).alloc (.cells #[.bool false] 4)).alloc (.cells #[.int .i64 0] 3)).alloc (.cells (tcells t A c) 28)).heap.size = w.heap.size + 4 := by simp
  simp only [World.size_alloc] at hbx hc hr
  generalize ((((w.alloc (.cells (tcells t A c) 28)).alloc (.cells #[.bool false] 4)).alloc (.cells #[.int .i64 0] 3)).alloc (.cells (tcells t A c) 28)) = W0 at hbx hc hr hB hsz ⊢
  refine wp_nodes w.heap.size _ t A c rfl hbx (hrep.later hB) (by omega) hok hdp rfl
    (fun pre W => (Boxed W (w.heap.size + 1) 4 (.bool false) ∧ Boxed W (w.heap.size + 1 + 1) 3 (.int .i64 (pre.length : Nat))) ∧ (pre.length ≤ 1000 ∧ ∀ x ∈ pre, fitX x.pr = true) ∧ Below w.heap.size w W)
    (fun j pre W => Boxed W (w.heap.size + 1) 4 (.bool false) ∧ (j = .ret ∧ (1000 < pre.length ∨ ∃ x ∈ pre, fitX x.pr = false)) ∧ Below w.heap.size w W)
    (.and (.and ((boxed_own _ _ _).from _) ((boxed_own _ _ _).from _)) (.and (ownFrom_pure _ _) (ownFrom_below (Nat.le_refl _) (by omega))))
    (fun _ => .and ((boxed_own _ _ _).from _) (.and (ownFrom_pure _ _) (ownFrom_below (Nat.le_refl _) (by omega))))
    ⟨⟨hr, hc⟩, ⟨by simp, by simp⟩, hB⟩
    (fun x a' W => ∃ Bx, NodeBox (w.heap.size + 1 + 1 + 1) x Bx W ∧ a' = { tmps := #[TV t A c, .pointer (some ⟨w.heap.size, 0, none⟩), .pointer (some ⟨w.heap.size + 1, 0, none⟩), .pointer (some ⟨w.heap.size + 1 + 1, 0, none⟩), .int .i64 x.d, .pointer (some ⟨Bx, 0, none⟩), TV t A c, .func (.func 63) #[] #[.pointer (some ⟨w.heap.size + 1 + 1 + 1, 0, none⟩)], .int .i64 x.d, TV x.t x.A x.c, undef, undef, undef, undef, undef, undef, undef, undef, undef, undef, undef, undef, undef, undef], defers := [] })
    (fun x a' s X Y row hs hg hr => by
      obtain ⟨Bx, ⟨h1, h2⟩, e⟩ := hs
      exact ⟨Bx, ⟨h1, cellsBlock_own Bx (fun _ : Unit => tcells x.t x.A x.c) 28 s X Y row h2 hg (fun r e => (hr r e).2)⟩, e⟩)
    ?assign ?body ?done ?stop
  case assign =>
    rintro l pre x W K ⟨⟨i1, i2⟩, i3, i4⟩ hK
    unfold Nd.enc TV
    gi_wp2_with fail
    have hb := i2.lt
    exact hK _ _ ((KeepsOthers.alloc _ _).from _) ((Kp.refl _ _ _).alloc i4.size _) ⟨⟨i1.alloc _, i2.alloc _⟩, i3, i4.alloc i4.size _⟩ ⟨W.heap.size, ⟨by omega, heap_alloc_new _ _⟩, rfl⟩
  case body =>
    rintro l pre x a' W hl _ ⟨⟨i1, i2⟩, ⟨i3, i5⟩, i4⟩ ⟨Bx, ⟨hBx, hbX⟩, rfl⟩ hlt
    have I4 := Lib.hid i4
    have I5 := Lib.hid i5
    clear hrep hok hB hbx hc hr i4 i5
    have c1 := i1.cell
    have c2 := i2.cell
    have f1 := i1.frozen
    have f2 := i2.frozen
    obtain ⟨⟨x0, x1, x2⟩, _⟩ := blk3 (cell_set_other hbX (w.heap.size + 1 + 1) (.int .i64 ((pre.length : Int) + 1)) (by omega))
    have c2' := (i2.set (.int .i64 ((pre.length : Int) + 1))).cell
    gi_wp2_with fail
    all_goals
      first
        | exact ⟨(KeepsOthers.setCell _ _ _).from _, Kp.set _ _ _ (by omega) (by omega), ⟨i1.other (by omega) _, by rw [List.length_append]; exact i2.set _⟩, ⟨by simp; omega, fun y hy => (List.mem_append.1 hy).elim (I5.out y) (fun h => by rw [List.mem_singleton.1 h]; exact fitX_good x (by omega) (by omega))⟩, belowSet I4.out _ (by omega) _⟩
        | (refine ⟨((KeepsOthers.setCell _ _ _).trans (KeepsOthers.setCell _ _ _)).from _, (i1.other (by omega) _).set _, ⟨rfl, ?_⟩, belowSet (belowSet I4.out _ (by omega) _) _ (by omega) _⟩
           first
             | exact .inl (by simp; omega)
             | exact .inr ⟨x, by simp, fitX_bad x (by omega)⟩)
  case done =>
    rintro D ys W hD hys ⟨⟨i1, i2⟩, ⟨i3, i5⟩, i4⟩ hK
    have hres : fitsL (t.pre 1) = true := by
      have hl := congrArg List.length hys
      rw [List.length_map] at hl
      refine fitsL_true (by omega) fun y hy => ?_
      rw [← hys, List.mem_map] at hy
      obtain ⟨z, hz, rfl⟩ := hy
      exact i5 z hz
    have I4 := Lib.hid i4
    clear hrep hok hB hbx hc hr i4 i5 hys
    have f1 := i1.frozen
    have c1 := i1.cell
    have hK2 := keep_deferred hK (w.heap.size + 1) (.bool true)
    have HK2 := Lib.hid hK2
    clear hK
    gi_wp2_with fail
    refine leave_mark HK2.out ?_
    have hc5 := (boxed_put (i1.set (.bool true)) HK2.out).cell
    refine ⟨.bool true, ?_, by rw [hres], below_put (belowSet I4.out _ (by omega) _) (by omega) HK2.out⟩
    simp [results, Tryz.f58, go_sem, hc5]
  case stop =>
    rintro D j pre W hD hpre ⟨i1, ⟨rfl, i3⟩, i4⟩ hK
    have hres : fitsL (t.pre 1) = false := by
      rcases i3 with h | ⟨x, hx, h⟩
      · exact fitsL_long hpre (by simpa using h)
      · exact fitsL_bad hpre (List.mem_map.2 ⟨x, hx, rfl⟩) h
    have HK := Lib.hid hK
    clear hK
    gi_wp2_with fail
    refine leave_mark HK.out ?_
    have hc5 := (boxed_put i1 HK.out).cell
    refine ⟨.bool false, ?_, by rw [hres], below_put i4 (by omega) HK.out⟩
    simp [results, Tryz.f58, go_sem, hc5]

end Go.Proofs.YthbcfcbonmphfaaGreatDoor
namespace Go.Proofs.YthbcfcbonmphfaaGreatDoor
open Go.RowKit
set_option maxRecDepth 100000

/-- How an element reads: as itself. -/
def Rv (v : Value) : Option (DataW Value × List MemPlace) := some (.held v, [])
/-- Block b is a map of at most n entries: what it holds at each key. -/
def SMap (w : World) (b n : Nat) (f : List UInt8 → Option Value) : Prop :=
  ∃ D : DataW Value, w.ownsMap Tryz.prog 9 Rv b n D ∧ ∀ s, Maps.has D (.string s) = (f s).isSome ∧ ∀ v, f s = some v → ∀ zd, D.atKey (.string s) zd = .held v
theorem SMap.made (w : World) : SMap (w.alloc (.map #[] 0)) w.heap.size 0 (fun _ => none) := by
  refine ⟨_, World.ownsMap_made w _ _ _, fun s => ⟨?_, fun v h => by cases h⟩⟩
  simp [Maps.has]
theorem SMap.kept {w w' : World} {b n : Nat} {f : List UInt8 → Option Value} {row : Option Nat} (h : SMap w b n f) (hg : w.grownBy w' row) (hne : some b ≠ row) : SMap w' b n f := by
  obtain ⟨D, h1, h2⟩ := h
  exact ⟨D, h1.kept hg hne, h2⟩
theorem SMap.lt {w : World} {b n : Nat} {f : List UInt8 → Option Value} (h : SMap w b n f) : b < w.heap.size := by
  obtain ⟨D, h1, _⟩ := h
  exact h1.lt
theorem SMap.mono {w : World} {b n n' : Nat} {f : List UInt8 → Option Value} (h : SMap w b n f) (hn : n ≤ n') : SMap w b n' f := by
  obtain ⟨D, h1, h2⟩ := h
  exact ⟨D, h1.mono hn, h2⟩
theorem SMap.below {w w' : World} {b n n₀ : Nat} {f : List UInt8 → Option Value} (h : SMap w b n f) (hb : Below n₀ w w') (hlt : b < n₀) : SMap w' b n f := by
  obtain ⟨D, ⟨es, clock, e, F, hs, hD⟩, h2⟩ := h
  exact ⟨D, ⟨es, clock, (hb.block b hlt).trans e, F, hs, hD⟩, h2⟩
theorem SMap.setCell {w : World} {b n : Nat} {f : List UInt8 → Option Value} (h : SMap w b n f) {a : Addr} (ha : b ≠ a.block) (u : Value) : SMap (w.setCell a u) b n f := by
  obtain ⟨D, h1, h2⟩ := h
  exact ⟨D, h1.setCell ha u, h2⟩
theorem key_string {s : ByteArray} (hs : s.size ≤ maxLen) : keyOf Tryz.prog 9 (.string s) = some (.string s.data.toList) :=
  Go.WideMaps.keyOf_string_mk Tryz.underlying9 hs
/-- v, ok := m[k] -/
theorem SMap.lookup {w : World} {b n : Nat} {f : List UInt8 → Option Value} (h : SMap w b n f) {t e : TypeId} (ht : Tryz.prog.underlying t = some (.map 9 e)) {z : Value} (hz : (zeroValue e).run Tryz.prog w = .ok z w) {s : ByteArray} (hs : s.size ≤ maxLen) :
    (Instr.lookup t (.map (some b)) (.string s) true).run Tryz.prog w = .ok (.tuple #[(f s.data.toList).getD z, .bool (f s.data.toList).isSome]) w := by
  obtain ⟨D, h1, h2⟩ := h
  obtain ⟨v, ps, hrun, hv⟩ := h1.look_ok (Maps.string_keyed Tryz.underlying9) ht hz (zd := .held z) (zp := []) rfl (key_string hs)
  obtain ⟨g1, g2⟩ := h2 s.data.toList
  rw [hrun, g1]
  unfold Rv at hv
  have hv1 : DataW.held v = D.atKey (.string s.data.toList) (.held z) := by
    have := congrArg (Option.map Prod.fst) hv
    simpa using this
  cases hf : f s.data.toList with
  | none =>
    rw [hf] at g1
    rw [Maps.atKey_of_not_has g1] at hv1
    injection hv1 with e
    rw [e]; rfl
  | some u =>
    rw [g2 u hf] at hv1
    injection hv1 with e
    rw [e]; rfl
/-- m[k] = v -/
theorem SMap.update {w : World} {b n : Nat} {f : List UInt8 → Option Value} (h : SMap w b n f) {t e : TypeId} (ht : Tryz.prog.underlying t = some (.map 9 e)) (hn : n < maxLen) {s : ByteArray} (hs : s.size ≤ maxLen) (v : Value) :
    ∃ w', (Instr.mapUpdate t (.map (some b)) (.string s) v).run Tryz.prog w = .ok () w' ∧ SMap w' b (n + 1) (fun x => if x = s.data.toList then some v else f x) ∧ w.grownBy w' (some b) := by
  obtain ⟨D, h1, h2⟩ := h
  obtain ⟨w', hrun, r1, r2⟩ := h1.update (Maps.string_keyed Tryz.underlying9) ht hn (key_string hs) (val := v) (d := .held v) (ps := []) rfl
  refine ⟨w', hrun, ⟨_, r1, fun x => ?_⟩, r2⟩
  have hk : WideAt.IsKeyLit (.string s.data.toList) := by trivial
  by_cases hx : x = s.data.toList
  · subst hx
    simp only [if_true]
    exact ⟨Maps.has_put_same h1.isMap hk _, fun u hu zd => by injection hu with e; rw [Maps.atKey_put_same h1.isMap hk, e]⟩
  · simp only [if_neg hx]
    have hne : (Lit.string x) ≠ .string s.data.toList := fun e => hx (by injection e)
    exact ⟨by rw [Maps.has_put_other hne]; exact (h2 x).1, fun u hu zd => by rw [Maps.atKey_put_other hne]; exact (h2 x).2 u hu zd⟩
end Go.Proofs.YthbcfcbonmphfaaGreatDoor

/- variableSorts; wellFormed. -/
namespace Go.Proofs.YthbcfcbonmphfaaGreatDoor
open Go.RowKit Go.Shelf
set_option maxRecDepth 100000
attribute [local go_sem] Oper.semAt_some

theorem snoc_ind {α : Type} {P : List α → Prop} (h0 : P []) (h1 : ∀ l x, P l → P (l ++ [x])) (l : List α) : P l := by
  have : ∀ r : List α, P r.reverse := fun r => by
    induction r with
    | nil => exact h0
    | cons x r ih => rw [List.reverse_cons]; exact h1 _ _ ih
  have h := this l.reverse
  rwa [List.reverse_reverse] at h
/-- The sorts of the variables that have come. -/
def vm (l : List (Nat × Tm)) : List UInt8 → Option Value := l.foldl (fun f x => if isV x.2 then (fun s => if s = x.2.nm.data.toList then some (.string x.2.st) else f s) else f) (fun _ => none)
theorem vm_snoc (l : List (Nat × Tm)) (x : Nat × Tm) : vm (l ++ [x]) = if isV x.2 then (fun s => if s = x.2.nm.data.toList then some (.string x.2.st) else vm l s) else vm l := by
  unfold vm; rw [List.foldl_append]; rfl
theorem vm_some (l : List (Nat × Tm)) : ∀ s v, vm l s = some v → ∃ x, x ∈ l ∧ isV x.2 = true ∧ s = x.2.nm.data.toList ∧ v = .string x.2.st := by
  refine snoc_ind (P := fun l => ∀ s v, vm l s = some v → ∃ x, x ∈ l ∧ isV x.2 = true ∧ s = x.2.nm.data.toList ∧ v = .string x.2.st) ?_ ?_ l
  · intro s v h; cases h
  · intro l x ih s v h
    rw [vm_snoc] at h
    cases hx : isV x.2 with
    | true =>
      rw [hx, if_pos rfl] at h
      by_cases hs : s = x.2.nm.data.toList
      · simp only [if_pos hs] at h
        injection h with h
        exact ⟨x, by simp, hx, hs, h.symm⟩
      · simp only [if_neg hs] at h
        obtain ⟨y, hy, r⟩ := ih s v h
        exact ⟨y, by simp [hy], r⟩
    | false =>
      rw [hx, if_neg (by simp)] at h
      obtain ⟨y, hy, r⟩ := ih s v h
      exact ⟨y, by simp [hy], r⟩
theorem vm_none (l : List (Nat × Tm)) : ∀ s, vm l s = none → ∀ x, x ∈ l → isV x.2 = true → s ≠ x.2.nm.data.toList := by
  refine snoc_ind (P := fun l => ∀ s, vm l s = none → ∀ x, x ∈ l → isV x.2 = true → s ≠ x.2.nm.data.toList) ?_ ?_ l
  · intro s _ x hx; cases hx
  · intro l x ih s h y hy hv
    rw [vm_snoc] at h
    rcases List.mem_append.1 hy with hy | hy
    · refine ih s ?_ y hy hv
      cases hx : isV x.2 with
      | true =>
        rw [hx, if_pos rfl] at h
        by_cases hs : s = x.2.nm.data.toList
        · simp only [if_pos hs] at h; cases h
        · simpa only [if_neg hs] using h
      | false => rwa [hx, if_neg (by simp)] at h
    · rw [List.mem_singleton] at hy
      subst hy
      rw [hv, if_pos rfl] at h
      intro hs
      simp only [if_pos hs] at h; cases h
theorem agree_snoc {l : List (Nat × Tm)} {x : Nat × Tm} (h : agreeL l = true) (hx : isV x.2 = true → ∀ y, y ∈ l → isV y.2 = true → y.2.nm = x.2.nm → y.2.st = x.2.st) : agreeL (l ++ [x]) = true := by
  rw [agreeL_iff] at h ⊢
  intro a ha b hb h1 h2 h3
  rcases List.mem_append.1 ha with ha | ha
  · rcases List.mem_append.1 hb with hb | hb
    · exact h a ha b hb h1 h2 h3
    · rw [List.mem_singleton] at hb
      rw [hb] at h2 h3 ⊢
      exact hx h2 a ha h1 h3
  · rw [List.mem_singleton] at ha
    subst ha
    rcases List.mem_append.1 hb with hb | hb
    · exact (hx h1 b hb h2 h3.symm).symm
    · rw [List.mem_singleton] at hb
      rw [hb]
theorem toList_inj {a b : ByteArray} (h : a.data.toList = b.data.toList) : a = b := by
  cases a; cases b
  simp at h
  rw [h]

theorem toList_ext {a b : ByteArray} (h : a.toList = b.toList) : a = b := toList_inj (by rwa [Lib.toList_data, Lib.toList_data] at h)
theorem varSorts_any (t : Tm) (A : Option Addr) (c : Nat) (w : World) (hrep : TRep w.heap.size w t A) (hok : okT maxLen t) (hdp : t.depth ≤ 140737488355326) (hsize : t.size ≤ 140737488355326) :
    Calls Tryz.prog 43 #[TV t A c] w fun e w' => (∃ m, e = .returned (.tuple #[m, .bool (agreeL (t.pre 1))]) ∧ (agreeL (t.pre 1) = true → ∃ b, m = .map (some b) ∧ w.heap.size ≤ b ∧ SMap w' b t.size (vm (t.pre 1)))) ∧ Below w.heap.size w w' := by
  refine (callsIn_wide (n := 3)).1 ?_
  refine callsIn_of_wp_marks Tryz.func43 rfl trivial ?_ rfl
  simp only [Tryz.ntmps43, List.size_toArray, List.length_cons, List.length_nil, Nat.reduceAdd, Nat.reduceSub, Array.replicate_succ, Array.replicate_zero, List.push_toArray, List.append_toArray, List.nil_append, List.cons_append]
  unfold TV
  have hmm := @run_makeMap Tryz.prog
  gi_wp2_with fail
  refine ⟨trivial, (nodes_in Fence.wide _ wide_fn rfl t A c _).mono ?_⟩
  rintro e w' ⟨rfl, rfl⟩
  gi_wp2_with fail
  have W4 : Hid (∃ W4, W4 = (((((w.alloc (.cells (tcells t A c) 28)).alloc (.cells #[.map none] 80)).alloc (.cells #[.bool false] 4)).alloc (.map #[] 0)).alloc (.cells #[.map (some (w.heap.size + 1 + 1 + 1))] 80))) := ⟨_, rfl⟩
  have hr1 := Boxed.new (w.alloc (.cells (tcells t A c) 28)) 80 (.map none)
  have hr2 := Boxed.new ((w.alloc (.cells (tcells t A c) 28)).alloc (.cells #[.map none] 80)) 4 (.bool false)
  have hm0 := SMap.made (((w.alloc (.cells (tcells t A c) 28)).alloc (.cells #[.map none] 80)).alloc (.cells #[.bool false] 4))
  have hv0 := Boxed.new ((((w.alloc (.cells (tcells t A c) 28)).alloc (.cells #[.map none] 80)).alloc (.cells #[.bool false] 4)).alloc (.map #[] 0)) 80 (.map (some (w.heap.size + 1 + 1 + 1)))
  have hbx := heap_alloc_new (((((w.alloc (.cells (tcells t A c) 28)).alloc (.cells #[.map none] 80)).alloc (.cells #[.bool false] 4)).alloc (.map #[] 0)).alloc (.cells #[.map (some (w.heap.size + 1 + 1 + 1))] 80)) (.cells (tcells t A c) 28)
  replace hr1 := (((hr1.alloc (.cells #[.bool false] 4)).alloc (.map #[] 0)).alloc (.cells #[.map (some (w.heap.size + 1 + 1 + 1))] 80)).alloc (.cells (tcells t A c) 28)
  replace hr2 := ((hr2.alloc (.map #[] 0)).alloc (.cells #[.map (some (w.heap.size + 1 + 1 + 1))] 80)).alloc (.cells (tcells t A c) 28)
  replace hm0 := (hm0.kept (World.grownBy_alloc _ (.cells #[.map (some (w.heap.size + 1 + 1 + 1))] 80) none) (by simp)).kept (World.grownBy_alloc _ (.cells (tcells t A c) 28) none) (by simp)
  replace hv0 := hv0.alloc (.cells (tcells t A c) 28)
  have hB : Below w.heap.size w ((((((w.alloc (.cells (tcells t A c) 28)).alloc (.cells #[.map none] 80)).alloc (.cells #[.bool false] 4)).alloc (.map #[] 0)).alloc (.cells #[.map (some (w.heap.size + 1 + 1 + 1))] 80)).alloc (.cells (tcells t A c) 28)) := (((((((Below.refl _ _).alloc (Nat.le_refl _) _).alloc (by simp) _).alloc (by simp; omega) _).alloc (by simp; omega) _).alloc (by simp; omega) _).alloc (by simp; omega) _)
  have hsz : ((((((w.alloc (.cells (tcells t A c) 28)).alloc (.cells #[.map none] 80)).alloc (.cells #[.bool false] 4)).alloc (.map #[] 0)).alloc (.cells #[.map (some (w.heap.size + 1 + 1 + 1))] 80)).alloc (.cells (tcells t A c) 28)).heap.size = w.heap.size + 6 := by simp
  simp only [World.size_alloc] at hr1 hr2 hm0 hv0 hbx
  clear W4
  generalize ((((((w.alloc (.cells (tcells t A c) 28)).alloc (.cells #[.map none] 80)).alloc (.cells #[.bool false] 4)).alloc (.map #[] 0)).alloc (.cells #[.map (some (w.heap.size + 1 + 1 + 1))] 80)).alloc (.cells (tcells t A c) 28)) = W0 at hr1 hr2 hm0 hv0 hbx hB hsz ⊢
  refine wp_nodes w.heap.size _ t A c rfl hbx (hrep.later hB) (by omega) hok hdp rfl
    (fun pre W => ((Boxed W (w.heap.size + 1) 80 (.map none) ∧ Boxed W (w.heap.size + 1 + 1) 4 (.bool false)) ∧ Boxed W (w.heap.size + 1 + 1 + 1 + 1) 80 (.map (some (w.heap.size + 1 + 1 + 1)))) ∧ SMap W (w.heap.size + 1 + 1 + 1) pre.length (vm (pre.map Nd.pr)) ∧ agreeL (pre.map Nd.pr) = true ∧ Below w.heap.size w W)
    (fun j pre W => (Boxed W (w.heap.size + 1) 80 (.map none) ∧ Boxed W (w.heap.size + 1 + 1) 4 (.bool false)) ∧ (j = .ret ∧ agreeL (pre.map Nd.pr) = false) ∧ Below w.heap.size w W)
    (.and (.and (.and ((boxed_own _ _ _).from _) ((boxed_own _ _ _).from _)) ((boxed_own _ _ _).from _)) (.and (fun s X Y row hs hg hr => hs.kept hg (fun e => by have := (hr _ e.symm).1; omega)) (.and (ownFrom_pure _ _) (ownFrom_below (Nat.le_refl _) (by omega)))))
    (fun _ => .and (.and ((boxed_own _ _ _).from _) ((boxed_own _ _ _).from _)) (.and (ownFrom_pure _ _) (ownFrom_below (Nat.le_refl _) (by omega))))
    ⟨⟨⟨hr1, hr2⟩, hv0⟩, hm0, rfl, hB⟩
    (fun x a' W => ∃ Bx, NodeBox (w.heap.size + 1 + 1 + 1 + 1 + 1) x Bx W ∧ a' = { tmps := #[TV t A c, .pointer (some ⟨w.heap.size, 0, none⟩), .pointer (some ⟨w.heap.size + 1, 0, none⟩), .pointer (some ⟨w.heap.size + 1 + 1, 0, none⟩), .pointer (some ⟨w.heap.size + 1 + 1 + 1 + 1, 0, none⟩), undef, .pointer (some ⟨Bx, 0, none⟩), undef, undef, .map (some (w.heap.size + 1 + 1 + 1)), TV t A c, .func (.func 63) #[] #[.pointer (some ⟨w.heap.size + 1 + 1 + 1 + 1 + 1, 0, none⟩)], .int .i64 x.d, TV x.t x.A x.c, undef, undef, undef, undef, undef, undef, undef, undef, undef, undef, undef, undef, undef, undef, undef, undef, undef, undef, undef, undef, undef, undef, undef], defers := [] })
    (fun x a' s X Y row hs hg hr => by
      obtain ⟨Bx, ⟨h1, h2⟩, e⟩ := hs
      exact ⟨Bx, ⟨h1, cellsBlock_own Bx (fun _ : Unit => tcells x.t x.A x.c) 28 s X Y row h2 hg (fun r e => (hr r e).2)⟩, e⟩)
    ?assign ?body ?done ?stop
  case assign =>
    rintro l pre x W K ⟨⟨⟨i1, i2⟩, i3⟩, i4, i5, i6⟩ hK
    unfold Nd.enc TV
    gi_wp2_with fail
    have hb := i3.lt
    exact hK _ _ ((KeepsOthers.alloc _ _).from _) ((Kp.refl _ _ _).alloc i6.size _) ⟨⟨⟨i1.alloc _, i2.alloc _⟩, i3.alloc _⟩, i4.kept (World.grownBy_alloc _ _ none) (by simp), i5, i6.alloc i6.size _⟩ ⟨W.heap.size, ⟨by omega, heap_alloc_new _ _⟩, rfl⟩
  case body =>
    rintro l pre x a' W hl _ ⟨⟨⟨i1, i2⟩, i3⟩, i4, i5, i6⟩ ⟨Bx, ⟨hBx, hbX⟩, rfl⟩ hlt
    have I4 := Lib.hid i4
    have I5 := Lib.hid i5
    have I6 := Lib.hid i6
    have HX := Lib.hid hbX
    obtain ⟨⟨x0, x1, x2⟩, _⟩ := blk3 hbX
    have hws := i6.size
    clear hrep hok hB hbx hr1 hr2 hm0 hv0 hmm i4 i5 i6 hbX
    gi_wp2_with fail
    refine ⟨trivial, (CallsIn.inRound l (callsIn_wide.2 (isVariable_any x.t x.A x.c _))).mono ?_⟩
    rintro e W1 ⟨rfl, hb1⟩
    obtain ⟨⟨y0, y1, y2⟩, _⟩ := blk3 (cells_below HX.out hb1)
    replace i1 := boxed_below i1 hb1
    replace i2 := boxed_below i2 hb1
    replace i3 := boxed_below i3 hb1
    have HB1 := Lib.hid hb1
    have hnm := x.ok.nm
    have HM1 := Lib.hid (I4.out.below hb1 I4.out.lt)
    have hv1 : ∀ b, isV x.t = b → vm (pre.map Nd.pr ++ [x.pr]) = if b then (fun s => if s = x.t.nm.data.toList then some (.string x.t.st) else vm (pre.map Nd.pr) s) else vm (pre.map Nd.pr) := fun b h => by rw [vm_snoc, ← h]; rfl
    have HV := Lib.hid hv1
    have HNM := Lib.hid hnm
    clear x0 x1 x2 hb1 hv1 hnm I4
    generalize hv : isV x.t = v at *
    cases v
    · gi_wp2_with fail
      have e : (pre ++ [x]).map Nd.pr = pre.map Nd.pr ++ [x.pr] := by simp
      refine ⟨keepsFrom_below HB1.out, Kp.of_below hws HB1.out, ⟨⟨i1, i2⟩, i3⟩, ?_, ?_, I6.out.trans (HB1.out.mono hws)⟩
      · rw [e, HV.out false rfl]; exact HM1.out.mono (by simp)
      · rw [e]; exact agree_snoc I5.out (fun h => by rw [show isV x.pr.2 = false from hv] at h; cases h)
    · have hzz : (zeroValue 9).run Tryz.prog W1 = .ok (.string ⟨#[]⟩) W1 := Tryz.zeroValue9 W1
      have hlk := HM1.out.lookup Tryz.underlying80 hzz HNM.out
      clear hzz
      have c1 := i1.cell
      have c2 := i2.cell
      have c3 := i3.cell
      have f1 := i1.frozen
      have f2 := i2.frozen
      have e : (pre ++ [x]).map Nd.pr = pre.map Nd.pr ++ [x.pr] := by simp
      have HE := Lib.hid e
      clear e
      cases hf : vm (pre.map Nd.pr) x.t.nm.data.toList with
      | none =>
        rw [hf] at hlk
        simp only [Option.getD, Option.isSome] at hlk
        have HF := Lib.hid hf
        obtain ⟨W2, hup, hs2, hg2⟩ := HM1.out.update Tryz.underlying80 (by unfold maxLen; omega) HNM.out (.string x.t.st)
        have HS2 := Lib.hid hs2
        have HG2 := Lib.hid hg2
        clear hf hs2 hg2
        gi_wp2_with fail
        have h1 := HB1.out.size
        refine ⟨(keepsFrom_below HB1.out).trans (KeepsFrom.of_grownBy HG2.out (fun j e => by cases e; omega)), (Kp.of_below hws HB1.out).trans (Kp.grown HG2.out (by omega) (by omega) (by omega)), ⟨⟨boxed_grown i1 HG2.out (by omega), boxed_grown i2 HG2.out (by omega)⟩, boxed_grown i3 HG2.out (by omega)⟩, ?_, ?_, (I6.out.trans (HB1.out.mono hws)).grown HG2.out (by omega) (fun k e => by cases e; omega)⟩
        · rw [HE.out, HV.out true rfl]; simpa using HS2.out
        · rw [HE.out]; exact agree_snoc I5.out (fun _ y hy h1 h2 => absurd (by rw [h2]; rfl) (vm_none _ _ HF.out y hy h1))
      | some v =>
        obtain ⟨y, hy, hyv, hyn, rfl⟩ := vm_some _ _ _ hf
        have hyn' := toList_inj hyn
        rw [hf] at hlk
        simp only [Option.getD, Option.isSome] at hlk
        have HY := Lib.hid hy
        have HYN := Lib.hid hyn'
        clear hf hy hyn hyn'
        by_cases hst : y.2.st = x.t.st
        · have hstb : (y.2.st.toList == x.t.st.toList) = true := by rw [hst]; exact beq_self_eq_true _
          obtain ⟨W2, hup, hs2, hg2⟩ := HM1.out.update Tryz.underlying80 (by unfold maxLen; omega) HNM.out (.string x.t.st)
          have HS2 := Lib.hid hs2
          have HG2 := Lib.hid hg2
          clear hs2 hg2
          have HST := Lib.hid hst
          clear hst
          gi_wp2_with fail
          have h1 := HB1.out.size
          refine ⟨(keepsFrom_below HB1.out).trans (KeepsFrom.of_grownBy HG2.out (fun j e => by cases e; omega)), (Kp.of_below hws HB1.out).trans (Kp.grown HG2.out (by omega) (by omega) (by omega)), ⟨⟨boxed_grown i1 HG2.out (by omega), boxed_grown i2 HG2.out (by omega)⟩, boxed_grown i3 HG2.out (by omega)⟩, ?_, ?_, (I6.out.trans (HB1.out.mono hws)).grown HG2.out (by omega) (fun k e => by cases e; omega)⟩
          · rw [HE.out, HV.out true rfl]; simpa using HS2.out
          · rw [HE.out]
            refine agree_snoc I5.out (fun _ z hz h1 h2 => ?_)
            rw [(agreeL_iff _).1 I5.out z hz y HY.out h1 hyv (by rw [h2]; exact HYN.out)]
            exact HST.out
        · have hstb : (y.2.st.toList == x.t.st.toList) = false := by
            rw [beq_eq_false_iff_ne]
            intro h
            exact hst (toList_ext h)
          have HST := Lib.hid hst
          clear hst
          gi_wp2_with fail
          exact ⟨(keepsFrom_below HB1.out).trans (((KeepsOthers.setCell _ _ _).trans (KeepsOthers.setCell _ _ _)).from _), ⟨(i1.set _).other (by omega) _, (i2.other (by omega) _).set _⟩, ⟨rfl, by rw [HE.out]; exact agreeL_bad (p := pre.map Nd.pr ++ [x.pr]) (fun _ h => h) (List.mem_append.2 (.inl HY.out)) (List.mem_append.2 (.inr (List.mem_singleton.2 rfl))) hyv hv HYN.out.symm HST.out⟩, belowSet (belowSet (I6.out.trans (HB1.out.mono hws)) _ (by omega) _) _ (by omega) _⟩
  case done =>
    rintro D ys W hD hys ⟨⟨⟨i1, i2⟩, i3⟩, i4, i5, i6⟩ hK
    rw [hys] at i4 i5
    have hl := congrArg List.length hys
    rw [List.length_map, Tm.pre_length] at hl
    rw [hl] at i4
    have I4 := Lib.hid i4
    have I5 := Lib.hid i5
    have I6 := Lib.hid i6
    clear hrep hok hB hbx hr1 hr2 hm0 hv0 hmm i4 i5 i6 hys hl
    have c3 := i3.cell
    have f1 := i1.frozen
    have f2 := i2.frozen
    have c1 := i1.cell
    have c2 := i2.cell
    have HK2 := Lib.hid (keep_deferred (keep_deferred hK (w.heap.size + 1) (.map (some (w.heap.size + 1 + 1 + 1)))) (w.heap.size + 1 + 1) (.bool true))
    clear hK
    gi_wp2_with fail
    refine leave_mark HK2.out ?_
    have hc5 := (boxed_put ((i1.set (.map (some (w.heap.size + 1 + 1 + 1)))).other (by omega) (.bool true)) HK2.out).cell
    have hc6 := (boxed_put ((i2.other (by omega) (.map (some (w.heap.size + 1 + 1 + 1)))).set (.bool true)) HK2.out).cell
    refine ⟨.tuple #[.map (some (w.heap.size + 1 + 1 + 1)), .bool true], ?_, ⟨_, by rw [I5.out], fun _ => ⟨_, rfl, by omega, ?_⟩⟩, below_put (belowSet (belowSet I6.out _ (by omega) _) _ (by omega) _) (by omega) HK2.out⟩
    · simp [results, Tryz.f43, go_sem, hc5, hc6]
    · exact ((I4.out.setCell (a := ⟨w.heap.size + 1, 0, none⟩) (by show w.heap.size + 1 + 1 + 1 ≠ w.heap.size + 1; omega) _).setCell (a := ⟨w.heap.size + 1 + 1, 0, none⟩) (by show w.heap.size + 1 + 1 + 1 ≠ w.heap.size + 1 + 1; omega) _).kept (grownBy_putObj' _ D _) (fun e => by injection e with e; omega)
  case stop =>
    rintro D j pre W hD hpre ⟨⟨i1, i2⟩, ⟨rfl, i5⟩, i6⟩ hK
    have hres : agreeL (t.pre 1) = false := by
      rw [Bool.eq_false_iff]
      intro h
      rw [agreeL_iff] at h
      rw [Bool.eq_false_iff] at i5
      exact i5 ((agreeL_iff _).2 (fun x hx y hy => h x (hpre.subset hx) y (hpre.subset hy)))
    have HK := Lib.hid hK
    clear hK
    gi_wp2_with fail
    refine leave_mark HK.out ?_
    have hc5 := (boxed_put i1 HK.out).cell
    have hc6 := (boxed_put i2 HK.out).cell
    refine ⟨.tuple #[.map none, .bool false], ?_, ⟨_, by rw [hres], fun h => by rw [hres] at h; cases h⟩, below_put i6 (by omega) HK.out⟩
    simp [results, Tryz.f43, go_sem, hc5, hc6]

theorem fitsL_size {t : Tm} (h : fitsL (t.pre 1) = true) : t.size ≤ 1000 := by
  unfold fitsL at h
  rw [Tm.pre_length] at h
  simp at h
  exact h.1
theorem wellFormed_any (t : Tm) (A : Option Addr) (c : Nat) (w : World) (hrep : TRep w.heap.size w t A) (hok : okT maxLen t) (hdp : t.depth ≤ 140737488355326) :
    Calls Tryz.prog 31 #[TV t A c] w fun e w' => e = .returned (.bool (formed t)) ∧ Below w.heap.size w w' := by
  refine (callsIn_wide (n := 3)).1 ?_
  refine callsIn_of_wp_marks Tryz.func31 rfl trivial ?_ rfl
  simp only [Tryz.ntmps31, List.size_toArray, List.length_cons, List.length_nil, Nat.reduceAdd, Nat.reduceSub, Array.replicate_succ, Array.replicate_zero, List.push_toArray, List.append_toArray, List.nil_append, List.cons_append]
  unfold TV
  gi_wp2_with fail
  refine ⟨trivial, (callsIn_wide.2 (fits_any t A c _ ((hrep.later (((Below.refl _ _).alloc (Nat.le_refl _) _).alloc (by simp) _)).mono (by simp; omega)) hok hdp)).mono ?_⟩
  rintro e w1 ⟨rfl, hb1⟩
  have hbx := cells_below (Below.heap_alloc _ _ _ (by simp) |>.trans (heap_alloc_new w (.cells (tcells t A c) 28))) hb1
  have hr := boxed_below (Boxed.new (w.alloc (.cells (tcells t A c) 28)) 4 (.bool false)) hb1
  have hB := (((Below.refl w.heap.size w).alloc (Nat.le_refl _) (.cells (tcells t A c) 28)).alloc (by simp) (.cells #[.bool false] 4)).trans (hb1.mono (by simp; omega))
  have hs1 := hb1.size
  simp only [World.size_alloc] at hbx hr hs1
  have HF : Hid (∀ b, fitsL (t.pre 1) = b → formed t = (b && (t.pre 1).all (fun x => namedT x.2) && agreeL (t.pre 1))) := fun b h => by rw [← h]; rfl
  clear hb1
  generalize hf : fitsL (t.pre 1) = bf at *
  cases bf
  · obtain ⟨⟨x0, x1, x2⟩, _⟩ := blk3 hbx
    have c1 := hr.cell
    have f1 := hr.frozen
    have HB := Lib.hid hB
    clear hB hbx hrep hok
    gi_wp2_with fail
    have hc5 := (hr.set (.bool false)).cell
    refine ⟨.bool false, ?_, by rw [HF.out false rfl]; rfl, belowSet HB.out _ (by omega) _⟩
    simp [results, Tryz.f31, go_sem, hc5]
  · obtain ⟨⟨x0, x1, x2⟩, _⟩ := blk3 hbx
    have hsize := fitsL_size hf
    gi_wp2_with fail
    refine ⟨trivial, (nodes_in Fence.wide _ wide_fn rfl t A c _).mono ?_⟩
    rintro e w' ⟨rfl, rfl⟩
    clear x0 x1 x2
    gi_wp2_with fail
    have hnx := heap_alloc_new w1 (.cells (tcells t A c) 28)
    have hr0 := hr.alloc (.cells (tcells t A c) 28)
    have hbx0 := (Below.heap_alloc w1 (.cells (tcells t A c) 28) _ (Array.getElem?_eq_some_iff.1 hbx).1).trans hbx
    have hB0 := hB.alloc (by omega) (.cells (tcells t A c) 28)
    have hsz : (w1.alloc (.cells (tcells t A c) 28)).heap.size = w1.heap.size + 1 := by simp
    clear hbx hr hB
    generalize (w1.alloc (.cells (tcells t A c) 28)) = W0 at hnx hr0 hbx0 hB0 hsz ⊢
    refine wp_nodes w.heap.size _ t A c rfl hnx (hrep.later hB0) (by omega) hok hdp rfl
      (fun pre W => (Boxed W (w.heap.size + 1) 4 (.bool false) ∧ W.heap[w.heap.size]? = some (.cells (tcells t A c) 28 (0, 0))) ∧ (∀ x ∈ pre, namedT x.t = true) ∧ Below w.heap.size w W)
      (fun j pre W => Boxed W (w.heap.size + 1) 4 (.bool false) ∧ (j = .ret ∧ ∃ x ∈ pre, namedT x.t = false) ∧ Below w.heap.size w W)
      (.and (.and ((boxed_own _ _ _).from _) ((cellsBlock_own _ (fun _ => tcells t A c) _).from _)) (.and (ownFrom_pure _ _) (ownFrom_below (Nat.le_refl _) (by omega))))
      (fun _ => .and ((boxed_own _ _ _).from _) (.and (ownFrom_pure _ _) (ownFrom_below (Nat.le_refl _) (by omega))))
      ⟨⟨hr0, hbx0⟩, by simp, hB0⟩
      (fun x a' W => ∃ Bx, NodeBox (w.heap.size + 1 + 1) x Bx W ∧ a' = { tmps := #[TV t A c, .pointer (some ⟨w.heap.size, 0, none⟩), .pointer (some ⟨w.heap.size + 1, 0, none⟩), undef, .pointer (some ⟨Bx, 0, none⟩), undef, undef, TV t A c, .bool true, .bool false, TV t A c, .func (.func 63) #[] #[.pointer (some ⟨w1.heap.size, 0, none⟩)], .int .i64 x.d, TV x.t x.A x.c, undef, undef, undef, undef, undef, undef, undef, undef, undef], defers := [] })
      (fun x a' s X Y row hs hg hr => by
        obtain ⟨Bx, ⟨h1, h2⟩, e⟩ := hs
        exact ⟨Bx, ⟨h1, cellsBlock_own Bx (fun _ : Unit => tcells x.t x.A x.c) 28 s X Y row h2 hg (fun r e => (hr r e).2)⟩, e⟩)
      ?assign ?body ?done ?stop
    case assign =>
      rintro l pre x W K ⟨⟨i1, i2⟩, i3, i4⟩ hK
      unfold Nd.enc TV
      gi_wp2_with fail
      have hb := i1.lt
      exact hK _ _ ((KeepsOthers.alloc _ _).from _) ((Kp.refl _ _ _).alloc i4.size _) ⟨⟨i1.alloc _, (Below.heap_alloc _ _ _ (Array.getElem?_eq_some_iff.1 i2).1).trans i2⟩, i3, i4.alloc i4.size _⟩ ⟨W.heap.size, ⟨by omega, heap_alloc_new _ _⟩, rfl⟩
    case body =>
      rintro l pre x a' W hl _ ⟨⟨i1, i2⟩, i3, i4⟩ ⟨Bx, ⟨hBx, hbX⟩, rfl⟩ hlt
      have I2 := Lib.hid i2
      have I3 := Lib.hid i3
      have I4 := Lib.hid i4
      obtain ⟨⟨x0, x1, x2⟩, _⟩ := blk3 hbX
      have hws := i4.size
      have HNM := Lib.hid x.ok.nm
      have HST := Lib.hid x.ok.st
      clear hrep hok hB0 hbx0 hnx hr0 i2 i3 i4 hbX hf
      gi_wp2_with fail
      refine ⟨trivial, (CallsIn.inRound l (callsIn_wide.2 (wellNamed_any x.t x.A x.c _ HNM.out HST.out))).mono ?_⟩
      rintro e W1 ⟨rfl, hb1⟩
      replace i1 := boxed_below i1 hb1
      have HB1 := Lib.hid hb1
      have I2' := Lib.hid (cells_below I2.out hb1)
      clear x0 x1 x2 hb1 I2
      have c1 := i1.cell
      have f1 := i1.frozen
      generalize hv : namedT x.t = v at *
      cases v
      · gi_wp2_with fail
        exact ⟨(keepsFrom_below HB1.out).trans ((KeepsOthers.setCell _ _ _).from _), i1.set _, ⟨rfl, x, by simp, hv⟩, belowSet (I4.out.trans (HB1.out.mono hws)) _ (by omega) _⟩
      · gi_wp2_with fail
        exact ⟨keepsFrom_below HB1.out, Kp.of_below hws HB1.out, ⟨i1, I2'.out⟩, fun y hy => (List.mem_append.1 hy).elim (I3.out y) (fun h => by rw [List.mem_singleton.1 h]; exact hv), I4.out.trans (HB1.out.mono hws)⟩
    case done =>
      rintro D ys W hD hys ⟨⟨i1, i2⟩, i3, i4⟩ hK
      have hall : (t.pre 1).all (fun x => namedT x.2) = true := by
        rw [List.all_eq_true]
        intro y hy
        rw [← hys, List.mem_map] at hy
        obtain ⟨z, hz, rfl⟩ := hy
        exact i3 z hz
      have HALL := Lib.hid hall
      have I4 := Lib.hid i4
      have HK := Lib.hid hK
      obtain ⟨⟨x0, x1, x2⟩, _⟩ := blk3 i2
      have HR := Lib.hid ((hrep.later i4).mono i4.size)
      have hws := i4.size
      have HOK := Lib.hid hok
      clear hall i4 hys hrep hok hB0 hbx0 hnx hr0 i2 i3 hK
      gi_wp2_with fail
      refine ⟨trivial, (callsIn_wide.2 (varSorts_any t A c _ HR.out HOK.out hdp (by omega))).mono ?_⟩
      rintro e W1 ⟨⟨m, rfl, _⟩, hb1⟩
      replace i1 := boxed_below i1 hb1
      have HK1 := Lib.hid (cells_below HK.out hb1)
      have HB1 := Lib.hid hb1
      clear hb1
      have c1 := i1.cell
      have f1 := i1.frozen
      clear x0 x1 x2
      gi_wp2_with fail
      refine leave_mark (keep_deferred HK1.out _ _) ?_
      have hc5 := (boxed_put (i1.set (.bool (agreeL (t.pre 1)))) (keep_deferred HK1.out _ _)).cell
      refine ⟨.bool (agreeL (t.pre 1)), ?_, by rw [HF.out true rfl, HALL.out]; rfl, below_put (belowSet (I4.out.trans (HB1.out.mono hws)) _ (by omega) _) (by omega) (keep_deferred HK1.out _ _)⟩
      simp [results, Tryz.f31, go_sem, hc5]
    case stop =>
      rintro D j pre W hD hpre ⟨i1, ⟨rfl, x, hx, hxn⟩, i4⟩ hK
      have hall : (t.pre 1).all (fun x => namedT x.2) = false := by
        rw [List.all_eq_false]
        exact ⟨x.pr, hpre.subset (List.mem_map.2 ⟨x, hx, rfl⟩), by show ¬ namedT x.t = true; rw [hxn]; simp⟩
      have HALL := Lib.hid hall
      have HK := Lib.hid hK
      clear hK hall
      gi_wp2_with fail
      refine leave_mark HK.out ?_
      have hc5 := (boxed_put i1 HK.out).cell
      refine ⟨.bool false, ?_, by rw [HF.out true rfl, HALL.out]; rfl, below_put i4 (by omega) HK.out⟩
      simp [results, Tryz.f31, go_sem, hc5]
end Go.Proofs.YthbcfcbonmphfaaGreatDoor
