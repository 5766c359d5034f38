/- term.nodes; a range over the nodes of a term. -/
import Derived.Test.YthbcfcbonmphfaaDoorTermA
namespace Go.Proofs.YthbcfcbonmphfaaDoor
open Go.RowKit Go.Shelf
set_option maxRecDepth 100000
attribute [local go_sem] Oper.semAt_some

theorem wide_fn (f : FuncId) : Fence.wide.fn f := trivial
/-- The cells of a term's box. -/
abbrev tcells (t : Tm) (A : Option Addr) (c : Nat) : Array Value := #[.string t.nm, .string t.st, .slice A t.ks.length c]

set_option maxHeartbeats 1000000 in
theorem nodes_in (F : Fence) (n : Nat) (hF : ∀ f, F.fn f) (hro : F.round = none) (t : Tm) (A : Option Addr) (c : Nat) (w : World) :
    CallsIn F n Tryd.prog 106 #[TV t A c] w fun e w' => e = .returned (.func (.func 139) #[] #[.pointer (some ⟨w.heap.size, 0, none⟩)]) ∧ w' = w.alloc (.cells (tcells t A c) 56) := by
  refine callsIn_of_wp Tryd.func106 rfl (hF _) ?_ hro
  simp only [Tryd.ntmps106, List.size_toArray, List.length_cons, List.length_nil, Nat.reduceAdd, Nat.reduceSub, Array.replicate_succ, Array.replicate_zero, List.push_toArray, List.append_toArray, List.nil_append, List.cons_append]
  unfold TV
  gi_wp2_with fail
  go_ret
  exact ⟨rfl, rfl⟩

set_option maxHeartbeats 1000000 in
theorem nodes_stops (F : Fence) (hd : F.depth = none) (n : Nat) (hF : ∀ f, F.fn f) (hro : F.round = none) (bx n₀ n₁ : Nat) (t : Tm) (A : Option Addr) (c : Nat) (w : World)
    (hbx : w.heap[bx]? = some (.cells (tcells t A c) 56 (0, 0))) (hrep : TRep n₀ w t A) (hn₀ : n₀ ≤ w.heap.size) (hn₁ : n₁ ≤ w.heap.size) (hok : okT maxLen t) (hdp : t.depth ≤ 140737488355326) :
    SeqStopsK F n Tryd.prog 139 #[.pointer (some ⟨bx, 0, none⟩)] (Nd.enc (n₀ := n₀) (W₀ := w)) (Kp n₀ n₁) (fun xs => xs.map Nd.pr = t.pre 1) (fun xs => xs.map Nd.pr <+: t.pre 1) t.size w := by
  intro l J Jx W hW hJ hJx hY h0
  have hdd : ∀ k : Nat, (F.depth.isSome = true → 1 ≤ k) := fun k h => by rw [hd] at h; cases h
  have hsz := hW.size
  have hbW : W.heap[bx]? = some (.cells (tcells t A c) 56 (0, 0)) := (hW.block bx (Array.getElem?_eq_some_iff.1 hbx).1).trans hbx
  have hv := visit_in F hd hF hro l n₀ n₁ t.size w J Jx (fun m pre x W1 hj hl => YieldAt.anyDepth hd m (hY pre x W1 hj hl)) W.heap.size hJ t (n - 1) 1 A c [] W hrep (hW.mono hn₀) (by omega) (by omega) hok (by omega) h0 (by simp)
  obtain ⟨⟨x0, x1, x2⟩, _⟩ := blk3 hbW
  have HV := Lib.hid hv
  clear hv hY hJ hJx hW hbx hbW h0
  refine callsIn_of_wp Tryd.func139 rfl (hF _) ?_ hro
  simp only [Tryd.ntmps139, List.size_toArray, List.length_cons, List.length_nil, Nat.reduceAdd, Nat.reduceSub, Array.replicate_succ, Array.replicate_zero, List.push_toArray, List.append_toArray, List.nil_append, List.cons_append]
  gi_wp2_with fail
  refine HV.out.mono ?_
  clear HV
  rintro e W1 (⟨rfl, ⟨ys, hys, hj⟩, _⟩ | ⟨rfl, ys, hys, hx⟩)
  · gi_wp2_with fail
    go_end0
    exact ⟨⟨_, rfl⟩, .inl ⟨ys, hys, by simpa using hj⟩⟩
  · gi_wp2_with fail
    go_end0
    exact ⟨⟨_, rfl⟩, .inr ⟨ys, hys, by simpa using hx⟩⟩

/-- What a body knows of the box of the node that has come. -/
def NodeBox (n₁ : Nat) {n₀ : Nat} {W₀ : World} (x : Nd n₀ W₀) (B : Nat) (W : World) : Prop := n₁ ≤ B ∧ W.heap[B]? = some (.cells (tcells x.t x.A x.c) 56 (0, 0))
theorem cellsBlock_own {β : Type} (B : Nat) (v : β → Array Value) (t : TypeId) : Own (fun s W => W.heap[B]? = some (.cells (v s) t (0, 0))) := fun s X Y row hs hg hrow =>
  (hg.block B (Array.getElem?_eq_some_iff.1 hs).1 (fun e => by obtain ⟨o, ho, hc⟩ := hrow B e.symm; rw [hs] at ho; cases ho; cases hc)).trans hs
/-- A range over the nodes of a term. -/
theorem wp_nodes {g : Operand} {ps : Array Tmp} {assign body : Code} {Q : Exit → Act → World → Prop} {a : Act} {w : World} (n₀ bx : Nat) (t : Tm) (A : Option Addr) (c : Nat)
    (hg : a.eval g = .func (.func 139) #[] #[.pointer (some ⟨bx, 0, none⟩)]) (hbx : w.heap[bx]? = some (.cells (tcells t A c) 56 (0, 0))) (hrep : TRep n₀ w t A) (hn₀ : n₀ ≤ w.heap.size) (hok : okT maxLen t) (hdp : t.depth ≤ 140737488355326) (hps : 2 = ps.size)
    (I : List (Nd n₀ w) → World → Prop) (Ix : Code → List (Nd n₀ w) → World → Prop) (hI : OwnFrom w.heap.size I) (hIx : ∀ c, OwnFrom w.heap.size (Ix c)) (h0 : I [] w) (Ax : Nd n₀ w → Act → World → Prop) (hAx : ∀ x a', OwnFrom w.heap.size (fun (_ : Unit) W => Ax x a' W))
    (hassign : ∀ (l : Nat) (pre : List (Nd n₀ w)) (x : Nd n₀ w) (W : World) (K : Act → World → Prop), I pre W → (∀ a' W', KeepsFrom w.heap.size W W' → Kp n₀ w.heap.size W W' → I pre W' → Ax x a' W' → K a' W') →
      assign.wpIn (Fence.wide.inRound l) (3 - 1 - 1) Tryd.prog (Exit.then K (fun _ _ _ => False)) { tmps := (ps.zip x.enc).foldl (fun t (p, v) => t.setIfInBounds p v) a.tmps, defers := [] } W)
    (hbody : ∀ (l : Nat) (pre : List (Nd n₀ w)) (x : Nd n₀ w) (a' : Act) (W : World), w.heap.size ≤ l → (∃ r, W.heap[l]? = some (.loop r)) → I pre W → Ax x a' W → pre.length < t.size → body.wpIn (Fence.wide.inRound l) (3 - 1 - 1) Tryd.prog (ownPostG w.heap.size (Kp n₀ w.heap.size) I Ix (pre ++ [x]) W) a' W)
    (hdone : ∀ (D : Nat) (xs : List (Nd n₀ w)) (W : World), w.heap.size ≤ D → xs.map Nd.pr = t.pre 1 → I xs W → W.heap[D]? = some (.deferred (some [])) → Q .normal { a with defers := { target := .collected D, args := #[] } :: a.defers } W)
    (hstop : ∀ (D : Nat) (c : Code) (pre : List (Nd n₀ w)) (W : World), w.heap.size ≤ D → pre.map Nd.pr <+: t.pre 1 → Ix c pre W → W.heap[D]? = some (.deferred (some [])) → c.wpIn Fence.wide 3 Tryd.prog Q { a with defers := { target := .collected D, args := #[] } :: a.defers } W) :
    (Code.rangeFunc g ps assign body).wpIn Fence.wide 3 Tryd.prog Q a w :=
  wpIn_rangeFunc_ownH rfl (by omega) hg trivial (enters_of Tryd.func139 (by kernel_rfl) rfl)
    (nodes_stops Fence.wide rfl (3 - 1) wide_fn rfl bx n₀ w.heap.size t A c w hbx hrep hn₀ (Nat.le_refl _) hok hdp) (fun h k => h.trans k) (fun W l o o' hl h h1 h2 => Kp.put hn₀ W l o o' hl h h1 h2) (Below.refl _ _) (fun _ => hps) I Ix hI hIx h0 Ax hAx hassign hbody hdone hstop
theorem Kp.set {n₀ n₁ : Nat} (W : World) (b : Nat) (v : Value) (h0 : n₀ ≤ b) (h1 : b < n₁) : Kp n₀ n₁ W (W.setCell ⟨b, 0, none⟩ v) :=
  ⟨(Below.refl n₀ W).setCell (p := ⟨b, 0, none⟩) h0 v, fun i o hi ho _ => (Below.heap_setCell _ _ _ i (fun e => by simp at e; omega)).trans ho⟩
theorem belowSet {n₀ : Nat} {w W : World} (h : Below n₀ w W) (b : Nat) (hb : n₀ ≤ b) (v : Value) : Below n₀ w (W.setCell ⟨b, 0, none⟩ v) := h.setCell (p := ⟨b, 0, none⟩) hb v
/-- The mark is taken up at a return. -/
theorem leave_mark {fn : Func} {R : Ending → World → Prop} {tmps : Array Value} {W : World} {D : Nat} (hK : W.heap[D]? = some (.deferred (some []))) (h : LeavesIn Fence.wide 3 Tryd.prog fn tmps R [] .returning (W.putObj D (.deferred none))) :
    bodyPostM Fence.wide 3 Tryd.prog fn R .ret { tmps := tmps, defers := [{ target := .collected D, args := #[] }] } W :=
  ⟨by simp, .inl ⟨_, _, rfl, run_takeDeferred hK, h⟩⟩
theorem keep_deferred {W : World} {D : Nat} (hK : W.heap[D]? = some (.deferred (some []))) (b : Nat) (v : Value) : (W.setCell ⟨b, 0, none⟩ v).heap[D]? = some (.deferred (some [])) :=
  (KeepsOthers.setCell W ⟨b, 0, none⟩ v).same D _ hK rfl
theorem boxed_put {W : World} {B D : Nat} {t : TypeId} {v : Value} (h : Boxed W B t v) (hK : W.heap[D]? = some (.deferred (some []))) : Boxed (W.putObj D (.deferred none)) B t v :=
  h.kept (grownBy_putObj' W D _) (fun e => by
    cases e
    have := (show W.heap[B]? = _ from h).symm.trans hK
    cases this)
theorem below_put {w W : World} {D : Nat} (h : Below w.heap.size w W) (hD : w.heap.size ≤ D) (hK : W.heap[D]? = some (.deferred (some []))) : Below w.heap.size w (W.putObj D (.deferred none)) :=
  h.trans (belowK_b (w := w) (Nat.le_refl _) W D _ _ hD hK rfl rfl)
theorem Kp.grown {n₀ n₁ : Nat} {W W' : World} {b : Nat} (hg : W.grownBy W' (some b)) (h0 : n₀ ≤ b) (h1 : b < n₁) (hs : n₀ ≤ W.heap.size) : Kp n₀ n₁ W W' :=
  ⟨(Below.refl n₀ W).grown hg hs (fun k e => by cases e; exact h0), fun i o hi ho _ => (hg.block i (Array.getElem?_eq_some_iff.1 ho).1 (fun e => by cases e; omega)).trans ho⟩
theorem keepsFrom_below {B : Nat} {W W' : World} (h : Below W.heap.size W W') : KeepsFrom B W W' :=
  ⟨h.size, fun k o _ hk _ => (h.block k (Array.getElem?_eq_some_iff.1 hk).1).trans hk⟩
theorem boxed_below {W W' : World} {B : Nat} {t : TypeId} {v : Value} (h : Boxed W B t v) (hb : Below W.heap.size W W') : Boxed W' B t v := (hb.block B h.lt).trans h
theorem cells_below {W W' : World} {B : Nat} {o : Obj} (h : W.heap[B]? = some o) (hb : Below W.heap.size W W') : W'.heap[B]? = some o := (hb.block B (Array.getElem?_eq_some_iff.1 h).1).trans h
theorem boxed_grown {W W' : World} {B b : Nat} {t : TypeId} {v : Value} (h : Boxed W B t v) (hg : W.grownBy W' (some b)) (hne : B ≠ b) : Boxed W' B t v := h.kept hg (fun e => hne (by simpa using e))
theorem cell_set_other {W : World} {b : Nat} {t : TypeId} {cs : Array Value} (h : W.heap[b]? = some (.cells cs t (0, 0))) (b' : Nat) (v : Value) (hne : b ≠ b') : (W.setCell ⟨b', 0, none⟩ v).heap[b]? = some (.cells cs t (0, 0)) :=
  (Below.heap_setCell _ _ _ b (fun e => hne (by simpa using e))).trans h
end Go.Proofs.YthbcfcbonmphfaaDoor
