/- Make: what its rounds keep. -/
import Derived.Test.YtedjjleckhclcaaCasG
namespace Go.Proofs.Ytedjjleckhclcaa
open Go.RowKit Go.Shelf
set_option maxRecDepth 100000

/-- The lists of an index that have been made. -/
def AugAt (P : Nat → Prop) (W : World) (g n : Nat) (f : Nat → Option (List CE)) : Prop :=
  ∀ (j : Nat) (l : List CE), f j = some l → j < n → ∃ A1 c1 A2 c2, W.cell? ⟨g, j * 2, none⟩ = some (.slice A1 l.length c1) ∧ W.cell? ⟨g, j * 2 + 1, none⟩ = some (.slice A2 (l.length + 1) c2) ∧
    IntsV P W (.slice A1 l.length c1) (l.map Prod.fst) ∧ IntsV P W (.slice A2 (l.length + 1) c2) (tks l)
theorem intsV_keep {P Q : Nat → Prop} {w w' : World} {v : Value} {L : List Int} (h : IntsV P w v L) (hk : ∀ b o u, P b → w.cell? ⟨b, o, none⟩ = some u → Q b ∧ w'.cell? ⟨b, o, none⟩ = some u) : IntsV Q w' v L := by
  obtain ⟨A, c, rfl, h1, h2, h3, h4⟩ := h
  refine ⟨A, c, rfl, h1, h2, h3, fun hl => ?_⟩
  obtain ⟨b, off, rfl, hp, hc⟩ := h4 hl
  obtain ⟨x, hx⟩ : ∃ x, L[0]? = some x := ⟨L[0], List.getElem?_eq_getElem hl⟩
  exact ⟨b, off, rfl, (hk b _ _ hp (hc 0 x hx)).1, fun i y hy => (hk b _ _ hp (hc i y hy)).2⟩
theorem AugAt.keep {P Q : Nat → Prop} {w w' : World} {g n : Nat} {f : Nat → Option (List CE)} (h : AugAt P w g n f) (hg : ∀ o u, w.cell? ⟨g, o, none⟩ = some u → w'.cell? ⟨g, o, none⟩ = some u)
    (hk : ∀ b o u, P b → w.cell? ⟨b, o, none⟩ = some u → Q b ∧ w'.cell? ⟨b, o, none⟩ = some u) : AugAt Q w' g n f := fun j l hj hl => by
  obtain ⟨A1, c1, A2, c2, h1, h2, h3, h4⟩ := h j l hj hl
  exact ⟨A1, c1, A2, c2, hg _ _ h1, hg _ _ h2, intsV_keep h3 hk, intsV_keep h4 hk⟩

structure MkS (X N ix g h0 n : Nat) (s : (Nat → Option (List CE)) × List Int) (W : World) : Prop where
  x : W.heap[X]? = some (.cells #[.pointer (some ⟨ix, 0, none⟩)] 25 (0, 0))
  nx : ∃ An cn, W.heap[N]? = some (.cells #[.slice An s.2.length cn] 31 (0, 0)) ∧ IntsV (fun b => h0 ≤ b ∧ b < W.heap.size) W (.slice An s.2.length cn) s.2
  box : W.heap[ix]? = some (.cells #[.slice (some ⟨g, 0, none⟩) n n, .int .i64 0] 46 (0, 0))
  row : ∃ cs : Array Value, cs.size = n * 2 ∧ W.heap[g]? = some (.cells cs 51 (0, 0))
  lists : AugAt (fun b => h0 ≤ b ∧ b < W.heap.size) W g n s.1
  size : h0 ≤ W.heap.size
theorem cells_here {W W' : World} {b o : Nat} {u : Value} (h : W.cell? ⟨b, o, none⟩ = some u) (hk : ∀ (b : Nat) (o : Obj), W.heap[b]? = some o → o.isCells = true → W'.heap[b]? = W.heap[b]?) : W'.cell? ⟨b, o, none⟩ = some u := by
  obtain ⟨ob, ho, hc⟩ := cells_of_cell h
  exact (World.cell?_of_block (hk b ob ho hc)).trans h
theorem MkS.keep {X N ix g h0 n : Nat} {s : (Nat → Option (List CE)) × List Int} {W W' : World} (h : MkS X N ix g h0 n s W) (hs : W.heap.size ≤ W'.heap.size) (hk : ∀ (b : Nat) (o : Obj), W.heap[b]? = some o → o.isCells = true → W'.heap[b]? = W.heap[b]?) : MkS X N ix g h0 n s W' := by
  obtain ⟨An, cn, n1, n2⟩ := h.nx
  obtain ⟨cs, r1, r2⟩ := h.row
  have hP : ∀ b o u, (h0 ≤ b ∧ b < W.heap.size) → W.cell? ⟨b, o, none⟩ = some u → (h0 ≤ b ∧ b < W'.heap.size) ∧ W'.cell? ⟨b, o, none⟩ = some u := fun b o u hb hc => ⟨⟨hb.1, by omega⟩, cells_here hc hk⟩
  exact ⟨(hk _ _ h.x rfl).trans h.x, ⟨An, cn, (hk _ _ n1 rfl).trans n1, intsV_keep n2 hP⟩, (hk _ _ h.box rfl).trans h.box, ⟨cs, r1, (hk _ _ r2 rfl).trans r2⟩, h.lists.keep (fun o u hc => cells_here hc hk) hP, by have := h.size; omega⟩
theorem MkS.grown {X N ix g h0 n : Nat} {s : (Nat → Option (List CE)) × List Int} {W W' : World} {row : Option Nat} (h : MkS X N ix g h0 n s W) (hg : W.grownBy W' row) (hr : ∀ r, row = some r → ∃ o : Obj, W.heap[r]? = some o ∧ o.isCells = false) : MkS X N ix g h0 n s W' :=
  h.keep hg.size fun _ _ ho hc => grownBy_keeps_cells hg hr ho hc
theorem MkS.below {X N ix g h0 n : Nat} {s : (Nat → Option (List CE)) × List Int} {W W' : World} (h : MkS X N ix g h0 n s W) (hb : Below W.heap.size W W') : MkS X N ix g h0 n s W' :=
  h.keep hb.size fun b _ ho _ => hb.block b (Array.getElem?_eq_some_iff.1 ho).1
/-- The stores of a round. -/
theorem MkS.step {X N ix g h0 n i : Nat} {s : (Nat → Option (List CE)) × List Int} {W : World} {l : List Int} {A1 A2 : Option Addr} {c1 c2 : Nat} (h : MkS X N ix g h0 n s W) (hi : i < n)
    (_hX : X < h0) (hN : N < h0) (_hix : ix < h0) (hg : g < h0) (d1 : X ≠ N) (d2 : X ≠ g) (d3 : N ≠ g) (d4 : ix ≠ g) (d5 : ix ≠ N)
    (h1 : IntsV (fun b => h0 ≤ b ∧ b < W.heap.size) W (.slice A1 (aug l s.2).length c1) ((aug l s.2).map Prod.fst)) (h2 : IntsV (fun b => h0 ≤ b ∧ b < W.heap.size) W (.slice A2 ((aug l s.2).length + 1) c2) (tks (aug l s.2))) :
    MkS X N ix g h0 n (stS s (i, l)) (((W.setCell ⟨g, i * 2, none⟩ (.slice A1 (aug l s.2).length c1)).setCell ⟨g, i * 2 + 1, none⟩ (.slice A2 ((aug l s.2).length + 1) c2)).setCell ⟨N, 0, none⟩ (.slice A1 (aug l s.2).length c1)) := by
  obtain ⟨cs, r1, r2⟩ := h.row
  obtain ⟨An, cn, n1, n2⟩ := h.nx
  have f1 := setCell_at (i := i * 2) (v := .slice A1 (aug l s.2).length c1) r2
  have f2 := setCell_at (i := i * 2 + 1) (v := .slice A2 ((aug l s.2).length + 1) c2) f1
  have hother : ∀ b, b ≠ g → b ≠ N → (((W.setCell ⟨g, i * 2, none⟩ (.slice A1 (aug l s.2).length c1)).setCell ⟨g, i * 2 + 1, none⟩ (.slice A2 ((aug l s.2).length + 1) c2)).setCell ⟨N, 0, none⟩ (.slice A1 (aug l s.2).length c1)).heap[b]? = W.heap[b]? := fun b hb hb' =>
    (setCell_other hb').trans ((setCell_other hb).trans (setCell_other hb))
  have hsz : (((W.setCell ⟨g, i * 2, none⟩ (.slice A1 (aug l s.2).length c1)).setCell ⟨g, i * 2 + 1, none⟩ (.slice A2 ((aug l s.2).length + 1) c2)).setCell ⟨N, 0, none⟩ (.slice A1 (aug l s.2).length c1)).heap.size = W.heap.size := by simp
  have hN0 : ((W.setCell ⟨g, i * 2, none⟩ (.slice A1 (aug l s.2).length c1)).setCell ⟨g, i * 2 + 1, none⟩ (.slice A2 ((aug l s.2).length + 1) c2)).heap[N]? = some (.cells #[.slice An s.2.length cn] 31 (0, 0)) := (setCell_other d3).trans ((setCell_other d3).trans n1)
  have hNN := setCell_at (i := 0) (v := .slice A1 (aug l s.2).length c1) hN0
  have hgg : (((W.setCell ⟨g, i * 2, none⟩ (.slice A1 (aug l s.2).length c1)).setCell ⟨g, i * 2 + 1, none⟩ (.slice A2 ((aug l s.2).length + 1) c2)).setCell ⟨N, 0, none⟩ (.slice A1 (aug l s.2).length c1)).heap[g]? = some (.cells ((cs.setIfInBounds (i * 2) (.slice A1 (aug l s.2).length c1)).setIfInBounds (i * 2 + 1) (.slice A2 ((aug l s.2).length + 1) c2)) 51 (0, 0)) := (setCell_other (Ne.symm d3)).trans f2
  generalize (((W.setCell ⟨g, i * 2, none⟩ (.slice A1 (aug l s.2).length c1)).setCell ⟨g, i * 2 + 1, none⟩ (.slice A2 ((aug l s.2).length + 1) c2)).setCell ⟨N, 0, none⟩ (.slice A1 (aug l s.2).length c1)) = W' at hother hsz hNN hgg ⊢
  have hP : ∀ b o u, (h0 ≤ b ∧ b < W.heap.size) → W.cell? ⟨b, o, none⟩ = some u → (h0 ≤ b ∧ b < W'.heap.size) ∧ W'.cell? ⟨b, o, none⟩ = some u := fun b o u hb hc => ⟨⟨hb.1, by omega⟩, (World.cell?_of_block (hother b (by omega) (by omega))).trans hc⟩
  have hlen : ((aug l s.2).map Prod.fst).length = (aug l s.2).length := by simp
  refine ⟨(hother X d2 d1).trans h.x, ⟨A1, c1, ?_, ?_⟩, (hother ix d4 d5).trans h.box, ⟨_, by simp [r1], hgg⟩, ?_, by rw [hsz]; exact h.size⟩
  · show W'.heap[N]? = some (.cells #[.slice A1 ((aug l s.2).map Prod.fst).length c1] 31 (0, 0))
    rw [hlen]
    exact hNN
  · show IntsV _ W' (.slice A1 ((aug l s.2).map Prod.fst).length c1) _
    rw [hlen]
    exact intsV_keep h1 hP
  · intro j m hj hjn
    simp only [stS] at hj
    by_cases hji : j = i
    · rw [if_pos hji] at hj
      obtain rfl : aug l s.2 = m := Option.some.inj hj
      subst hji
      refine ⟨A1, c1, A2, c2, ?_, ?_, intsV_keep h1 hP, intsV_keep h2 hP⟩
      · rw [cell_of_row _ _ _ _ _ _ hgg]
        simp [Array.getElem?_setIfInBounds, r1]
        omega
      · rw [cell_of_row _ _ _ _ _ _ hgg]
        simp [Array.getElem?_setIfInBounds, r1]
        omega
    · rw [if_neg hji] at hj
      obtain ⟨B1, e1, B2, e2, q1, q2, q3, q4⟩ := h.lists j m hj hjn
      refine ⟨B1, e1, B2, e2, ?_, ?_, intsV_keep q3 hP, intsV_keep q4 hP⟩
      · rw [cell_of_row _ _ _ _ _ _ r2] at q1
        rw [cell_of_row _ _ _ _ _ _ hgg, Array.getElem?_setIfInBounds, if_neg (by omega), Array.getElem?_setIfInBounds, if_neg (by omega)]
        exact q1
      · rw [cell_of_row _ _ _ _ _ _ r2] at q2
        rw [cell_of_row _ _ _ _ _ _ hgg, Array.getElem?_setIfInBounds, if_neg (by omega), Array.getElem?_setIfInBounds, if_neg (by omega)]
        exact q2

/-- An index in memory. -/
structure IX (x g n1 : Nat) (L : List (List CE)) (cmp : Int) (W : World) : Prop where
  box : W.heap[x]? = some (.cells #[.slice (some ⟨g, 0, none⟩) L.length L.length, .int .i64 cmp] 46 (0, 0))
  lists : AugAt (fun b => b < n1 ∧ b ≠ x) W g L.length (fun j => L[j]?)
  gx : g ≠ x
  gn : g < n1
  xn : x < n1
end Go.Proofs.Ytedjjleckhclcaa
