/- Walks: spread. -/
import Derived.OneCell
import Derived.Test.YthnlcbeibhhjpaaOrdB
namespace Go.Proofs.Ythnlcbeibhhjpaa
open Go.RowKit
set_option maxRecDepth 100000
theorem adrOf_pairs (E : List El) (i : Nat) : adrOf E i = ((E.map fun e => (e.num, e.adr)).find? fun p => p.1 == i).map Prod.snd := by
  unfold adrOf
  rw [List.find?_map, Option.map_map]
  rfl
theorem set_map {β : Type} {E : List El} {j : Nat} {e e' : El} (hj : E[j]? = some e) (f : El → β) (hf : f e' = f e) : (E.set j e').map f = E.map f := by
  apply List.ext_getElem?
  intro i
  rw [List.getElem?_map, List.getElem?_map, List.getElem?_set]
  split
  · rename_i h
    subst h
    rw [hj, if_pos (List.getElem?_eq_some_iff.1 hj).1]
    simp [hf]
  · rfl
theorem rowE_set {E : List El} {j : Nat} {e : El} (hj : E[j]? = some e) (l : Int) (made : Nat) : rowE (E.set j { e with lab := l }) made = rowE E made := by
  unfold rowE
  apply List.map_congr_left
  intro i _
  rw [adrOf_pairs, adrOf_pairs, set_map (e' := { e with lab := l }) hj (fun e => (e.num, e.adr)) rfl]
theorem OL.notEl {B x cap made : Nat} {G : Option Addr} {mv : Int} {E : List El} {W : World} (h : OL B x G cap made mv E W) {j : Nat} {e : El} (hj : E[j]? = some e) : x ≠ e.adr := fun hx => by
  have h1 := h.chain.el j e hj
  rw [← hx, h.box] at h1
  have := Option.some.inj h1
  injection this with _ h3
  exact absurd h3 (by decide)
theorem OL.rowNotEl {B x cap made : Nat} {G : Option Addr} {mv : Int} {E : List El} {W : World} (h : OL B x G cap made mv E W) {j : Nat} {e : El} (hj : E[j]? = some e) : (Value.slice G made cap).ownBlock ≠ some e.adr := fun hx => by
  rcases h.row.2 with ⟨hv, _⟩ | ⟨g, cp, cur, hv, _, hh, _⟩
  · rw [hv] at hx; cases hx
  · rw [hv] at hx
    have hg : g = e.adr := by simpa [Value.ownBlock] using hx
    have h1 := h.chain.el j e hj
    rw [← hg, hh] at h1
    have := Option.some.inj h1
    injection this with _ h3
    exact absurd h3 (by decide)
theorem OL.rowNotBox {B x cap made : Nat} {G : Option Addr} {mv : Int} {E : List El} {W : World} (h : OL B x G cap made mv E W) : (Value.slice G made cap).ownBlock ≠ some x := fun hx => by
  rcases h.row.2 with ⟨hv, _⟩ | ⟨g, cp, cur, hv, _, hh, _⟩
  · rw [hv] at hx; cases hx
  · rw [hv] at hx
    have hg : g = x := by simpa [Value.ownBlock] using hx
    have h1 := h.box
    rw [← hg, hh] at h1
    have := Option.some.inj h1
    injection this with _ h3
    exact absurd h3 (by decide)
theorem OL.setLab {B x cap made : Nat} {G : Option Addr} {mv : Int} {E : List El} {W : World} (h : OL B x G cap made mv E W) {j : Nat} {e : El} (hj : E[j]? = some e) (l : Int) :
    OL B x G cap made mv (E.set j { e with lab := l }) (W.setCell ⟨e.adr, 1, none⟩ (.int .i64 l)) := by
  refine ⟨?_, ?_, h.chain.setLab hj l, fun f hf => ?_⟩
  · rw [Below.heap_setCell _ _ _ _ (by simpa using h.notEl hj), ptrE_set hj, List.length_set]
    exact h.box
  · rw [rowE_set hj]
    exact ownsRow_setCell_other h.row (by simpa using h.rowNotEl hj) _
  · rcases List.mem_or_eq_of_mem_set hf with h1 | h1
    · exact h.low f h1
    · rw [h1]; exact h.low e (List.mem_of_getElem? hj)
theorem OL.setMoves {B x cap made : Nat} {G : Option Addr} {mv : Int} {E : List El} {W : World} (h : OL B x G cap made mv E W) (m : Int) :
    OL B x G cap made m E (W.setCell ⟨x, 3, none⟩ (.int .i64 m)) := by
  refine ⟨?_, ownsRow_setCell_other h.row (by simpa using h.rowNotBox) _, h.chain.keep fun e he => ?_, h.low⟩
  · simp only [World.setCell]
    rw [Array.getElem?_modify, if_pos rfl, h.box]
    rfl
  · obtain ⟨j, hj⟩ := List.getElem?_of_mem he
    exact Below.heap_setCell _ _ _ _ (by simpa using fun h' => h.notEl hj h'.symm)
/-- The first k labels are spread. -/
def relab (E : List El) (st : Nat) : Nat → List El
  | 0 => E
  | k + 1 => match E[k]? with
    | some e => (relab E st k).set k { e with lab := (((k + 1) * st : Nat) : Int) }
    | none => relab E st k
/-- How many labels that changes. -/
def chgE (E : List El) (st : Nat) : Nat → Nat
  | 0 => 0
  | k + 1 => chgE E st k + match E[k]? with
    | some e => if e.lab = (((k + 1) * st : Nat) : Int) then 0 else 1
    | none => 0
theorem relab_later (E : List El) (st : Nat) : ∀ k j : Nat, k ≤ j → (relab E st k)[j]? = E[j]?
  | 0, _, _ => rfl
  | k + 1, j, h => by
    unfold relab
    cases hk : E[k]? with
    | none => exact relab_later E st k j (by omega)
    | some e => rw [List.getElem?_set, if_neg (by omega)]; exact relab_later E st k j (by omega)
theorem relab_len (E : List El) (st : Nat) : ∀ k, (relab E st k).length = E.length
  | 0 => rfl
  | k + 1 => by
    unfold relab
    cases hk : E[k]? with
    | none => exact relab_len E st k
    | some e => rw [List.length_set]; exact relab_len E st k
theorem relab_same {E : List El} {st k : Nat} {e : El} (hk : E[k]? = some e) (h : e.lab = (((k + 1) * st : Nat) : Int)) : relab E st (k + 1) = relab E st k := by
  have h1 := relab_later E st k k (Nat.le_refl _)
  rw [hk] at h1
  show (match E[k]? with | some e => (relab E st k).set k { e with lab := (((k + 1) * st : Nat) : Int) } | none => relab E st k) = _
  rw [hk]
  show (relab E st k).set k { e with lab := (((k + 1) * st : Nat) : Int) } = _
  rw [← h]
  apply List.ext_getElem?
  intro i
  rw [List.getElem?_set]
  split
  · rename_i hi
    subst hi
    rw [if_pos (List.getElem?_eq_some_iff.1 h1).1, h1]
  · rfl
theorem relab_next {E : List El} {st k : Nat} {e : El} (hk : E[k]? = some e) : relab E st (k + 1) = (relab E st k).set k { e with lab := (((k + 1) * st : Nat) : Int) } := by
  show (match E[k]? with | some e => (relab E st k).set k { e with lab := (((k + 1) * st : Nat) : Int) } | none => relab E st k) = _
  rw [hk]
theorem chg_next {E : List El} {st k : Nat} {e : El} (hk : E[k]? = some e) : chgE E st (k + 1) = chgE E st k + if e.lab = (((k + 1) * st : Nat) : Int) then 0 else 1 := by
  show chgE E st k + (match E[k]? with | some e => if e.lab = (((k + 1) * st : Nat) : Int) then 0 else 1 | none => 0) = _
  rw [hk]
theorem chg_le (E : List El) (st : Nat) : ∀ k, chgE E st k ≤ k
  | 0 => Nat.le_refl _
  | k + 1 => by
    have := chg_le E st k
    unfold chgE
    cases E[k]? with
    | none => simp; omega
    | some e => simp only; split <;> omega
theorem PtrsE.set {w₀ W : World} {E : List El} {A : Option Addr} {cap : Nat} (h : PtrsE w₀ E A cap W) {a : Addr} (ha : a.block < w₀.heap.size) (u : Value) : PtrsE w₀ E A cap (W.setCell a u) := ownsRow_setCell_below h ha u
/-- Every block of another type than those of an order list is as it was. -/
def Kp (w w' : World) : Prop := ∀ (b : Nat) (cs : Array Value) (t : TypeId) (fr : Nat × Nat), w.heap[b]? = some (.cells cs t fr) → t ∉ [80, 84, 78] → w'.heap[b]? = some (.cells cs t fr)
theorem Kp.refl (w : World) : Kp w w := fun _ _ _ _ h _ => h
theorem Kp.trans {w w' w'' : World} (h : Kp w w') (h' : Kp w' w'') : Kp w w'' := fun b cs t fr hb ht => h' b cs t fr (h b cs t fr hb ht) ht
theorem Kp.drewN {w w' : World} (h : Kp w w') (n : Nat) : Kp w (w'.drewN n) := fun b cs t fr hb ht => h b cs t fr hb ht
theorem Kp.alloc {w w' : World} (h : Kp w w') (o : Obj) : Kp w (w'.alloc o) := fun b cs t fr hb ht => bdOld (h b cs t fr hb ht)
theorem Kp.below {w w' w'' : World} (h : Kp w w') (hb : Below w'.heap.size w' w'') : Kp w w'' := fun b cs t fr hx ht => bdAt (h b cs t fr hx ht) hb
theorem Kp.set {w w' : World} (h : Kp w w') {b i : Nat} {v : Value} (hb : ∀ cs t fr, w.heap[b]? = some (.cells cs t fr) → t ∈ [80, 84, 78]) : Kp w (w'.setCell ⟨b, i, none⟩ v) := fun b' cs t fr hx ht => by
  have hne : b' ≠ b := fun e => ht (hb cs t fr (e ▸ hx))
  rw [Below.heap_setCell _ _ _ _ (by simpa using hne)]
  exact h b' cs t fr hx ht
theorem Kp.grown {w w' w'' : World} {row : Option Nat} (h : Kp w w') (hg : w'.grownBy w'' row) (hb : ∀ b, row = some b → ∀ cs t fr, w.heap[b]? = some (.cells cs t fr) → t ∈ [80, 84, 78]) : Kp w w'' := fun b' cs t fr hx ht => by
  have h1 := h b' cs t fr hx ht
  rw [hg.block b' (bdLt h1) (fun e => ht (hb b' e.symm cs t fr hx))]
  exact h1
theorem OL.tBox {B x cap made : Nat} {G : Option Addr} {mv : Int} {E : List El} {W : World} (h : OL B x G cap made mv E W) (cs : Array Value) (t : TypeId) (fr : Nat × Nat) (hb : W.heap[x]? = some (.cells cs t fr)) : t ∈ [80, 84, 78] := by
  rw [h.box] at hb
  have := Option.some.inj hb
  injection this with _ h3
  rw [← h3]; simp
theorem OL.tEl {B x cap made : Nat} {G : Option Addr} {mv : Int} {E : List El} {W : World} (h : OL B x G cap made mv E W) {j : Nat} {e : El} (hj : E[j]? = some e) (cs : Array Value) (t : TypeId) (fr : Nat × Nat) (hb : W.heap[e.adr]? = some (.cells cs t fr)) : t ∈ [80, 84, 78] := by
  rw [h.chain.el j e hj] at hb
  have := Option.some.inj hb
  injection this with _ h3
  rw [← h3]; simp
theorem OL.tRow {B x cap made : Nat} {G : Option Addr} {mv : Int} {E : List El} {W : World} (h : OL B x G cap made mv E W) (b : Nat) (hr : (Value.slice G made cap).ownBlock = some b) (cs : Array Value) (t : TypeId) (fr : Nat × Nat) (hb : W.heap[b]? = some (.cells cs t fr)) : t ∈ [80, 84, 78] := by
  rcases h.row.2 with ⟨hv, _⟩ | ⟨g, cp, cur, hv, _, hh, _⟩
  · rw [hv] at hr; cases hr
  · rw [hv] at hr
    have hg : g = b := by simpa [Value.ownBlock] using hr
    rw [← hg, hh] at hb
    have := Option.some.inj hb
    injection this with _ h3
    rw [← h3]; simp
end Go.Proofs.Ythnlcbeibhhjpaa
