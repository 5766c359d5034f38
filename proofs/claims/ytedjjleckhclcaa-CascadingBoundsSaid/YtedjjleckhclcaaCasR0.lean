/- Walks: the reference's Lists. -/
import Derived.Test.YtedjjleckhclcaaCasQ
namespace Go.Proofs.Ytedjjleckhclcaa
open Go.RowKit
set_option maxRecDepth 100000

/-- What the loop of Lists keeps. -/
structure LInv (w : World) (M : List (List Int)) (j : Nat) (v : Value) (W : World) : Prop where
  row : ∃ row : Array Value, row.size = M.length ∧ W.heap[w.heap.size]? = some (.cells row 31 (0, 0)) ∧ ∀ i, j ≤ i → i < M.length → ∃ u, row[i]? = some u ∧ IntsV (fun b => w.heap.size < b ∧ b < W.heap.size) W u (hdk (lsts (M.drop i)))
  next : IntsV (fun b => w.heap.size < b ∧ b < W.heap.size) W v (hdk (lsts (M.drop j)))
  bel : Below w.heap.size w W
theorem intsV_up {P Q : Nat → Prop} {W W' : World} {v : Value} {L : List Int} (h : IntsV P W v L) (hk : ∀ b, P b → Q b ∧ W'.heap[b]? = W.heap[b]?) : IntsV Q W' v L :=
  (h.keep fun b o hp => World.cell?_of_block (a := ⟨b, o, none⟩) (hk b hp).2).more fun b hp => (hk b hp).1
theorem LInv.start (w : World) (M : List (List Int)) : LInv w M M.length (.slice none 0 0) (w.alloc (.cells (madeCells #[nilSl] M.length) 31)) :=
  ⟨⟨_, size_madeCells _ _, bdNew _ _, fun i h1 h2 => absurd h1 (by omega)⟩, ⟨none, 0, by simp [lsts, hdk], by simp [lsts, hdk], by decide, fun _ => rfl, by simp [lsts, hdk]; exact IntsAt.nil _ _ _⟩, (Below.refl _ _).alloc (Nat.le_refl _) _⟩
theorem LInv.lt {w W : World} {M : List (List Int)} {j : Nat} {v : Value} (h : LInv w M j v W) : w.heap.size < W.heap.size := by
  obtain ⟨row, _, h2, _⟩ := h.row
  exact (Array.getElem?_eq_some_iff.1 h2).1
theorem LInv.spot {w W W1 : World} {M : List (List Int)} {i j : Nat} {v : Value} (h : LInv w M j v W) (hb : Below W.heap.size W W1) (hi : i < M.length) : ∃ u, W1.cell? ⟨w.heap.size, i, none⟩ = some u ∧ W1.frozen? ⟨w.heap.size, i, none⟩ = false := by
  obtain ⟨row, h1, h2, _⟩ := h.row
  have h2' := (hb.block _ h.lt).trans h2
  exact ⟨row[i], by rw [cell_of_row _ _ _ _ _ _ h2']; exact Array.getElem?_eq_getElem (by omega), by simp [World.frozen?, h2']⟩
theorem LInv.store {w W W1 : World} {M : List (List Int)} {i : Nat} {v v' : Value} (h : LInv w M (i + 1) v W) (hb : Below W.heap.size W W1) (hi : i < M.length) (hv : IntsV (fun b => W.heap.size ≤ b ∧ b < W1.heap.size) W1 v' (hdk (lsts (M.drop i)))) :
    LInv w M i v' (W1.setCell ⟨w.heap.size, i, none⟩ v') := by
  obtain ⟨row, h1, h2, h3⟩ := h.row
  have hl := h.lt
  have hs := hb.size
  have h2' := (hb.block _ hl).trans h2
  have hv' : IntsV (fun b => w.heap.size < b ∧ b < (W1.setCell ⟨w.heap.size, i, none⟩ v').heap.size) (W1.setCell ⟨w.heap.size, i, none⟩ v') v' (hdk (lsts (M.drop i))) :=
    intsV_up hv fun b hp => ⟨⟨by omega, by simpa using hp.2⟩, setCell_other (by omega)⟩
  refine ⟨⟨_, by rw [Array.size_setIfInBounds]; exact h1, setCell_at h2', fun k hk hkl => ?_⟩, hv', ?_⟩
  · rw [Array.getElem?_setIfInBounds]
    by_cases hik : i = k
    · subst hik
      exact ⟨v', by rw [if_pos rfl, if_pos (by omega)], hv'⟩
    · obtain ⟨u, hu, hI⟩ := h3 k (by omega) hkl
      exact ⟨u, by rw [if_neg hik]; exact hu, intsV_up hI fun b hp => ⟨⟨hp.1, by simp; omega⟩, (setCell_other (by omega)).trans (hb.block b hp.2)⟩⟩
  · have hbb := h.bel.trans (hb.mono h.bel.size)
    exact ⟨hbb.os, hbb.tape, hbb.output, by simpa using hbb.size, fun b hb' => (setCell_other (by omega)).trans (hbb.block b hb')⟩
theorem LInv.done {w W : World} {M : List (List Int)} {v : Value} (h : LInv w M 0 v W) : RowsAt (fun b => w.heap.size ≤ b ∧ b < W.heap.size) W (some ⟨w.heap.size, 0, none⟩) ((lsts M).map fun l => l.map Prod.fst) := fun _ => by
  obtain ⟨row, h1, h2, h3⟩ := h.row
  refine ⟨_, 0, rfl, ⟨Nat.le_refl _, h.lt⟩, fun i l hi => ?_⟩
  rw [List.getElem?_map] at hi
  have hil : i < M.length := by
    rcases Nat.lt_or_ge i M.length with h | h
    · exact h
    · rw [List.getElem?_eq_none (by rw [lsts_len]; exact h)] at hi; cases hi
  have hc : M[i]? = some M[i] := List.getElem?_eq_getElem hil
  rw [lsts_get hc] at hi
  have e : hdk (lsts (M.drop i)) = l := by rw [hdk_drop hc]; simpa using hi
  obtain ⟨u, hu, A', c', rfl, g1, g2, _, g3⟩ := h3 i (Nat.zero_le _) hil
  rw [e] at hu g1 g3
  exact ⟨A', c', by rw [cell_of_row _ _ _ _ _ _ h2, Nat.zero_add]; exact hu, g1, g2, g3.more fun b hb => ⟨by omega, hb.2⟩⟩
theorem hdk_merge {M : List (List Int)} {i : Nat} {c : List Int} (h : M[i]? = some c) : mgk id c (odds (hdk (lsts (M.drop (i + 1))))) = hdk (lsts (M.drop i)) := by
  rw [hdk_drop h, aug_keys]
theorem lsts_len_drop {M : List (List Int)} (h : ∀ c ∈ M, c.length ≤ 1000) (j : Nat) : (hdk (lsts (M.drop j))).length ≤ 2000 := lsts_len_bd _ fun c hc => h c (List.mem_of_mem_drop hc)
theorem vals_take {L : List Int} {j : Nat} {x : Int} (h : L[2 * j + 1]? = some x) : vals ((odds L).take (j + 1)) = vals ((odds L).take j) ++ [.int .i64 x] := by
  rw [List.take_add_one, odds_get, h, Option.toList_some, vals_snoc]
end Go.Proofs.Ytedjjleckhclcaa
