/- Walks: Search. -/
import Derived.Test.YtedjjleckhclcaaCasJ
namespace Go.Proofs.Ytedjjleckhclcaa
open Go.RowKit
set_option maxRecDepth 100000

theorem IX.but {x g n1 : Nat} {L : List (List CE)} {c c' : Int} {W W' : World} (h : IX x g n1 L c W) (hn : n1 ≤ W.heap.size) (hb : But x W W') (hx : W'.heap[x]? = some (ixBox g L.length c')) : IX x g n1 L c' W' := by
  have hk : ∀ b o u, (b < n1 ∧ b ≠ x) → W.cell? ⟨b, o, none⟩ = some u → (b < n1 ∧ b ≠ x) ∧ W'.cell? ⟨b, o, none⟩ = some u := fun b o u hp hc =>
    ⟨hp, (World.cell?_of_block (hb.block b (by omega) (fun e => hp.2 (by injection e)))).trans hc⟩
  exact ⟨hx, h.lists.keep (fun o u hc => (hk g o u ⟨h.gn, h.gx⟩ hc).2) hk, h.gx, h.gn, h.xn⟩
/-- What the loop of Search keeps. -/
structure SInv (w : World) (x g n1 rb : Nat) (M : List (List Int)) (key : Int) (i t d : Nat) (W : World) : Prop where
  ix : IX x g n1 (lsts M) d W
  but : But x w W
  row : ∃ row : Array Value, row.size = M.length ∧ W.heap[rb]? = some (.cells row 3 (0, 0)) ∧ ∀ (j : Nat) (c : List Int), j < i → M[j]? = some c → row[j]? = some (.int .i64 (rk c key))
  t : i ≠ 0 → t = rk (hdk (lsts (M.drop i))) key / 2
  d0 : i = 0 → d = 0
  d : ∀ K, (hdk (lsts M)).length < 2 ^ K → d ≤ K + (i - 1)
  r1 : w.heap.size ≤ rb
  n : n1 ≤ w.heap.size
theorem hdk_drop {M : List (List Int)} {i : Nat} {c : List Int} (h : M[i]? = some c) : hdk (lsts (M.drop i)) = (aug c (hdk (lsts (M.drop (i + 1))))).map Prod.fst := by
  obtain ⟨hl, he⟩ := List.getElem?_eq_some_iff.1 h
  rw [List.drop_eq_getElem_cons hl, he, lsts, hdk]
theorem SInv.bd {w : World} {x g n1 rb i t d : Nat} {M : List (List Int)} {key : Int} {W : World} (h : SInv w x g n1 rb M key i t d W) (hl : ∀ c ∈ M, c.length ≤ 1000) (hi : i ≤ 32) : d ≤ 50 := by
  have := h.d 11 (by have := lsts_len_bd M hl; omega)
  omega
theorem SInv.next {w : World} {x g n1 rb i t d d' : Nat} {M : List (List Int)} {key v : Int} {W V W1 : World} {c : List Int} (h : SInv w x g n1 rb M key i t d W) (hc : M[i]? = some c) (hV : But x W V) (h1 : But x V W1) (hx : W1.heap[x]? = some (ixBox g (lsts M).length d'))
    (hv : v = rk c key) (hd : ∀ K, (hdk (lsts M)).length < 2 ^ K → d' ≤ K + i) : SInv w x g n1 rb M key (i + 1) (rk (hdk (lsts (M.drop (i + 1)))) key / 2) d' (W1.setCell ⟨rb, i, none⟩ (.int .i64 v)) := by
  obtain ⟨row, r1, r2, r3⟩ := h.row
  have hb1 := but_trans hV h1
  have hs := h.but.size
  have hn := h.n
  have hxn := h.ix.xn
  have hrb := h.r1
  have r2' : W1.heap[rb]? = some (.cells row 3 (0, 0)) := (hb1.block rb (Array.getElem?_eq_some_iff.1 r2).1 (fun e => by have : rb = x := (by injection e); omega)).trans r2
  have hset : But x w (W1.setCell ⟨rb, i, none⟩ (.int .i64 v)) := by
    have hb := but_trans h.but hb1
    exact ⟨hb.os, hb.tape, hb.output, by simpa using hb.size, fun b hb' hne => (setCell_other (by omega)).trans (hb.block b hb' hne)⟩
  have hx' : (W1.setCell ⟨rb, i, none⟩ (.int .i64 v)).heap[x]? = some (ixBox g (lsts M).length d') := (setCell_other (by omega)).trans hx
  have hk : ∀ b o u, (b < n1 ∧ b ≠ x) → W.cell? ⟨b, o, none⟩ = some u → (b < n1 ∧ b ≠ x) ∧ (W1.setCell ⟨rb, i, none⟩ (.int .i64 v)).cell? ⟨b, o, none⟩ = some u := fun b o u hp hcc =>
    ⟨hp, (World.cell?_of_block (a := ⟨b, o, none⟩) (show (W1.setCell ⟨rb, i, none⟩ (.int .i64 v)).heap[b]? = W.heap[b]? from (setCell_other (by omega)).trans (hb1.block b (by omega) (fun e => hp.2 (by injection e))))).trans hcc⟩
  refine ⟨⟨hx', h.ix.lists.keep (fun o u hcc => (hk g o u ⟨h.ix.gn, h.ix.gx⟩ hcc).2) hk, h.ix.gx, h.ix.gn, h.ix.xn⟩, hset, ⟨_, by rw [Array.size_setIfInBounds]; exact r1, setCell_at r2', fun j cj hj hcj => ?_⟩, fun _ => rfl, (fun e => by omega), fun K hK => by have := hd K hK; omega, h.r1, h.n⟩
  have hil : i < M.length := (List.getElem?_eq_some_iff.1 hc).1
  rw [Array.getElem?_setIfInBounds]
  by_cases hji : i = j
  · subst hji
    rw [hc] at hcj
    obtain rfl := Option.some.inj hcj
    rw [if_pos rfl, if_pos (by omega), hv]
  · rw [if_neg hji]
    exact r3 j cj (by omega) hcj
/-- The list at an index, in memory. -/
theorem SInv.at_ {w : World} {x g n1 rb i t d : Nat} {M : List (List Int)} {key : Int} {W : World} {c : List Int} (h : SInv w x g n1 rb M key i t d W) (hc : M[i]? = some c) :
    ∃ A1 c1 A2 c2, W.cell? ⟨g, i * 2, none⟩ = some (.slice A1 (aug c (hdk (lsts (M.drop (i + 1))))).length c1) ∧ W.cell? ⟨g, i * 2 + 1, none⟩ = some (.slice A2 ((aug c (hdk (lsts (M.drop (i + 1))))).length + 1) c2) ∧
      IntsAt (fun b => b < W.heap.size ∧ b ≠ x) W A1 ((aug c (hdk (lsts (M.drop (i + 1))))).map Prod.fst) ∧ IntsAt (fun b => b < W.heap.size ∧ b ≠ x) W A2 (tks (aug c (hdk (lsts (M.drop (i + 1)))))) := by
  have hs := h.but.size
  have hn := h.n
  obtain ⟨A1, c1, A2, c2, q1, q2, ⟨B1, e1, p1, _, _, _, i1⟩, ⟨B2, e2, p2, _, _, _, i2⟩⟩ := h.ix.lists i _ (lsts_get hc) (by rw [lsts_len]; exact (List.getElem?_eq_some_iff.1 hc).1)
  injection p1 with p1
  injection p2 with p2
  subst p1 p2
  exact ⟨A1, c1, A2, c2, q1, q2, i1.more fun b hb => ⟨by omega, hb.2⟩, i2.more fun b hb => ⟨by omega, hb.2⟩⟩
def ranks (M : List (List Int)) (key : Int) : List Int := M.map fun c => (rk c key : Int)
/-- What Search hands back. -/
def SearchPost (w : World) (x g n1 : Nat) (M : List (List Int)) (key : Int) (e : Ending) (w' : World) : Prop :=
  ∃ (rb d : Nat), e = .returned (.tuple #[.slice (some ⟨rb, 0, none⟩) M.length M.length, .int .i64 0]) ∧ IntsAt (fun b => w.heap.size ≤ b ∧ b < w'.heap.size) w' (some ⟨rb, 0, none⟩) (ranks M key) ∧ IX x g n1 (lsts M) d w' ∧ (∀ K, (hdk (lsts M)).length < 2 ^ K → d ≤ K + (M.length - 1)) ∧ But x w w'
theorem SInv.done {w : World} {x g n1 rb i t d : Nat} {M : List (List Int)} {key : Int} {W : World} (h : SInv w x g n1 rb M key i t d W) (hi : i = M.length) : SearchPost w x g n1 M key (.returned (.tuple #[.slice (some ⟨rb, 0, none⟩) M.length M.length, .int .i64 0])) W := by
  subst hi
  obtain ⟨row, r1, r2, r3⟩ := h.row
  refine ⟨rb, d, rfl, fun _ => ⟨rb, 0, rfl, ⟨h.r1, (Array.getElem?_eq_some_iff.1 r2).1⟩, fun j v hj => ?_⟩, h.ix, h.d, h.but⟩
  unfold ranks at hj
  rw [List.getElem?_map] at hj
  cases hM : M[j]? with
  | none => rw [hM] at hj; cases hj
  | some c =>
    rw [hM] at hj
    have hv : (rk c key : Int) = v := by simpa using hj
    rw [Nat.zero_add, cell_of_row _ _ _ _ _ _ r2, ← hv]
    exact r3 j c (List.getElem?_eq_some_iff.1 hM).1 hM
theorem SInv.start {w : World} {x g n1 : Nat} {M : List (List Int)} {key c0 : Int} (h : IX x g n1 (lsts M) c0 w) (hn : n1 ≤ w.heap.size) :
    SInv w x g n1 w.heap.size M key 0 0 0 ((w.setCell ⟨x, 1, none⟩ (.int .i64 0)).alloc (.cells (madeCells #[.int .i64 0] M.length) 3)) := by
  have hb1 : But x w (w.setCell ⟨x, 1, none⟩ (.int .i64 0)) := but_set _ _ _
  have hx1 : (w.setCell ⟨x, 1, none⟩ (.int .i64 0)).heap[x]? = some (ixBox g (lsts M).length 0) := setCell_at h.box
  have hs1 : (w.setCell ⟨x, 1, none⟩ (.int .i64 0)).heap.size = w.heap.size := by simp
  generalize (w.setCell ⟨x, 1, none⟩ (.int .i64 0)) = V at hb1 hx1 hs1 ⊢
  have hb2 := but_below hb1 ((Below.refl V.heap.size V).alloc (Nat.le_refl _) (.cells (madeCells #[.int .i64 0] M.length) 3))
  have hx2 := bdOld (p := .cells (madeCells #[.int .i64 0] M.length) 3) hx1
  have hnew := bdNew V (.cells (madeCells #[.int .i64 0] M.length) 3)
  rw [hs1] at hnew
  exact ⟨h.but hn hb2 hx2, hb2, ⟨_, size_madeCells _ _, hnew, fun j c hj => absurd hj (by omega)⟩, fun e => absurd rfl e, fun _ => rfl, fun K _ => by omega, Nat.le_refl _, hn⟩
end Go.Proofs.Ytedjjleckhclcaa
