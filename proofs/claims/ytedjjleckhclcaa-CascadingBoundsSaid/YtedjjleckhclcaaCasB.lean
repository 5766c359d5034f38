/- Walks: entries in memory; the comparison of merge; slices.Grow of nil; slices.Concat of entries. -/
import Derived.Deep.RegionHeld3
import Derived.StillTailTactics
import Derived.Lib.AppendZerosOnto
import Derived.RangeFuncBox
import Derived.Test.YtedjjleckhclcaaCasA
namespace Go.Proofs.Ytedjjleckhclcaa
open Go.RowKit
set_option maxRecDepth 100000

def entC (L : List CE) : List Value := L.flatMap fun e => [.int .i64 e.1, .bool e.2]
theorem entC_len (L : List CE) : (entC L).length = L.length * 2 := by
  induction L with
  | nil => rfl
  | cons e L ih => simp [entC] at ih ⊢; omega
theorem entC_snoc (L : List CE) (e : CE) : entC (L ++ [e]) = entC L ++ [.int .i64 e.1, .bool e.2] := by simp [entC]
theorem entC_app (L M : List CE) : entC (L ++ M) = entC L ++ entC M := by simp [entC]
theorem entC_get : ∀ (L : List CE) (i : Nat) (e : CE), L[i]? = some e → (entC L)[i * 2]? = some (.int .i64 e.1) ∧ (entC L)[i * 2 + 1]? = some (.bool e.2)
  | [], i, e, h => by simp at h
  | a :: L, 0, e, h => by
    have : a = e := by simpa using h
    subst this
    exact ⟨rfl, rfl⟩
  | a :: L, i + 1, e, h => by
    have := entC_get L i e (by simpa using h)
    have e1 : entC (a :: L) = .int .i64 a.1 :: .bool a.2 :: entC L := rfl
    rw [e1, show (i + 1) * 2 = i * 2 + 1 + 1 by omega, List.getElem?_cons_succ, List.getElem?_cons_succ, List.getElem?_cons_succ, List.getElem?_cons_succ]
    exact this
theorem entC_one (L : List CE) : ∀ u ∈ entC L, u.oneCell' = true := by
  intro u hu
  obtain ⟨e, _, h⟩ := List.mem_flatMap.1 hu
  simp at h
  rcases h with rfl | rfl <;> rfl
theorem add_off (g off j : Nat) : ({ block := g, off := off } : Addr).add j = ⟨g, off + j, none⟩ := by
  unfold Addr.add
  split
  · simp_all
  · rfl

/-- A slice of entries reads as a list. -/
def EntsAt (n₀ : Nat) (w : World) (A : Option Addr) (L : List CE) : Prop :=
  0 < L.length → ∃ b off, A = some ⟨b, off, none⟩ ∧ b < n₀ ∧ ∀ (j : Nat) (u : Value), (entC L)[j]? = some u → w.cell? ⟨b, off + j, none⟩ = some u
/-- A slice of entries, as a value. -/
def EntsV (n₀ : Nat) (w : World) (v : Value) (L : List CE) : Prop :=
  ∃ A c, v = .slice A L.length c ∧ L.length ≤ c ∧ c ≤ maxLen ∧ (A = none → c = 0) ∧ EntsAt n₀ w A L
theorem EntsAt.keep {n₀ : Nat} {w w' : World} {A : Option Addr} {L : List CE} (h : EntsAt n₀ w A L) (hk : ∀ b o, b < n₀ → w'.cell? ⟨b, o, none⟩ = w.cell? ⟨b, o, none⟩) : EntsAt n₀ w' A L := fun hl => by
  obtain ⟨b, off, rfl, hp, hc⟩ := h hl
  exact ⟨b, off, rfl, hp, fun i x hi => (hk b _ hp).trans (hc i x hi)⟩
theorem EntsAt.below {n₀ : Nat} {w w' : World} {A : Option Addr} {L : List CE} (h : EntsAt n₀ w A L) (hb : Below n₀ w w') : EntsAt n₀ w' A L := h.keep fun b o hp => hb.cell (p := ⟨b, o, none⟩) hp
theorem EntsV.below {n₀ : Nat} {w w' : World} {v : Value} {L : List CE} (h : EntsV n₀ w v L) (hb : Below n₀ w w') : EntsV n₀ w' v L := by
  obtain ⟨A, c, rfl, h1, h2, h3, h4⟩ := h
  exact ⟨A, c, rfl, h1, h2, h3, h4.below hb⟩
theorem EntsAt.more {n₀ n₁ : Nat} (hn : n₀ ≤ n₁) {w : World} {A : Option Addr} {L : List CE} (h : EntsAt n₀ w A L) : EntsAt n₁ w A L := fun hl => by
  obtain ⟨b, off, rfl, hp, hc⟩ := h hl
  exact ⟨b, off, rfl, by omega, hc⟩
theorem EntsV.more {n₀ n₁ : Nat} (hn : n₀ ≤ n₁) {w : World} {v : Value} {L : List CE} (h : EntsV n₀ w v L) : EntsV n₁ w v L := by
  obtain ⟨A, c, rfl, h1, h2, h3, h4⟩ := h
  exact ⟨A, c, rfl, h1, h2, h3, h4.more hn⟩
theorem entsV_own {w : World} {B : Nat} {v : Value} {L : List CE} (h : w.ownsRow B 61 2 v L.length (entC L)) : EntsV w.heap.size w v L := by
  rcases h.2 with ⟨rfl, h0⟩ | ⟨g, cap, cur, rfl, hb, hg, hle, hm, hs, hx⟩
  · exact ⟨none, 0, by rw [h0], by omega, by unfold maxLen; omega, fun _ => rfl, fun hl => by omega⟩
  · refine ⟨some ⟨g, 0, none⟩, cap, rfl, hle, hm, (fun e => by cases e), fun hl => ⟨g, 0, rfl, (Array.getElem?_eq_some_iff.1 hg).1, fun j u hu => ?_⟩⟩
    have := h.cells (g := g) rfl j u hu
    rwa [add_off] at this
/-- The entry at an index. -/
theorem EntsAt.get {n₀ : Nat} {w : World} {A : Option Addr} {L : List CE} (h : EntsAt n₀ w A L) {i : Nat} {e : CE} (hi : L[i]? = some e) :
    ∃ b off, A = some ⟨b, off, none⟩ ∧ b < n₀ ∧ w.cell? ⟨b, off + i * 2, none⟩ = some (.int .i64 e.1) ∧ w.cell? ⟨b, off + (i * 2 + 1), none⟩ = some (.bool e.2) := by
  obtain ⟨b, off, rfl, hp, hc⟩ := h (by have := (List.getElem?_eq_some_iff.1 hi).1; omega)
  have := entC_get L i e hi
  exact ⟨b, off, rfl, hp, hc _ _ this.1, hc _ _ this.2⟩
/-- The rest of a slice of entries. -/
theorem EntsAt.tail {n₀ : Nat} {w : World} {b off : Nat} {e : CE} {L : List CE} (h : EntsAt n₀ w (some ⟨b, off, none⟩) (e :: L)) : EntsAt n₀ w (some ⟨b, off + 2, none⟩) L := fun _ => by
  obtain ⟨b', off', hA, hp, hc⟩ := h (by simp)
  injection hA with hA
  injection hA with e1 e2
  subst e1 e2
  refine ⟨b, off + 2, rfl, hp, fun j u hu => ?_⟩
  have := hc (j + 2) u (by
    have e1 : entC (e :: L) = .int .i64 e.1 :: .bool e.2 :: entC L := rfl
    rw [e1, List.getElem?_cons_succ, List.getElem?_cons_succ]; exact hu)
  rwa [show off + (j + 2) = off + 2 + j by omega] at this

theorem Try.infoEntry : (Try.prog.info? 61).map (fun i => (i.zero, i.size, i.bytes)) = some (some (.agg #[.int .i64 0, .bool false]), 2, 16) := by kernel_rfl

set_option maxHeartbeats 1000000 in
theorem ecmp_any (a b : CE) (w : World) : Calls Try.prog 39 #[.agg #[.int .i64 a.1, .bool a.2], .agg #[.int .i64 b.1, .bool b.2]] w fun e w' => e = .returned (.int .i64 (cmpO a.1 b.1)) ∧ Below w.heap.size w w' := by
  go_enter Try.func39, Try.ntmps39
  go_wp2_with fail
  refine (comp_any _ _ _).mono ?_
  rintro e w1 ⟨rfl, rfl⟩
  go_wp2_with fail
  go_ret
  exact ⟨rfl, ((Below.refl _ _).alloc (Nat.le_refl _) _).alloc (by simp) _⟩

set_option maxHeartbeats 2000000 in
theorem grow_none (w : World) : Calls Try.prog 45 #[.slice none 0 0, .int .i64 0] w fun e w' => e = .returned (.slice none 0 0) ∧ w = w' := by
  go_enter Try.func45, Try.ntmps45
  go_wp2_with fail
  go_ret
  exact ⟨rfl, rfl⟩
set_option maxHeartbeats 2000000 in
theorem grow_some (n : Nat) (h0 : 0 < n) (hn : n ≤ 100000) (w : World) : Calls Try.prog 45 #[.slice none 0 0, .int .i64 n] w fun e w' =>
    ∃ cap, n ≤ cap ∧ cap ≤ maxLen ∧ e = .returned (.slice (some ⟨w.heap.size, 0, none⟩) 0 cap) ∧ w'.ownsRow w.heap.size 61 2 (.slice (some ⟨w.heap.size, 0, none⟩) 0 cap) 0 [] ∧ Below w.heap.size w w' := by
  obtain ⟨i0, hi, hz0, hz1, hz2⟩ := info_parts Try.infoEntry
  have hrz : ∀ ty, (Builtin.append_ #[59, 3] ty #[.slice none 0 0, .int .i64 n]).run Try.prog w =
      .ok (.slice (some ⟨w.heap.size, 0, none⟩) n (grownCap w n 0 61)) (w.drew.alloc (.cells ((#[] : Array Value) ++ Builtin.zeroCells (Value.agg #[.int .i64 0, .bool false]).cells n ++ Builtin.zeroCells (Value.agg #[.int .i64 0, .bool false]).cells (grownCap w n 0 61 - n)) 61)) := fun ty => by
    have h := Lib.run_append_grow_zeros w 59 3 ty 61 i0 _ .i64 .i64 Try.underlying59 Try.underlying3 hi hz0 none 0 0 [] (run_firstCells_none w.drew i0.size 0 0 0) n h0 (by omega) (by omega) (by omega) (by rw [hz2]; omega)
      (by rw [Nat.zero_add]; exact growslice_fits (by omega) (by rw [hz2]; omega))
    rw [Nat.zero_add] at h
    exact h
  have hge : n ≤ grownCap w n 0 61 := grownCap_ge w _ _ _
  have hmx : grownCap w n 0 61 ≤ maxLen := grownCap_le_maxLen w n 0 61 (by unfold maxLen; omega)
  obtain ⟨G, hG⟩ : ∃ G, G = grownCap w n 0 61 := ⟨_, rfl⟩
  rw [← hG] at hrz hge hmx
  have HGE := Lib.hid hge
  have HMX := Lib.hid hmx
  have hmx' : G ≤ 9223372036854775807 := by unfold maxLen at hmx; omega
  have HO : Hid ((w.drew.alloc (.cells ((#[] : Array Value) ++ Builtin.zeroCells (Value.agg #[.int .i64 0, .bool false]).cells n ++ Builtin.zeroCells (Value.agg #[.int .i64 0, .bool false]).cells (G - n)) 61)).ownsRow w.heap.size 61 2 (.slice (some ⟨w.heap.size, 0, none⟩) 0 G) 0 []) := by
    refine World.ownsRow_made w.drew _ G (Nat.le_refl _) hmx ?_
    rw [Array.size_append, Array.size_append, size_zeroCells, size_zeroCells]
    have : (Value.agg #[.int .i64 0, .bool false]).cells.size = 2 := rfl
    rw [this]
    simp
    omega
  have HB : Hid (Below w.heap.size w (w.drew.alloc (.cells ((#[] : Array Value) ++ Builtin.zeroCells (Value.agg #[.int .i64 0, .bool false]).cells n ++ Builtin.zeroCells (Value.agg #[.int .i64 0, .bool false]).cells (G - n)) 61))) := ((Below.refl _ _).drew).alloc (Nat.le_refl _) _
  generalize (w.drew.alloc (.cells ((#[] : Array Value) ++ Builtin.zeroCells (Value.agg #[.int .i64 0, .bool false]).cells n ++ Builtin.zeroCells (Value.agg #[.int .i64 0, .bool false]).cells (G - n)) 61)) = W1 at hrz HO HB
  clear hG hge hmx hi hz0 hz1 hz2
  have hnG : (n : Int) ≤ (G : Int) := by have := HGE.out; omega
  go_enter Try.func45, Try.ntmps45
  go_wp2_with (at_builtin; refine Lib.wpList_append_run _ rfl _ _ _ _ rfl _ _ rfl rfl _ _ (hrz _) ?_)
  go_ret
  exact ⟨G, HGE.out, HMX.out, rfl, HO.out, HB.out⟩
end Go.Proofs.Ytedjjleckhclcaa
