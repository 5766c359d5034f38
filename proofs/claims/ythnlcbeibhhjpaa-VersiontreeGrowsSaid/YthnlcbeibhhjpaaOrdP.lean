/- An order list's state; InsertAfter and Delete, whole. -/
import Derived.Test.YthnlcbeibhhjpaaOrdN
import Derived.Test.YthnlcbeibhhjpaaOrdKzn0
import Derived.Test.YthnlcbeibhhjpaaOrdKzn1
import Derived.Test.YthnlcbeibhhjpaaOrdKzs0
import Derived.Test.YthnlcbeibhhjpaaOrdKzs1
import Derived.Test.YthnlcbeibhhjpaaOrdKsn0
import Derived.Test.YthnlcbeibhhjpaaOrdKsn1
import Derived.Test.YthnlcbeibhhjpaaOrdKss0
import Derived.Test.YthnlcbeibhhjpaaOrdKss1
import Derived.Test.YthnlcbeibhhjpaaOrdL
namespace Go.Proofs.Ythnlcbeibhhjpaa
open Go.RowKit
set_option maxRecDepth 100000
/-- An order list, as its users know it. -/
structure OSt (B x made : Nat) (mv : Int) (E : List El) (w : World) : Prop where
  ol : ∃ G cap, OL B x G cap made mv E w
  asc : Asc E
  len : E.length ≤ made
  mvb : 0 ≤ mv ∧ mv ≤ 2000 * made
  box : B ≤ x
theorem OSt.drewN {B x made : Nat} {mv : Int} {E : List El} {w : World} (h : OSt B x made mv E w) (q : Nat) : OSt B x made mv E (w.drewN q) := by
  obtain ⟨⟨G, cap, h1⟩, h2, h3, h4, h5⟩ := h
  exact ⟨⟨G, cap, h1.drewN q⟩, h2, h3, h4, h5⟩
theorem OSt.below {B x made : Nat} {mv : Int} {E : List El} {w w' : World} (h : OSt B x made mv E w) (hb : Below w.heap.size w w') : OSt B x made mv E w' := by
  obtain ⟨⟨G, cap, h1⟩, h2, h3, h4, h5⟩ := h
  exact ⟨⟨G, cap, h1.below hb⟩, h2, h3, h4, h5⟩
/-- The numbers of the elements, in order. -/
def ords (E : List El) : List Int := E.map fun e => (e.num : Int)
/-- The index behind the element with the number i; 0 for -1. -/
def PosK (E : List El) (i : Int) (k : Nat) : Prop := (i = -1 ∧ k = 0) ∨ ∃ (j : Nat) (e : El), E[j]? = some e ∧ i = (e.num : Int) ∧ k = j + 1
theorem PosK.le {E : List El} {i : Int} {k : Nat} (h : PosK E i k) : k ≤ E.length := by
  rcases h with ⟨_, rfl⟩ | ⟨j, e, hj, _, rfl⟩
  · omega
  · have := (List.getElem?_eq_some_iff.1 hj).1; omega
theorem fP_none {E : List El} {i : Int} (h : i ∉ ords E) : fP E i = none := by
  unfold fP
  by_cases h0 : i < 0
  · rw [if_pos h0]
  · rw [if_neg h0, adrOf_none]
    · rfl
    · intro hm
      obtain ⟨e, he, hn⟩ := List.mem_map.1 hm
      exact h (List.mem_map.2 ⟨e, he, by show (e.num : Int) = i; rw [hn]; omega⟩)
theorem ol_insert_no (B x made : Nat) (mv : Int) (E : List El) (i : Int) (w : World) (h : OSt B x made mv E w) (hm : made ≤ 2000) (hi : i ≠ -1) (hn : i ∉ ords E) :
    Calls Try.prog 46 #[.pointer (some ⟨x, 0, none⟩), .int .i64 i] w fun e w' => e = .returned (.tuple #[.int .i64 0, .int .i64 12]) ∧ w = w' := by
  obtain ⟨G, cap, h1⟩ := h.ol
  exact ol_insert_none B x cap made G mv E i w h1 hm (fP_none hn) hi
/-- What an insertion at k leaves. -/
def InsQ (B x made : Nat) (mv : Int) (E : List El) (k : Nat) (w : World) (er : Ending) (w' : World) : Prop :=
  er = .returned (.tuple #[.int .i64 made, .int .i64 0]) ∧ (∃ a, OSt B x (made + 1) (sprM mv E k) (insE (sprE E k) k ⟨made, newL (sprE E k) k, a⟩) w') ∧ Below B w w' ∧ Kp w w'
theorem insQ_of {B x made k : Nat} {mv : Int} {E : List El} {w : World} (h : OSt B x made mv E w) (hm : made ≤ 1999) (hk : k ≤ E.length) {er : Ending} {w' : World} (hp : InsP B x made (sprM mv E k) (sprE E k) k w er w') : InsQ B x made mv E k w er w' := by
  obtain ⟨he, ⟨a, G', cap', ha, ho⟩, hb, hkp⟩ := hp
  have hl := h.len
  have := h.mvb
  have h2 := @sprM_le mv E k
  refine ⟨he, ⟨a, ⟨G', cap', ho⟩, h.asc.insert (by omega) hk, ?_, by omega, h.box⟩, hb, hkp⟩
  rw [insE_len _ _ (by rw [sprE_len]; exact hk), sprE_len]
  omega
theorem ol_insert_yes (B x made k : Nat) (mv : Int) (E : List El) (i : Int) (w : World) (h : OSt B x made mv E w) (hm : made ≤ 1999) (hk : PosK E i k) :
    Calls Try.prog 46 #[.pointer (some ⟨x, 0, none⟩), .int .i64 i] w (InsQ B x made mv E k w) := by
  refine Calls.mono ?_ fun er w' => insQ_of h hm hk.le
  obtain ⟨G, cap, h1⟩ := h.ol
  have hkl := hk.le
  have hl := h.len
  have hmv := h.mvb
  have hlo := h.asc.lo k
  have hhi := h.asc.hi k
  have hlh := h.asc.lohi k
  have hB := h.box
  by_cases hs : hiE E k - loE E k < 2
  · have e1 : sprE E k = relab E (stE E) E.length := by unfold sprE; rw [if_pos hs]
    have e2 : sprM mv E k = mv + chgE E (stE E) E.length := by unfold sprM; rw [if_pos hs]
    have hA := h.asc.spr (by omega) k
    have hg := Asc.gap (E := E) (by omega) k hkl
    have hlo1 := hA.lo k
    have hhi1 := hA.hi k
    rw [e1] at hg hlo1 hhi1
    rw [e1, e2]
    by_cases hke : k < E.length
    · have hkE : E[k]? = some E[k] := List.getElem?_eq_getElem hke
      rcases hk with ⟨rfl, rfl⟩ | ⟨j, e, hj, rfl, rfl⟩
      · exact ol_ins_zs1 B x cap made G mv E w h1 (by omega) hB _ hkE (by omega) (by omega) (stE E) rfl _ rfl hs hlo.1 hhi.2 (by omega) hg hlo1.1 hhi1.2
      · exact ol_ins_ss1 B x cap made G mv E w h1 (by omega) hB j e hj _ hkE (by omega) (by omega) (stE E) rfl _ rfl hs hlo.1 hhi.2 (by omega) hg hlo1.1 hhi1.2
    · rcases hk with ⟨rfl, rfl⟩ | ⟨j, e, hj, rfl, rfl⟩
      · exact ol_ins_zn1 B x cap made G mv E w h1 (by omega) hB (by omega) (by omega) (by omega) (stE E) rfl _ rfl hs hlo.1 hhi.2 (by omega) hg hlo1.1 hhi1.2
      · exact ol_ins_sn1 B x cap made G mv E w h1 (by omega) hB j e hj (by omega) (by omega) (by omega) (stE E) rfl _ rfl hs hlo.1 hhi.2 (by omega) hg hlo1.1 hhi1.2
  · have e1 : sprE E k = E := by unfold sprE; rw [if_neg hs]
    have e2 : sprM mv E k = mv := by unfold sprM; rw [if_neg hs]
    rw [e1, e2]
    by_cases hke : k < E.length
    · have hkE : E[k]? = some E[k] := List.getElem?_eq_getElem hke
      rcases hk with ⟨rfl, rfl⟩ | ⟨j, e, hj, rfl, rfl⟩
      · exact ol_ins_zs0 B x cap made G mv E w h1 (by omega) hB _ hkE (by omega) (by omega) (by omega) hlo.1 hhi.2
      · exact ol_ins_ss0 B x cap made G mv E w h1 (by omega) hB j e hj _ hkE (by omega) (by omega) (by omega) hlo.1 hhi.2
    · rcases hk with ⟨rfl, rfl⟩ | ⟨j, e, hj, rfl, rfl⟩
      · exact ol_ins_zn0 B x cap made G mv E w h1 (by omega) hB (by omega) (by omega) (by omega) (by omega) hlo.1 hhi.2
      · exact ol_ins_sn0 B x cap made G mv E w h1 (by omega) hB j e hj (by omega) (by omega) (by omega) (by omega) hlo.1 hhi.2
/-- What a deletion at j leaves. -/
def DelQ (B x made : Nat) (mv : Int) (E : List El) (j : Nat) (w : World) (er : Ending) (w' : World) : Prop :=
  er = .returned (.int .i64 0) ∧ OSt B x made mv (E.eraseIdx j) w' ∧ Below B w w' ∧ Kp w w'
end Go.Proofs.Ythnlcbeibhhjpaa
