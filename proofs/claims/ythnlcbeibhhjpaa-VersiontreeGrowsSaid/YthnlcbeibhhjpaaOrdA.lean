/- An order list in memory; walks: find, after, gap. -/
import Derived.Test.YthnlcbeibhhjpaaInts
import Derived.Test.YthnlcbeibhhjpaaOrdM
namespace Go.Proofs.Ythnlcbeibhhjpaa
open Go.RowKit
set_option maxRecDepth 100000
/-- An order list in memory. -/
structure OL (B x : Nat) (G : Option Addr) (cap made : Nat) (mv : Int) (E : List El) (W : World) : Prop where
  box : W.heap[x]? = some (.cells #[.slice G made cap, .pointer (ptrE E 0), .int .i64 E.length, .int .i64 mv] 80 (0, 0))
  row : W.ownsRow B 78 1 (.slice G made cap) made (rowE E made)
  chain : Chain 84 E W
  low : ∀ e ∈ E, B ≤ e.adr ∧ e.num < made
/-- The element with a number, as a pointer. -/
def fP (E : List El) (i : Int) : Option Addr := if i < 0 then none else (adrOf E i.toNat).map fun a => ⟨a, 0, none⟩
theorem rowE_len (E : List El) (made : Nat) : (rowE E made).length = made := by simp [rowE]
theorem rowE_get (E : List El) {made i : Nat} (h : i < made) : (rowE E made)[i]? = some (.pointer ((adrOf E i).map fun a => ⟨a, 0, none⟩)) := by simp [rowE, h]
set_option maxHeartbeats 1000000 in
theorem ol_find (B x cap made : Nat) (G : Option Addr) (mv : Int) (E : List El) (i : Int) (w : World) (h : OL B x G cap made mv E w) (hm : made ≤ 2000) :
    Calls Try.prog 47 #[.pointer (some ⟨x, 0, none⟩), .int .i64 i] w fun e w' => e = .returned (.pointer (fP E i)) ∧ w = w' := by
  obtain ⟨⟨c0, c1, c2, c3⟩, _, _, _, _⟩ := bk4 h.box
  by_cases h0 : i < 0
  · have d0 : decide (i < 0) = true := decide_eq_true h0
    have HE := Lib.hid (show fP E i = none by unfold fP; rw [if_pos h0])
    clear h
    go_enter Try.func47, Try.ntmps47
    go_wp2_with fail
    go_ret
    exact ⟨by rw [HE.out]; rfl, rfl⟩
  have d0 : decide (i < 0) = false := decide_eq_false h0
  obtain ⟨k, rfl⟩ : ∃ k : Nat, i = k := ⟨i.toNat, by omega⟩
  by_cases h1 : made ≤ k
  · have d1 : decide ((made : Int) ≤ (k : Int)) = true := decide_eq_true (by omega)
    have d1' : decide (made ≤ k) = true := decide_eq_true h1
    have HE := Lib.hid (show fP E (k : Int) = none by
      unfold fP
      rw [if_neg (by omega), show ((k : Int)).toNat = k by omega, adrOf_none]
      · rfl
      · intro hk
        obtain ⟨e, he, hek⟩ := List.mem_map.1 hk
        have := (h.low e he).2
        omega)
    clear h
    go_enter Try.func47, Try.ntmps47
    go_wp2_with fail
    go_ret
    exact ⟨by rw [HE.out]; rfl, rfl⟩
  have d1 : decide ((made : Int) ≤ (k : Int)) = false := decide_eq_false (by omega)
  have d1' : decide (made ≤ k) = false := decide_eq_false h1
  obtain ⟨g, cap', hv, hg, hlt⟩ := h.row.form (by omega)
  have hG : G = some ⟨g, 0, none⟩ := by injection hv
  subst hG
  have y0 := h.row.cellAt k (by omega)
  rw [rowE_get E (by omega)] at y0
  have hkm : (k : Int) < (made : Int) := by omega
  have HE := Lib.hid (show fP E (k : Int) = (adrOf E k).map fun a => ⟨a, 0, none⟩ by unfold fP; rw [if_neg (by omega), show ((k : Int)).toNat = k by omega])
  generalize (adrOf E k).map (fun a => (⟨a, 0, none⟩ : Addr)) = r at y0 HE
  clear h hv
  go_enter Try.func47, Try.ntmps47
  go_wp2_with fail
  go_ret
  exact ⟨by rw [HE.out]; rfl, rfl⟩
theorem ol_after_nil (B x cap made : Nat) (G : Option Addr) (mv : Int) (E : List El) (w : World) (h : OL B x G cap made mv E w) :
    Calls Try.prog 51 #[.pointer (some ⟨x, 0, none⟩), .pointer none] w fun e w' => e = .returned (.pointer (ptrE E 0)) ∧ w = w' := by
  obtain ⟨⟨c0, c1, c2, c3⟩, _, _, _, _⟩ := bk4 h.box
  generalize ptrE E 0 = r at c1 ⊢
  clear h
  go_enter Try.func51, Try.ntmps51
  go_wp2_with fail
  go_ret
  exact ⟨rfl, rfl⟩
theorem ol_after (B x cap made j : Nat) (G : Option Addr) (mv : Int) (E : List El) (e : El) (w : World) (h : OL B x G cap made mv E w) (hj : E[j]? = some e) :
    Calls Try.prog 51 #[.pointer (some ⟨x, 0, none⟩), .pointer (some ⟨e.adr, 0, none⟩)] w fun e w' => e = .returned (.pointer (ptrE E (j + 1))) ∧ w = w' := by
  obtain ⟨⟨c0, c1, c2, c3⟩, _, _, _, _⟩ := bk4 (h.chain.el j e hj)
  generalize ptrE E (j + 1) = r at c3 ⊢
  generalize e.adr = a at c0 c1 c2 c3 ⊢
  clear h
  go_enter Try.func51, Try.ntmps51
  go_wp2_with fail
  go_ret
  exact ⟨rfl, rfl⟩
/-- The labels before and after a place. -/
def loE (E : List El) : Nat → Int
  | 0 => -1
  | k + 1 => match E[k]? with | some e => e.lab | none => -1
def hiE (E : List El) (k : Nat) : Int := match E[k]? with | some e => e.lab | none => 1099511627777
theorem ol_after_at (B x cap made k : Nat) (G : Option Addr) (mv : Int) (E : List El) (w : World) (h : OL B x G cap made mv E w) (hk : k ≤ E.length) :
    Calls Try.prog 51 #[.pointer (some ⟨x, 0, none⟩), .pointer (prvE E k)] w fun e w' => e = .returned (.pointer (ptrE E k)) ∧ w = w' := by
  cases k with
  | zero => exact ol_after_nil B x cap made G mv E w h
  | succ j =>
    have hj : E[j]? = some E[j] := List.getElem?_eq_getElem (by omega)
    show Calls Try.prog _ #[_, .pointer (ptrE E j)] w _
    rw [ptrE_some hj]
    exact ol_after B x cap made j G mv E _ w h hj
set_option maxHeartbeats 2000000 in
theorem ol_gap (B x cap made k : Nat) (G : Option Addr) (mv : Int) (E : List El) (w : World) (h : OL B x G cap made mv E w) (hk : k ≤ E.length) :
    Calls Try.prog 49 #[.pointer (some ⟨x, 0, none⟩), .pointer (prvE E k)] w fun e w' => e = .returned (.tuple #[.int .i64 (loE E k), .int .i64 (hiE E k)]) ∧ w = w' := by
  have HA := Lib.hid (ol_after_at B x cap made k G mv E w h hk)
  have hn : ∀ e, E[k]? = some e → w.cell? ⟨e.adr, 1, none⟩ = some (.int .i64 e.lab) := fun e he => (bk4 (h.chain.el k e he)).1.2.1
  have hnx : (∃ e, E[k]? = some e) ∨ E[k]? = none := by cases E[k]? <;> simp
  cases k with
  | zero =>
    have HL := Lib.hid (show loE E 0 = -1 from rfl)
    have e0 : prvE E 0 = none := rfl
    rw [e0] at HA ⊢
    rcases hnx with ⟨e, he⟩ | he
    · have x0 := hn e he
      have HH := Lib.hid (show hiE E 0 = e.lab by unfold hiE; rw [he])
      rw [ptrE_some he] at HA
      generalize e.adr = a at x0 HA
      generalize e.lab = l at x0 HH
      clear hn he e0 h
      go_enter Try.func49, Try.ntmps49
      go_wp2_with fail
      refine HA.out.mono ?_
      rintro e w1 ⟨rfl, rfl⟩
      go_wp2_with fail
      go_ret2
      exact ⟨by rw [HL.out, HH.out]; rfl, rfl⟩
    · have HH := Lib.hid (show hiE E 0 = 1099511627777 by unfold hiE; rw [he])
      have e1 : ptrE E 0 = none := by unfold ptrE; rw [he]; rfl
      rw [e1] at HA
      clear hn he e0 e1 h
      go_enter Try.func49, Try.ntmps49
      go_wp2_with fail
      refine HA.out.mono ?_
      rintro e w1 ⟨rfl, rfl⟩
      go_wp2_with fail
      go_ret2
      exact ⟨by rw [HL.out, HH.out]; rfl, rfl⟩
  | succ j =>
    have hj : E[j]? = some E[j] := List.getElem?_eq_getElem (by omega)
    have y0 := (bk4 (h.chain.el j _ hj)).1.2.1
    have HL := Lib.hid (show loE E (j + 1) = E[j].lab by show (match E[j]? with | some e => e.lab | none => -1) = _; rw [hj])
    have e0 : prvE E (j + 1) = some ⟨E[j].adr, 0, none⟩ := ptrE_some hj
    rw [e0] at HA ⊢
    generalize E[j].adr = p at y0 HA ⊢
    generalize E[j].lab = lp at y0 HL
    rcases hnx with ⟨e, he⟩ | he
    · have x0 := hn e he
      have HH := Lib.hid (show hiE E (j + 1) = e.lab by unfold hiE; rw [he])
      rw [ptrE_some he] at HA
      generalize e.adr = a at x0 HA
      generalize e.lab = l at x0 HH
      clear hn he e0 h hj
      go_enter Try.func49, Try.ntmps49
      go_wp2_with fail
      refine HA.out.mono ?_
      rintro e w1 ⟨rfl, rfl⟩
      go_wp2_with fail
      go_ret2
      exact ⟨by rw [HL.out, HH.out]; rfl, rfl⟩
    · have HH := Lib.hid (show hiE E (j + 1) = 1099511627777 by unfold hiE; rw [he])
      have e1 : ptrE E (j + 1) = none := by unfold ptrE; rw [he]; rfl
      rw [e1] at HA
      clear hn he e0 e1 h hj
      go_enter Try.func49, Try.ntmps49
      go_wp2_with fail
      refine HA.out.mono ?_
      rintro e w1 ⟨rfl, rfl⟩
      go_wp2_with fail
      go_ret2
      exact ⟨by rw [HL.out, HH.out]; rfl, rfl⟩
end Go.Proofs.Ythnlcbeibhhjpaa
