/- What the rows' condition on the laid table gives the walks; a slice of bools that came in. -/
import Derived.Lib.LaidTab
import Derived.Deep.Grids
import Derived.LaidMore
import Derived.OpenShut
import Derived.Stop.Joined
import Derived.Stop.LaidErr
import Derived.SevenTiedAt
import Derived.Test.YtakaadoppijeaaaDoorRows
import Derived.Test.YtakaadoppijeaaaDoorBvY
namespace Go.Proofs.YtakaadoppijeaaaDoor
set_option maxRecDepth 100000
open Go.ChangeShapes Go.WideShapes Go.ChangeAt Go.WideMaps Go.WideElems Go.RowKit
theorem Tryd.own : ownKnob Tryd.prog.godebug = none := by kernel_rfl
theorem Tryd.laidOut : laidOutB Tryd.prog = true := by kernel_rfl
/-- The library's table, by the name that the seat's rows give. -/
def tabName : String := Rows.bitvectorMakesRow.named.headD ""
theorem gTab : Tryd.prog.globalNamed tabName = some 0 := by kernel_rfl
theorem tTab : (Tryd.prog.globals[0]?).map (·.type) = some 64 := by kernel_rfl
theorem tab_eq : Rows.bitvectorMakesRow.laid = [(tabName, Lib.tabData .u8 (Lib.deBruijn64tab.map fun n : Nat => (n : Int)))] := by kernel_rfl
/-- What the condition on the listed variables gives the walks. -/
theorem tab_of_laid {W : World} (h : laidMetH Tryd.prog Rows.bitvectorMakesRow.laid W) : TabAt W := by
  rw [MakeChecks.laidMetH_plain _ _ _ (by kernel_rfl)] at h
  rw [tab_eq] at h
  have ht := Lib.tabIs_of_head gTab tTab Tryd.underlying64 Tryd.underlying5 (by kernel_rfl) (by kernel_rfl) h
  intro j hj
  rw [ht.cell gTab j (by rw [List.length_map]; exact hj)]
  have : (Lib.deBruijn64tab.map fun n : Nat => (n : Int)).getD j 0 = ((Lib.deBruijn64tab.getD j 0 : Nat) : Int) := by
    rw [List.getD_eq_getElem?_getD, List.getElem?_map, List.getD_eq_getElem?_getD]
    cases Lib.deBruijn64tab[j]? <;> rfl
  rw [this]
/-- The door's own heap meets the condition. -/
theorem door_met (os : Os) (args : Array Value) : laidMetH Tryd.prog Rows.bitvectorMakesRow.laid ((World.doorLaid Tryd.prog 400 os).forCall (fun _ _ => 0) ⟨#[], args, []⟩).memory :=
  laidMetH_of_parts3 (fuel := 8) (laidMet_of_run' 8 (by kernel_rfl) (by kernel_rfl)) (by kernel_rfl) (by kernel_rfl)
theorem cell_ltB {w : World} {a : Addr} {v : Value} (h : w.cell? a = some v) : a.block < w.heap.size ∧ a = ⟨a.block, a.off, none⟩ := by
  unfold World.cell? at h
  split at h
  · rename_i c e f hc
    refine ⟨(Array.getElem?_eq_some_iff.1 hc).1, ?_⟩
    split at h
    · cases h
    · rename_i hs
      cases a with
      | mk b o s =>
        cases s with
        | none => rfl
        | some x => simp at hs
  · cases h
theorem add_atB {a : Addr} (h : a = ⟨a.block, a.off, none⟩) (n : Nat) : a.add n = ⟨a.block, a.off + n, none⟩ := by
  unfold Addr.add
  split
  · subst_vars; exact h
  · rfl
/-- A slice of bools that came in. -/
theorem bools_open {H : Type} {enc : TypeId × Value → H} {W : World} {base : Nat} {v : Value} {d : DataW H} {p : List MemPlace} (hv : Value.okWide Tryd.prog W .any base 22 v) (h : DataW.Trod enc Tryd.prog W 0 (fun _ => true) true 22 v d p) :
    ∃ (A : Option Addr) (cp : Nat) (L : List Bool), v = .slice A L.length cp ∧ L.length ≤ maxLen ∧ BitsAt (· < W.heap.size) W A L := by
  obtain ⟨a0, len0, cap0, rfl⟩ := okWide_slice Tryd.underlying22 hv
  obtain ⟨fuel, hf⟩ := h
  rcases Go.Deep.open_bools Tryd.underlying22 Tryd.underlying4 (by kernel_rfl) hf with ⟨hc, _⟩ | ⟨a, len, cap, B, hc, _, hl, hm, _, hx⟩
  · simp [Value.cells] at hc
    obtain ⟨rfl, rfl, rfl⟩ := hc
    exact ⟨none, 0, [], rfl, Nat.zero_le _, fun h => absurd h (by simp)⟩
  · simp [Value.cells] at hc
    obtain ⟨rfl, rfl, rfl⟩ := hc
    have hlen : ((List.range len0).map B).length = len0 := by simp
    refine ⟨some a, cap0, (List.range len0).map B, by rw [hlen], by omega, fun h0 => ?_⟩
    rw [hlen] at h0
    have ha := cell_ltB (hx 0 (by omega))
    have ha1 := add_atB (a := a)
    have hae : a = ⟨a.block, a.off, none⟩ := by
      have := ha.2
      obtain ⟨b, o, s⟩ := a
      cases s with
      | none => rfl
      | some x => simp [Addr.add] at this
    refine ⟨a.block, a.off, by rw [← hae], ?_, fun i x hi => ?_⟩
    · have := ha.1; rw [add_atB hae] at this; exact this
    · rw [List.getElem?_map] at hi
      have hil : i < len0 := by
        rcases Nat.lt_or_ge i len0 with h | h
        · exact h
        · rw [List.getElem?_eq_none (by simpa using h)] at hi; cases hi
      rw [List.getElem?_range hil] at hi
      have hi' : B i = x := by simpa using hi
      rw [← add_atB hae, hx i (by omega), hi']
end Go.Proofs.YtakaadoppijeaaaDoor
