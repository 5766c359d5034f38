/- Small facts on rows and stores, for every layer (for a seat that does not import orderlist's texts, which have them too); no function of the program. -/
import Derived.Laws.OwnMore
import Derived.OwnWalk
import Derived.Deep.OwnRows
import Derived.BigRegion
import Derived.Deep.RegionLaw
import Derived.Carry
import Derived.Deep.DeepCutAuto
import Derived.Test.YtmlgbmfjnbhamaaApp
import Derived.Test.YtmlgbmfjnbhamaaInts
namespace Go.Proofs.Ytmlgbmfjnbhamaa
open Go.RowKit
set_option maxRecDepth 100000
theorem Try.infoInt : (Try.prog.info? 3).map (fun i => (i.zero, i.size, i.bytes)) = some (some (.int .i64 0), 1, 8) := by kernel_rfl
def slLen : Value → Nat
  | .slice _ n _ => n
  | _ => 0
theorem heap_set (W : World) (b i : Nat) (v : Value) {cs : Array Value} {t : TypeId} (h : W.heap[b]? = some (.cells cs t (0, 0))) : (W.setCell ⟨b, i, none⟩ v).heap[b]? = some (.cells (cs.setIfInBounds i v) t (0, 0)) := by
  simp [World.setCell, Array.getElem?_modify, h]
theorem heap_off {W : World} {b b' i : Nat} {v : Value} (h : b ≠ b') : (W.setCell ⟨b', i, none⟩ v).heap[b]? = W.heap[b]? := Below.heap_setCell _ _ _ _ (by simpa using h)
theorem ownsRow_heap {w w' : World} {base : Nat} {e : TypeId} {size : Nat} {v : Value} {n : Nat} {xs : List Value} (h : w.ownsRow base e size v n xs) (hb : ∀ b, v.ownBlock = some b → w'.heap[b]? = w.heap[b]?) : w'.ownsRow base e size v n xs := by
  refine ⟨h.1, ?_⟩
  rcases h.2 with hn | ⟨g, cap, cur, rfl, h1, hgg, rest⟩
  · exact .inl hn
  · exact .inr ⟨g, cap, cur, rfl, h1, (hb g rfl).trans hgg, rest⟩
/-- A list of numbers in memory that a call made, or nil. -/
def ORow (B : Nat) (w : World) (A : Option Addr) (cap : Nat) (L : List Int) : Prop := w.ownsRow B 3 1 (.slice A L.length cap) L.length (L.map (Value.int .i64))
theorem ORow.get {B : Nat} {w : World} {A : Option Addr} {cap : Nat} {L : List Int} (h : ORow B w A cap L) {k : Nat} {x : Int} (hk : L[k]? = some x) : ∃ g, A = some ⟨g, 0, none⟩ ∧ B ≤ g ∧ g < w.heap.size ∧ w.cell? ⟨g, k, none⟩ = some (.int .i64 x) := by
  have hl := (List.getElem?_eq_some_iff.1 hk).1
  obtain ⟨g, cap', hv, hg, hlt⟩ := World.ownsRow.form h (by omega)
  have hA : A = some ⟨g, 0, none⟩ := by injection hv
  subst hA
  refine ⟨g, rfl, hg, hlt, ?_⟩
  rw [World.ownsRow.cellAt h k (by omega), List.getElem?_map, hk]
  rfl
theorem ORow.below {B : Nat} {w w' : World} {A : Option Addr} {cap : Nat} {L : List Int} (h : ORow B w A cap L) (hb : Below w.heap.size w w') : ORow B w' A cap L :=
  ownsRow_heap h fun b hx => hb.block b (World.ownsRow.lt h b hx).2
theorem ORow.nil (B : Nat) (w : World) : ORow B w none 0 [] := World.ownsRow_nil _ _ _ _
theorem ORow.more {B B' : Nat} {w : World} {A : Option Addr} {cap : Nat} {L : List Int} (h : ORow B w A cap L) (hb : B' ≤ B) : ORow B' w A cap L := by
  refine ⟨h.1, ?_⟩
  rcases h.2 with hn | ⟨g, cp, cur, hv, h1, rest⟩
  · exact .inl hn
  · exact .inr ⟨g, cp, cur, hv, by omega, rest⟩
theorem ORow.len {B : Nat} {w : World} {A : Option Addr} {cap : Nat} {L : List Int} (h : ORow B w A cap L) : (A = none → L.length = 0 ∧ cap = 0) ∧ L.length ≤ cap ∧ cap ≤ maxLen := by
  rcases h.2 with ⟨hv, h0⟩ | ⟨g, cp, cur, hv, h1, _, h2, h3, _⟩
  · injection hv with h1 h2 h3
    exact ⟨fun _ => ⟨h0, h3⟩, by omega, by rw [h3]; unfold maxLen; omega⟩
  · injection hv with h1 h2 h4
    exact ⟨fun hn => (by rw [hn] at h1; cases h1), by omega, by omega⟩
theorem ORow.setOther {B : Nat} {w : World} {A : Option Addr} {cap : Nat} {L : List Int} (h : ORow B w A cap L) {b i : Nat} {v : Value} {cs : Array Value} {t : TypeId} {fr : Nat × Nat} (hb : w.heap[b]? = some (.cells cs t fr)) (ht : t ≠ 3) : ORow B (w.setCell ⟨b, i, none⟩ v) A cap L :=
  ownsRow_heap h fun g hg => heap_off fun e => by
    rcases h.2 with ⟨hv, _⟩ | ⟨g', cp, cur, hv, _, hh, _⟩
    · rw [hv] at hg; cases hg
    · rw [hv] at hg
      have hgg : g' = g := by simpa [Value.ownBlock] using hg
      rw [hgg, e, hb] at hh
      have := Option.some.inj hh
      injection this with _ h3
      exact ht h3
theorem ORow.row {B : Nat} {w : World} {A : Option Addr} {cap n : Nat} {L : List Int} (h : ORow B w A cap L) (hn : L.length = n) : w.ownsRow B 3 1 (.slice A n cap) n (L.map (Value.int .i64)) := by unfold ORow at h; rw [hn] at h; exact h
theorem ORow.of {B : Nat} {w : World} {A : Option Addr} {cap n : Nat} {L : List Int} (h : w.ownsRow B 3 1 (.slice A n cap) n (L.map (Value.int .i64))) (hn : L.length = n) : ORow B w A cap L := by unfold ORow; rw [hn]; exact h
theorem ORow.ints {B : Nat} {w : World} {A : Option Addr} {cap : Nat} {L : List Int} (h : ORow B w A cap L) : IntsAt (· < w.heap.size) w A L := intsAt_own h (fun _ _ h => h)
theorem madeZ (n : Nat) : (madeCells #[Value.int .i64 0] n).toList = (List.replicate n (0 : Int)).map (Value.int .i64) := by rw [List.map_replicate]; exact toList_madeCells_one _ _
/-- A row that make has laid. -/
theorem row_made {B b n : Nat} {W : World} (hn : n ≤ maxLen) (hb : B ≤ b) (hh : W.heap[b]? = some (.cells (madeCells #[Value.int .i64 0] n) 3 (0, 0))) : W.ownsRow B 3 1 (.slice (some ⟨b, 0, none⟩) n n) n ((List.replicate n (0 : Int)).map (Value.int .i64)) := by
  have hl : (madeCells #[Value.int .i64 0] n).size = n := by
    have := congrArg List.length (madeZ n)
    simpa using this
  exact ⟨by simp, Or.inr ⟨b, n, _, rfl, hb, hh, Nat.le_refl _, hn, by rw [hl]; omega, by rw [madeZ, List.take_of_length_le (by simp)]⟩⟩
/-- make([]int, n), an equation for the walk. -/
theorem run_mk (n : Nat) (hn : n ≤ 1000000) (W : World) : (Instr.makeSlice 23 (.int .i64 (n : Int)) (.int .i64 (n : Int))).run Try.prog W = .ok (.slice (some ⟨W.heap.size, 0, none⟩) n n) (W.alloc (.cells (madeCells #[Value.int .i64 0] n) 3)) :=
  run_make_row' (P := Try.prog) 23 3 (.int .i64 0) 8 Try.underlying23 Try.infoInt (by rfl) .i64 .i64 n (by omega) (by omega) W
end Go.Proofs.Ytmlgbmfjnbhamaa
