/- The law's play. -/
import Derived.Test.YtbmaijkpcpbgjaaOrdV
import Derived.Test.YtbmaijkpcpbgjaaOrdO
namespace Go.Proofs.Ytbmaijkpcpbgjaa
open Go.RowKit
set_option maxRecDepth 100000
theorem OL.setOther {B x cap made : Nat} {G : Option Addr} {mv : Int} {E : List El} {W : World} (h : OL B x G cap made mv E W) {b i : Nat} {v : Value} {cs : Array Value} {t : TypeId} {fr : Nat × Nat} (hb : W.heap[b]? = some (.cells cs t fr)) (ht : t ∉ [60, 64, 58]) : OL B x G cap made mv E (W.setCell ⟨b, i, none⟩ v) := by
  have hx : x ≠ b := fun e => ht (h.tBox cs t fr (e ▸ hb))
  refine ⟨(heap_off hx).trans h.box, ownsRow_heap h.row fun g hg => heap_off fun e => ht (h.tRow g hg cs t fr (e ▸ hb)), h.chain.keep fun e he => ?_, h.low⟩
  obtain ⟨j, hj⟩ := List.getElem?_of_mem he
  exact heap_off fun e' => ht (h.tEl hj cs t fr (e' ▸ hb))
theorem OSt.setOther {B x made : Nat} {mv : Int} {E : List El} {W : World} (h : OSt B x made mv E W) {b i : Nat} {v : Value} {cs : Array Value} {t : TypeId} {fr : Nat × Nat} (hb : W.heap[b]? = some (.cells cs t fr)) (ht : t ∉ [60, 64, 58]) : OSt B x made mv E (W.setCell ⟨b, i, none⟩ v) := by
  obtain ⟨⟨G, cap, h1⟩, h2, h3, h4, h5⟩ := h
  exact ⟨⟨G, cap, h1.setOther hb ht⟩, h2, h3, h4, h5⟩
theorem ORow.setOther {B : Nat} {w : World} {A : Option Addr} {cap : Nat} {L : List Int} (h : ORow B w A cap L) {b i : Nat} {v : Value} {cs : Array Value} {t : TypeId} {fr : Nat × Nat} (hb : w.heap[b]? = some (.cells cs t fr)) (ht : t ≠ 3) : ORow B (w.setCell ⟨b, i, none⟩ v) A cap L :=
  ownsRow_heap h fun g hg => heap_off fun e => by
    rcases h.2 with ⟨hv, _⟩ | ⟨g', cp, cur, hv, _, hh, _⟩
    · rw [hv] at hg; cases hg
    · rw [hv] at hg
      have hgg : g' = g := by simpa [Value.ownBlock] using hg
      rw [hgg, e, hb] at hh
      have := Option.some.inj hh
      injection this with _ h3
      exact ht h3
theorem OSt.nums {B x made : Nat} {mv : Int} {E : List El} {W : World} (h : OSt B x made mv E W) : (E.map El.num).Nodup := by
  obtain ⟨_, _, h1⟩ := h.ol
  exact h1.chain.nums
/-- Steps that came in. -/
def StepsAt (n0 : Nat) (w : World) (A : Option Addr) (S : List (Bool × Int)) : Prop :=
  0 < S.length → ∃ b off, A = some ⟨b, off, none⟩ ∧ b < n0 ∧ ∀ (i : Nat) (s : Bool × Int), S[i]? = some s → w.cell? ⟨b, off + i * 2, none⟩ = some (.bool s.1) ∧ w.cell? ⟨b, off + i * 2 + 1, none⟩ = some (.int .i64 s.2)
theorem StepsAt.below {n0 : Nat} {w w' : World} {A : Option Addr} {S : List (Bool × Int)} (h : StepsAt n0 w A S) (hb : Below n0 w w') : StepsAt n0 w' A S := fun hl => by
  obtain ⟨b, off, rfl, hp, hc⟩ := h hl
  exact ⟨b, off, rfl, hp, fun i s hi => ⟨(hb.cell (p := ⟨b, _, none⟩) hp).trans (hc i s hi).1, (hb.cell (p := ⟨b, _, none⟩) hp).trans (hc i s hi).2⟩⟩
/-- A list and its reference, at the head of a round. -/
structure PSt (B br x bm k made : Nat) (mv : Int) (E : List El) (A : Option Addr) (cap : Nat) (w wr : World) : Prop where
  ost : OSt B x made mv E wr
  few : Few made mv E
  lek : made ≤ k
  bx : wr.heap[bm]? = some (.cells #[.slice A E.length cap, .int .i64 made] 27 (0, 0))
  rs : wr.heap[br]? = some (.cells #[.slice none 0 0, .int .i64 0] 27 (0, 0))
  row : ORow B wr A cap (ords E)
  bel : Below B w wr
/-- What a step leaves: the new list of the reference is in its box. -/
theorem PSt.step {B br x bm made0 k' made' : Nat} {v0 : Value} {mv' : Int} {E' : List El} {A' : Option Addr} {cap' : Nat} {w w1 w2 : World}
    (ho1 : OSt B x made' mv' E' w1) (hbx : w1.heap[bm]? = some (.cells #[v0, .int .i64 made0] 27 (0, 0))) (hrs : w1.heap[br]? = some (.cells #[.slice none 0 0, .int .i64 0] 27 (0, 0)))
    (hb1 : Below B w w1) (hB : B ≤ w1.heap.size) (hb2 : Below w1.heap.size w1 w2)
    (hf : Few made' mv' E') (hmk : made' ≤ k') (hr : ORow B w2 A' cap' (ords E')) (hbm : B ≤ bm) (hne : br ≠ bm) {n' : Nat} (hn' : E'.length = n') (o2 : Obj) :
    PSt B br x bm k' made' mv' E' A' cap' w (((w2.setCell ⟨bm, 0, none⟩ (.slice A' n' cap')).setCell ⟨bm, 1, none⟩ (.int .i64 made')).alloc o2) := by
  have hx2 := bdAt hbx hb2
  have hr2 := bdAt hrs hb2
  have ht : 27 ∉ [60, 64, 58] := by decide
  have h1 := heap_set w2 bm 0 (.slice A' n' cap') hx2
  have h2 := heap_set (w2.setCell ⟨bm, 0, none⟩ (.slice A' n' cap')) bm 1 (.int .i64 made') h1
  subst hn'
  refine ⟨?_, hf, hmk, bdOld h2, bdOld ((heap_off hne).trans ((heap_off hne).trans hr2)), ?_, ?_⟩
  · exact (((ho1.below hb2).setOther hx2 ht).setOther h1 ht).below ((Below.refl _ _).alloc (Nat.le_refl _) _)
  · exact ((hr.setOther hx2 (by decide)).setOther h1 (by decide)).below ((Below.refl _ _).alloc (Nat.le_refl _) _)
  · exact (((hb1.trans (hb2.mono hB)).setCell (p := ⟨bm, 0, none⟩) hbm _).setCell (p := ⟨bm, 1, none⟩) hbm _).alloc (by have := hb2.size; simp; omega) _
end Go.Proofs.Ytbmaijkpcpbgjaa
