/- A map with int keys that the call has made, as a function of integers; no function of the program. -/
import Derived.Maps.OwnIn
import Derived.Maps.Views
import Derived.Maps.Own
import Derived.Maps.OwnSet
import Derived.Test.YtmlgbmfjnbhamaaBase
namespace Go.Proofs.Ytmlgbmfjnbhamaa
open Go.RowKit
set_option maxRecDepth 100000
/-- How an element reads: as itself. -/
def RvI (v : Value) : Option (DataW Value × List MemPlace) := some (.held v, [])
/-- Block b is a map of at most n entries, with keys of the type tk: what it holds at each key. -/
def IMap (tk : TypeId) (w : World) (b n : Nat) (f : Int → Option Value) : Prop :=
  ∃ D : DataW Value, w.ownsMap Try.prog tk RvI b n D ∧ ∀ s, Maps.has D (.int .i64 s) = (f s).isSome ∧ ∀ v, f s = some v → ∀ zd, D.atKey (.int .i64 s) zd = .held v
theorem IMap.made (tk : TypeId) (w : World) : IMap tk (w.alloc (.map #[] 0)) w.heap.size 0 (fun _ => none) := by
  refine ⟨_, World.ownsMap_made w _ _ _, fun s => ⟨?_, fun v h => by cases h⟩⟩
  simp [Maps.has]
theorem IMap.kept {tk : TypeId} {w w' : World} {b n : Nat} {f : Int → Option Value} {row : Option Nat} (h : IMap tk w b n f) (hg : w.grownBy w' row) (hne : some b ≠ row) : IMap tk w' b n f := by
  obtain ⟨D, h1, h2⟩ := h
  exact ⟨D, h1.kept hg hne, h2⟩
theorem IMap.lt {tk : TypeId} {w : World} {b n : Nat} {f : Int → Option Value} (h : IMap tk w b n f) : b < w.heap.size := by
  obtain ⟨D, h1, _⟩ := h
  exact h1.lt
theorem IMap.mono {tk : TypeId} {w : World} {b n n' : Nat} {f : Int → Option Value} (h : IMap tk w b n f) (hn : n ≤ n') : IMap tk w b n' f := by
  obtain ⟨D, h1, h2⟩ := h
  exact ⟨D, h1.mono hn, h2⟩
theorem IMap.same {tk : TypeId} {w w' : World} {b n : Nat} {f : Int → Option Value} (h : IMap tk w b n f) (hb : w'.heap[b]? = w.heap[b]?) : IMap tk w' b n f := by
  obtain ⟨D, ⟨es, clock, e, F, hs, hD⟩, h2⟩ := h
  exact ⟨D, ⟨es, clock, hb.trans e, F, hs, hD⟩, h2⟩
theorem IMap.below {tk : TypeId} {w w' : World} {b n n₀ : Nat} {f : Int → Option Value} (h : IMap tk w b n f) (hb : Below n₀ w w') (hlt : b < n₀) : IMap tk w' b n f := h.same (hb.block b hlt)
theorem IMap.setCell {tk : TypeId} {w : World} {b n : Nat} {f : Int → Option Value} (h : IMap tk w b n f) {a : Addr} (ha : b ≠ a.block) (u : Value) : IMap tk (w.setCell a u) b n f := by
  obtain ⟨D, h1, h2⟩ := h
  exact ⟨D, h1.setCell ha u, h2⟩
/-- v, ok := m[k] -/
theorem IMap.lookup {tk : TypeId} {w : World} {b n : Nat} {f : Int → Option Value} (h : IMap tk w b n f) (hk : Try.prog.underlying tk = some (.int .i64)) {t e : TypeId} (ht : Try.prog.underlying t = some (.map tk e)) {z : Value} (hz : (zeroValue e).run Try.prog w = .ok z w) {s : Int} (hs : (Lit.int .i64 s).wf = true) :
    (Instr.lookup t (.map (some b)) (.int .i64 s) true).run Try.prog w = .ok (.tuple #[(f s).getD z, .bool (f s).isSome]) w := by
  obtain ⟨D, h1, h2⟩ := h
  obtain ⟨v, ps, hrun, hv⟩ := h1.look_ok (Maps.int_keyed hk) ht hz (zd := .held z) (zp := []) rfl (Maps.keyOf_int_mk hk hs)
  obtain ⟨g1, g2⟩ := h2 s
  rw [hrun, g1]
  unfold RvI at hv
  have hv1 : DataW.held v = D.atKey (.int .i64 s) (.held z) := by
    have := congrArg (Option.map Prod.fst) hv
    simpa using this
  cases hf : f s with
  | none =>
    rw [hf] at g1
    rw [Maps.atKey_of_not_has g1] at hv1
    injection hv1 with e
    rw [e]; rfl
  | some u =>
    rw [g2 u hf] at hv1
    injection hv1 with e
    rw [e]; rfl
/-- m[k] -/
theorem IMap.get {tk : TypeId} {w : World} {b n : Nat} {f : Int → Option Value} (h : IMap tk w b n f) (hk : Try.prog.underlying tk = some (.int .i64)) {t e : TypeId} (ht : Try.prog.underlying t = some (.map tk e)) {z : Value} (hz : (zeroValue e).run Try.prog w = .ok z w) {s : Int} (hs : (Lit.int .i64 s).wf = true) :
    (Instr.lookup t (.map (some b)) (.int .i64 s) false).run Try.prog w = .ok ((f s).getD z) w := by
  obtain ⟨D, h1, h2⟩ := h
  obtain ⟨v, ps, hrun, hv⟩ := h1.lookup (Maps.int_keyed hk) ht hz (zd := .held z) (zp := []) rfl (Maps.keyOf_int_mk hk hs)
  obtain ⟨g1, g2⟩ := h2 s
  rw [hrun]
  unfold RvI at hv
  have hv1 : DataW.held v = D.atKey (.int .i64 s) (.held z) := by
    have := congrArg (Option.map Prod.fst) hv
    simpa using this
  cases hf : f s with
  | none =>
    rw [hf] at g1
    rw [Maps.atKey_of_not_has g1] at hv1
    injection hv1 with e
    rw [e]; rfl
  | some u =>
    rw [g2 u hf] at hv1
    injection hv1 with e
    rw [e]; rfl
/-- m[k] = v -/
theorem IMap.update {tk : TypeId} {w : World} {b n : Nat} {f : Int → Option Value} (h : IMap tk w b n f) (hk : Try.prog.underlying tk = some (.int .i64)) {t e : TypeId} (ht : Try.prog.underlying t = some (.map tk e)) (hn : n < maxLen) {s : Int} (hs : (Lit.int .i64 s).wf = true) (v : Value) :
    ∃ w', (Instr.mapUpdate t (.map (some b)) (.int .i64 s) v).run Try.prog w = .ok () w' ∧ IMap tk w' b (n + 1) (fun x => if x = s then some v else f x) ∧ w.grownBy w' (some b) := by
  obtain ⟨D, h1, h2⟩ := h
  obtain ⟨w', hrun, r1, r2⟩ := h1.update (Maps.int_keyed hk) ht hn (Maps.keyOf_int_mk hk hs) (val := v) (d := .held v) (ps := []) rfl
  refine ⟨w', hrun, ⟨_, r1, fun x => ?_⟩, r2⟩
  have hkl : WideAt.IsKeyLit (.int .i64 s) := by trivial
  by_cases hx : x = s
  · subst hx
    simp only [if_true]
    exact ⟨Maps.has_put_same h1.isMap hkl _, fun u hu zd => by injection hu with e; rw [Maps.atKey_put_same h1.isMap hkl, e]⟩
  · simp only [if_neg hx]
    have hne : (Lit.int .i64 x) ≠ .int .i64 s := fun e => hx (by injection e)
    exact ⟨by rw [Maps.has_put_other hne]; exact (h2 x).1, fun u hu zd => by rw [Maps.atKey_put_other hne]; exact (h2 x).2 u hu zd⟩
theorem wf_i64 {s : Int} (h1 : -9223372036854775808 ≤ s) (h2 : s < 9223372036854775808) : (Lit.int .i64 s).wf = true := by
  simp [Lit.wf, IntKind.min, IntKind.max, IntKind.signed, IntKind.bits]
  omega
end Go.Proofs.Ytmlgbmfjnbhamaa
