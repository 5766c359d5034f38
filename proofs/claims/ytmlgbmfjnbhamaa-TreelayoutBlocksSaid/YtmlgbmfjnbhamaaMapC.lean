/- A map with int keys that the call has made, with how many entries it has; no function of the program. -/
import Derived.Test.YtmlgbmfjnbhamaaMapI
namespace Go.Proofs.Ytmlgbmfjnbhamaa
open Go.RowKit
set_option maxRecDepth 100000
/-- Block b is a map of c entries (and was never written more than n times): what it holds at each key. -/
def CMap (tk : TypeId) (w : World) (b n c : Nat) (f : Int → Option Value) : Prop :=
  ∃ D : DataW Value, w.ownsMap Try.prog tk RvI b n D ∧ (∀ s, Maps.has D (.int .i64 s) = (f s).isSome ∧ ∀ v, f s = some v → ∀ zd, D.atKey (.int .i64 s) zd = .held v) ∧ Maps.size D = c
theorem CMap.imap {tk : TypeId} {w : World} {b n c : Nat} {f : Int → Option Value} (h : CMap tk w b n c f) : IMap tk w b n f := by
  obtain ⟨D, h1, h2, _⟩ := h
  exact ⟨D, h1, h2⟩
theorem CMap.made (tk : TypeId) (w : World) : CMap tk (w.alloc (.map #[] 0)) w.heap.size 0 0 (fun _ => none) := by
  refine ⟨_, World.ownsMap_made w _ _ _, fun s => ⟨?_, fun v h => by cases h⟩, rfl⟩
  simp [Maps.has]
theorem CMap.lt {tk : TypeId} {w : World} {b n c : Nat} {f : Int → Option Value} (h : CMap tk w b n c f) : b < w.heap.size := h.imap.lt
theorem CMap.mono {tk : TypeId} {w : World} {b n n' c : Nat} {f : Int → Option Value} (h : CMap tk w b n c f) (hn : n ≤ n') : CMap tk w b n' c f := by
  obtain ⟨D, h1, h2⟩ := h
  exact ⟨D, h1.mono hn, h2⟩
theorem CMap.same {tk : TypeId} {w w' : World} {b n c : Nat} {f : Int → Option Value} (h : CMap tk w b n c f) (hb : w'.heap[b]? = w.heap[b]?) : CMap tk w' b n c f := by
  obtain ⟨D, ⟨es, clock, e, F, hs, hD⟩, h2⟩ := h
  exact ⟨D, ⟨es, clock, hb.trans e, F, hs, hD⟩, h2⟩
theorem CMap.below {tk : TypeId} {w w' : World} {b n c n₀ : Nat} {f : Int → Option Value} (h : CMap tk w b n c f) (hb : Below n₀ w w') (hlt : b < n₀) : CMap tk w' b n c f := h.same (hb.block b hlt)
theorem CMap.le {tk : TypeId} {w : World} {b n c : Nat} {f : Int → Option Value} (h : CMap tk w b n c f) : c ≤ n := by
  obtain ⟨D, h1, _, h3⟩ := h
  have := h1.size_le
  omega
/-- len(m) -/
theorem CMap.len {tk : TypeId} {w : World} {b n c : Nat} {f : Int → Option Value} (h : CMap tk w b n c f) {t e : TypeId} (ht : Try.prog.underlying t = some (.map tk e)) (ty : TypeId) : (Builtin.len_ #[t] ty #[.map (some b)]).run Try.prog w = .ok (.int .i64 (c : Int)) w := by
  obtain ⟨D, h1, _, h3⟩ := h
  rw [h1.len ht ty, h3]
/-- m[k] = v -/
theorem CMap.update {tk : TypeId} {w : World} {b n c : Nat} {f : Int → Option Value} (h : CMap tk w b n c f) (hk : Try.prog.underlying tk = some (.int .i64)) {t e : TypeId} (ht : Try.prog.underlying t = some (.map tk e)) (hn : n < maxLen) {s : Int} (hs : (Lit.int .i64 s).wf = true) (v : Value) :
    ∃ w', (Instr.mapUpdate t (.map (some b)) (.int .i64 s) v).run Try.prog w = .ok () w' ∧ CMap tk w' b (n + 1) (if (f s).isSome then c else c + 1) (fun x => if x = s then some v else f x) ∧ w.grownBy w' (some b) := by
  obtain ⟨D, h1, h2, h3⟩ := h
  obtain ⟨w', hrun, r1, r2⟩ := h1.update (Maps.int_keyed hk) ht hn (Maps.keyOf_int_mk hk hs) (val := v) (d := .held v) (ps := []) rfl
  have hkl : WideAt.IsKeyLit (.int .i64 s) := by trivial
  refine ⟨w', hrun, ⟨_, r1, fun x => ?_, ?_⟩, r2⟩
  · by_cases hx : x = s
    · subst hx
      simp only [if_true]
      exact ⟨Maps.has_put_same h1.isMap hkl _, fun u hu zd => by injection hu with e; rw [Maps.atKey_put_same h1.isMap hkl, e]⟩
    · simp only [if_neg hx]
      have hne : (Lit.int .i64 x) ≠ .int .i64 s := fun e => hx (by injection e)
      exact ⟨by rw [Maps.has_put_other hne]; exact (h2 x).1, fun u hu zd => by rw [Maps.atKey_put_other hne]; exact (h2 x).2 u hu zd⟩
  · rw [Maps.size_put (h1.tidy (Maps.int_keyed hk)), (h2 s).1, h3]
/-- delete(m, k) -/
theorem CMap.drop {tk : TypeId} {w : World} {b n c : Nat} {f : Int → Option Value} (h : CMap tk w b n c f) (hk : Try.prog.underlying tk = some (.int .i64)) {t e : TypeId} (ht : Try.prog.underlying t = some (.map tk e)) {s : Int} (hs : (Lit.int .i64 s).wf = true) (ty : TypeId) :
    ∃ w', (Builtin.delete_ #[t, tk] ty #[.map (some b), .int .i64 s]).run Try.prog w = .ok (.tuple #[]) w' ∧ CMap tk w' b n (if (f s).isSome then c - 1 else c) (fun x => if x = s then none else f x) ∧ w.grownBy w' (some b) := by
  obtain ⟨D, h1, h2, h3⟩ := h
  obtain ⟨w', hrun, r1, r2⟩ := h1.drop (Maps.int_keyed hk) ht (Maps.keyOf_int_mk hk hs) ty
  refine ⟨w', hrun, ⟨_, r1, fun x => ?_, ?_⟩, r2.grown⟩
  · by_cases hx : x = s
    · subst hx
      simp only [if_true]
      exact ⟨Maps.has_del_same, fun u hu => by cases hu⟩
    · simp only [if_neg hx]
      have hne : (Lit.int .i64 x) ≠ .int .i64 s := fun e => hx (by injection e)
      exact ⟨by rw [Maps.has_del_other hne]; exact (h2 x).1, fun u hu zd => by rw [Maps.atKey_del_other hne]; exact (h2 x).2 u hu zd⟩
  · have h4 := Maps.size_del (h1.tidy (Maps.int_keyed hk)) (k := .int .i64 s)
    rw [(h2 s).1, h3] at h4
    cases hf : (f s).isSome
    · rw [hf] at h4; simpa using h4
    · rw [hf] at h4
      have h5 : Maps.size (D.del (.int .i64 s)) + 1 = c := by simpa using h4
      simp only [if_true]
      omega
end Go.Proofs.Ytmlgbmfjnbhamaa
