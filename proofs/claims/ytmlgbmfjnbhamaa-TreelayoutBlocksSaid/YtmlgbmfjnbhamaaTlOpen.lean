/- Lists of integers that came in; closed facts of the rows. -/
import Derived.Test.YtmlgbmfjnbhamaaRowU
import Derived.ProofKit
import Derived.Deep.Slices
namespace Go.Proofs.Ytmlgbmfjnbhamaa
open Go.RowKit Go.WideShapes Go.ChangeShapes Go.WideElems Go.Deep
set_option maxRecDepth 100000
theorem Try.own : ownKnob Try.prog.godebug = none := by kernel_rfl
theorem Try.laidOut : laidOutB Try.prog = true := by kernel_rfl
theorem some_each {α : Type} (len : Nat) (P : Nat → α → Prop) (h : ∀ i, i < len → ∃ t, P i t) : ∃ L : List α, L.length = len ∧ ∀ (i : Nat) (t : α), L[i]? = some t → P i t := by
  induction len with
  | zero => exact ⟨[], rfl, fun i t ht => by simp at ht⟩
  | succ n ih =>
    obtain ⟨L, hL, hP⟩ := ih (fun i hi => h i (by omega))
    obtain ⟨t, ht⟩ := h n (by omega)
    refine ⟨L ++ [t], by simp [hL], fun i u hu => ?_⟩
    by_cases hi : i < n
    · rw [List.getElem?_append_left (by omega)] at hu
      exact hP i u hu
    · rw [List.getElem?_append_right (by omega), hL] at hu
      by_cases h0 : i = n
      · subst h0
        simp at hu
        rw [← hu]
        exact ht
      · rw [List.getElem?_eq_none (by simp; omega)] at hu
        cases hu
section
variable {H : Type} {enc : TypeId × Value → H}
theorem ints_cells {W : World} {held : Bool} {cs : List Value} {y : DataW H × List MemPlace} {fuel : Nat} (hf : DataW.trod enc Try.prog W 0 (fun _ => true) held fuel 23 cs = some y) :
    cs = [.slice none 0 0] ∨ ∃ (a : Addr) (cap : Nat) (L : List Int), cs = [.slice (some a) L.length cap] ∧ L.length ≤ cap ∧ cap ≤ maxLen ∧ (0 < L.length → ∃ b off, a = ⟨b, off, none⟩ ∧ b < W.heap.size ∧ ∀ (i : Nat) (x : Int), L[i]? = some x → W.cell? ⟨b, off + i, none⟩ = some (.int .i64 x)) := by
  have hC : Try.prog.cellsOf 3 = 1 := by kernel_rfl
  rcases open_slice Try.underlying23 hf with ⟨hcs, _⟩ | ⟨a, len, cap, m, n, D, Pl, hcs, _, hl, hm, hmm, _, hi⟩
  · exact Or.inl hcs
  · right
    have hlm : len ≤ m := by rw [hmm]; split <;> omega
    obtain ⟨L, hL, hP⟩ := some_each len (fun i t => W.cells? 0 (a.add (i * 1)) 1 = some [.int .i64 t]) (fun i hi' => by
      obtain ⟨cs', hc, ht'⟩ := hi i (by omega)
      rw [hC] at hc
      obtain ⟨k, e0, _, hin⟩ := DataW.trod_int Try.underlying3 ht'
      subst e0
      exact ⟨k, hc⟩)
    refine ⟨a, cap, L, by rw [hL]; exact hcs, by omega, by omega, fun hpos => ?_⟩
    obtain ⟨b, off, spot⟩ := a
    have cell : ∀ (i : Nat) (t : Int), L[i]? = some t → W.cell? ((⟨b, off, spot⟩ : Addr).add i) = some (.int .i64 t) := fun i t ht => by
      obtain ⟨_, _, hat⟩ := World.cells?_some (hP i t ht)
      have := hat 0 (by omega)
      rw [add_add] at this
      simpa using this
    have hspot : spot = none := by
      have h0 : L[0]? = some L[0] := List.getElem?_eq_getElem hpos
      have := cell 0 _ h0
      simpa [Addr.add] using World.cell?_spot this
    subst hspot
    have ad : ∀ n, (⟨b, off, none⟩ : Addr).add n = ⟨b, off + n, none⟩ := fun n => Go.WideShapes.add_plain ..
    refine ⟨b, off, rfl, ?_, fun i t ht => ?_⟩
    · have h0 : L[0]? = some L[0] := List.getElem?_eq_getElem hpos
      have := cell 0 _ h0
      rw [ad] at this
      exact World.block_lt_of_cell? W _ this
    · have c0 := cell i t ht
      rw [ad] at c0
      exact c0
theorem ints_open {W : World} {base : Nat} {held : Bool} {v : Value} {d : DataW H} {p : List MemPlace} (hv : Value.okWide Try.prog W .any base 23 v) (h : DataW.Trod enc Try.prog W 0 (fun _ => true) held 23 v d p) :
    ∃ (A : Option Addr) (cp : Nat) (L : List Int), v = .slice A L.length cp ∧ L.length ≤ cp ∧ cp ≤ maxLen ∧ IntsAt (· < W.heap.size) W A L ∧ (A = none → L.length = 0 ∧ cp = 0) := by
  obtain ⟨fuel, hf⟩ := h
  rcases ints_cells hf with hcs | ⟨a, cap, L, hcs, h1, h2, h3⟩
  · refine ⟨none, 0, [], ?_, Nat.le_refl _, Nat.zero_le _, IntsAt.nil _ _ _, fun _ => ⟨rfl, rfl⟩⟩
    cases v <;> simp only [Value.cells, List.cons.injEq, and_true] at hcs <;> first | exact hcs | skip
    simp [Value.okWide, Cell.okWide, Try.underlying23, Cell.ok] at hv
  · refine ⟨some a, cap, L, ?_, h1, h2, fun hpos => ?_, fun hh => by cases hh⟩
    · cases v <;> simp only [Value.cells, List.cons.injEq, and_true] at hcs <;> first | exact hcs | skip
      simp [Value.okWide, Cell.okWide, Try.underlying23, Cell.ok] at hv
    · obtain ⟨b, off, ha, hb, hc⟩ := h3 hpos
      exact ⟨b, off, by rw [ha], hb, hc⟩
end
end Go.Proofs.Ytmlgbmfjnbhamaa
