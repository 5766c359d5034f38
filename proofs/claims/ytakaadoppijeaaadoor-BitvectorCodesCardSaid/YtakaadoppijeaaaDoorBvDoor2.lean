/- A slice of bytes that came in. -/
import Derived.Test.YtakaadoppijeaaaDoorBvDoor
import Derived.Test.YtakaadoppijeaaaDoorBvDd
import Derived.Deep.Slices
namespace Go.Proofs.YtakaadoppijeaaaDoor
set_option maxRecDepth 100000
open Go.ChangeShapes Go.WideShapes Go.ChangeAt Go.WideMaps Go.WideElems Go.RowKit
theorem bytes_open {H : Type} {enc : TypeId × Value → H} {W : World} {base : Nat} {v : Value} {d : DataW H} {p : List MemPlace} (hv : Value.okWide Tryd.prog W .any base 43 v) (h : DataW.Trod enc Tryd.prog W 0 (fun _ => true) true 43 v d p) :
    ∃ (A : Option Addr) (cp : Nat) (L : List Nat), v = .slice A L.length cp ∧ L.length ≤ cp ∧ (∀ x ∈ L, x < 256) ∧ BytesO (· < W.heap.size) W A L := by
  obtain ⟨a0, len0, cap0, rfl⟩ := okWide_slice Tryd.underlying43 hv
  obtain ⟨fuel, hf⟩ := h
  have hC : Tryd.prog.cellsOf 5 = 1 := by kernel_rfl
  rcases Go.Deep.open_slice1 Tryd.underlying43 hC hf with ⟨hc, _⟩ | ⟨a, len, cap, m, n, V, D, Pl, hc, hb, hl, hm, hmm, _, hx⟩
  · simp [Value.cells] at hc
    obtain ⟨rfl, rfl, rfl⟩ := hc
    exact ⟨none, 0, [], rfl, Nat.le_refl _, fun _ h => absurd h (by simp), fun h => absurd h (by simp)⟩
  · simp [Value.cells] at hc
    obtain ⟨rfl, rfl, rfl⟩ := hc
    simp only [if_true] at hmm
    subst hmm
    have hz : ∀ i, i < m → ∃ x : Nat, V i = .int .u8 (x : Int) ∧ x < 256 := fun i hi => by
      obtain ⟨k, h1, _, h3⟩ := DataW.trod_int Tryd.underlying5 (hx i hi).2
      have hk : 0 ≤ k ∧ k ≤ 255 := by
        simp [Lit.wf, IntKind.min, IntKind.max, IntKind.bits, IntKind.signed] at h3
        omega
      refine ⟨k.toNat, ?_, by omega⟩
      have : V i = .int .u8 k := by simpa using h1
      rw [this, show ((k.toNat : Nat) : Int) = k by omega]
    obtain ⟨X, hX⟩ : ∃ X : Nat → Nat, ∀ i, i < m → V i = .int .u8 (X i : Int) ∧ X i < 256 := by
      refine ⟨fun i => if h : i < m then (hz i h).choose else 0, fun i hi => ?_⟩
      have := (hz i hi).choose_spec
      simpa [hi] using this
    have hlen : ((List.range len0).map X).length = len0 := by simp
    refine ⟨some a, m, (List.range len0).map X, by rw [hlen], by rw [hlen]; exact hl, fun x hx' => ?_, fun h0 => ?_⟩
    · obtain ⟨i, hi, rfl⟩ := List.mem_map.1 hx'
      exact (hX i (by have := List.mem_range.1 hi; omega)).2
    rw [hlen] at h0
    have ha := cell_ltB (hx 0 (by omega)).1
    have hae : a = ⟨a.block, a.off, none⟩ := by
      have := ha.2
      obtain ⟨b, o, s⟩ := a
      cases s with
      | none => rfl
      | some x => simp [Addr.add] at this
    refine ⟨a.block, a.off, by rw [← hae], ?_, fun i x hi => ?_⟩
    · have := ha.1; rw [add_atB hae] at this; exact this
    · rw [List.getElem?_map] at hi
      have hil : i < len0 := by
        rcases Nat.lt_or_ge i len0 with h | h
        · exact h
        · rw [List.getElem?_eq_none (by simpa using h)] at hi; cases hi
      rw [List.getElem?_range hil] at hi
      have hi' : X i = x := by simpa using hi
      rw [← add_atB hae, (hx i (by omega)).1, (hX i (by omega)).1, hi']
end Go.Proofs.YtakaadoppijeaaaDoor
