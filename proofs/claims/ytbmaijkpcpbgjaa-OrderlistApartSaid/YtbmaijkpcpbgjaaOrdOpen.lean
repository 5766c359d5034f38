/- Steps that came in, as plain lists; closed facts of the rows. -/
import Derived.Test.YtbmaijkpcpbgjaaOrdY
import Derived.ProofKit
import Derived.Deep.Slices
namespace Go.Proofs.Ytbmaijkpcpbgjaa
open Go.RowKit Go.WideShapes Go.ChangeShapes Go.WideElems Go.Deep
set_option maxRecDepth 100000
theorem Try.own : ownKnob Try.prog.godebug = none := by kernel_rfl
theorem Try.laidOut : laidOutB Try.prog = true := by kernel_rfl
theorem some_each {α : Type} (len : Nat) (P : Nat → α → Prop) (h : ∀ i, i < len → ∃ t, P i t) : ∃ L : List α, L.length = len ∧ ∀ (i : Nat) (t : α), L[i]? = some t → P i t := by
  induction len with
  | zero => exact ⟨[], rfl, fun i t ht => by simp at ht⟩
  | succ n ih =>
    obtain ⟨L, hL, hP⟩ := ih (fun i hi => h i (by omega))
    obtain ⟨t, ht⟩ := h n (by omega)
    refine ⟨L ++ [t], by simp [hL], fun i u hu => ?_⟩
    by_cases hi : i < n
    · rw [List.getElem?_append_left (by omega)] at hu
      exact hP i u hu
    · rw [List.getElem?_append_right (by omega), hL] at hu
      by_cases h0 : i = n
      · subst h0
        simp at hu
        rw [← hu]
        exact ht
      · rw [List.getElem?_eq_none (by simp; omega)] at hu
        cases hu
section
variable {H : Type} {enc : TypeId × Value → H}
theorem step_cells {w : World} {spare : Nat → Bool} {held : Bool} {n : Nat} {cs : List Value} {x : DataW H × List MemPlace} (h : DataW.trod enc Try.prog w 0 spare held n 49 cs = some x) : ∃ s : Bool × Int, cs = [.bool s.1, .int .i64 s.2] := by
  have hC : Try.prog.cellsOf 49 = 2 := by kernel_rfl
  have hC4 : Try.prog.cellsOf 4 = 1 := by kernel_rfl
  have hC3 : Try.prog.cellsOf 3 = 1 := by kernel_rfl
  obtain ⟨xs, m, rfl, hx, hl3, hlen, hg⟩ := DataW.trod_struct Try.underlying49 h
  match cs, hl3.trans hC with
  | [c0, c1], _ =>
    match xs, hlen with
    | [y0, y1], _ =>
      have t0 : DataW.trod enc Try.prog w 0 spare held m 4 [c0] = some y0 := by simpa [hC4] using hg 0 _ rfl
      have t1 : DataW.trod enc Try.prog w 0 spare held m 3 [c1] = some y1 := by simpa [hC4, hC3] using hg 1 _ rfl
      obtain ⟨b, e0, _⟩ := DataW.trod_bool Try.underlying4 t0
      obtain ⟨i, e1, _⟩ := DataW.trod_int Try.underlying3 t1
      simp at e0 e1
      subst e0 e1
      exact ⟨(b, i), rfl⟩
theorem steps_open {W : World} {base : Nat} {held : Bool} {v : Value} {d : DataW H} {p : List MemPlace} (hv : Value.okWide Try.prog W .any base 22 v) (h : DataW.Trod enc Try.prog W 0 (fun _ => true) held 22 v d p) :
    ∃ (A : Option Addr) (cp : Nat) (S : List (Bool × Int)), v = .slice A S.length cp ∧ S.length ≤ maxLen ∧ StepsAt W.heap.size W A S := by
  obtain ⟨fuel, hf⟩ := h
  have hC : Try.prog.cellsOf 49 = 2 := by kernel_rfl
  rcases open_slice Try.underlying22 hf with ⟨hcs, _⟩ | ⟨a, len, cap, m, k, D, Pl, hcs, _, hl, hm, hmm, _, hi⟩
  · refine ⟨none, 0, [], ?_, by decide, fun h => absurd h (by decide)⟩
    cases v <;> simp only [Value.cells, List.cons.injEq, and_true] at hcs <;> first | exact hcs | skip
    simp [Value.okWide, Cell.okWide, Try.underlying22, Cell.ok] at hv
  · have hlm : len ≤ m := by rw [hmm]; split <;> omega
    obtain ⟨L, hL, hP⟩ := some_each len (fun i (s : Bool × Int) => W.cells? 0 (a.add (i * 2)) 2 = some [.bool s.1, .int .i64 s.2]) (fun i hi' => by
      obtain ⟨cs', h1, h2⟩ := hi i (by omega)
      rw [hC] at h1
      obtain ⟨s, rfl⟩ := step_cells h2
      exact ⟨s, h1⟩)
    have cell : ∀ (i : Nat) (s : Bool × Int), L[i]? = some s → ∀ j, j < 2 → W.cell? (a.add (i * 2 + j)) = ([.bool s.1, .int .i64 s.2] : List Value)[j]? := fun i s hk j hj => by
      obtain ⟨_, _, hat⟩ := World.cells?_some (hP i s hk)
      rw [← add_add]
      exact hat j hj
    refine ⟨some a, cap, L, ?_, by omega, fun hpos => ?_⟩
    · rw [hL]
      cases v <;> simp only [Value.cells, List.cons.injEq, and_true] at hcs <;> first | exact hcs | skip
      simp [Value.okWide, Cell.okWide, Try.underlying22, Cell.ok] at hv
    · obtain ⟨b, off, spot⟩ := a
      have h0 : L[0]? = some L[0] := List.getElem?_eq_getElem hpos
      have hspot : spot = none := by
        have := cell 0 _ h0 0 (by omega)
        simpa [Addr.add] using World.cell?_spot this
      subst hspot
      have ad : ∀ n, (⟨b, off, none⟩ : Addr).add n = ⟨b, off + n, none⟩ := fun n => Go.WideShapes.add_plain ..
      refine ⟨b, off, rfl, ?_, fun i s ht => ?_⟩
      · have := cell 0 _ h0 0 (by omega)
        rw [ad] at this
        exact World.block_lt_of_cell? W _ this
      · have c0 := cell i s ht 0 (by omega)
        have c1 := cell i s ht 1 (by omega)
        rw [ad] at c0 c1
        exact ⟨c0, c1⟩
end
theorem StepsAt.more {n0 n1 : Nat} {w : World} {A : Option Addr} {S : List (Bool × Int)} (h : StepsAt n0 w A S) (hn : n0 ≤ n1) : StepsAt n1 w A S := fun hl => by
  obtain ⟨b, off, rfl, hp, hc⟩ := h hl
  exact ⟨b, off, rfl, by omega, hc⟩
/-- A list, its reference in a box, while a law looks at them. -/
structure RL (w : World) (B x made mb : Nat) (mv : Int) (E : List El) (A : Option Addr) (cap m : Nat) (W : World) : Prop where
  ost : OSt B x made mv E W
  row : ORow B W A cap (ords E)
  bx : W.heap[mb]? = some (.cells #[.slice A m cap, .int .i64 made] 27 (0, 0))
  bel : Below w.heap.size w W
  hsz : w.heap.size ≤ W.heap.size
theorem RL.next {w : World} {B x made mb : Nat} {mv : Int} {E : List El} {A : Option Addr} {cap m : Nat} {W W' : World} (h : RL w B x made mb mv E A cap m W) (hb : Below W.heap.size W W') : RL w B x made mb mv E A cap m W' :=
  ⟨h.ost.below hb, h.row.below hb, bdAt h.bx hb, h.bel.trans (hb.mono h.hsz), Nat.le_trans h.hsz hb.size⟩
theorem RL.drewN {w : World} {B x made mb : Nat} {mv : Int} {E : List El} {A : Option Addr} {cap m : Nat} {W : World} (h : RL w B x made mb mv E A cap m W) (n : Nat) : RL w B x made mb mv E A cap m (W.drewN n) :=
  ⟨h.ost.drewN n, h.row, h.bx, bdN h.bel n, h.hsz⟩
theorem RL.start {w w1 w2 : World} {x made : Nat} {mv : Int} {E : List El} {A : Option Addr} {cap m : Nat} (hb : Below w.heap.size w w1) (ho : OSt w1.heap.size x made mv E w2) (hr : ORow w1.heap.size w2 A cap (ords E)) (hb2 : Below w1.heap.size w1 w2) :
    RL w w1.heap.size x made w2.heap.size mv E A cap m (w2.alloc (.cells #[.slice A m cap, .int .i64 made] 27)) := by
  have h1 := hb.size
  have h2 := hb2.size
  exact ⟨ho.below ((Below.refl _ _).alloc (Nat.le_refl _) _), hr.below ((Below.refl _ _).alloc (Nat.le_refl _) _), bdNew _ _, (hb.trans (hb2.mono h1)).alloc (by omega) _, by simp; omega⟩
theorem RL.cells {w : World} {B x made mb : Nat} {mv : Int} {E : List El} {A : Option Addr} {cap m : Nat} {W : World} (h : RL w B x made mb mv E A cap m W) : W.cell? ⟨mb, 0, none⟩ = some (.slice A m cap) ∧ W.cell? ⟨mb, 1, none⟩ = some (.int .i64 made) := (bk2 h.bx).1
theorem refAt_b (B : Nat) (A : Option Addr) (cap n made : Nat) (L : List Int) (x : Int) (w : World) (hn : L.length = n) (h : ORow B w A cap L) :
    Calls Try.prog 13 #[.agg #[.slice A n cap, .int .i64 made], .int .i64 x] w fun e w' => e = .returned (.int .i64 (atI L x)) ∧ Below w.heap.size w w' :=
  (refAt_any B A cap n made L x w hn h).mono fun _ _ ⟨h1, h2⟩ => ⟨h1, h2 ▸ (Below.refl _ _).alloc (Nat.le_refl _) _⟩
/-- What Order has returned, kept shut. -/
structure OwnR (B' m : Nat) (A' : Option Addr) (cap' : Nat) (E : List El) (w : World) : Prop where
  out : w.ownsRow B' 3 1 (.slice A' m cap') m ((ords E).map (Value.int .i64))
/-- Order's result is what the reference has. -/
theorem ol_equal (B : Nat) (A : Option Addr) (cap m : Nat) (E : List El) (w : World) (hm : E.length = m) (hl : m ≤ 2000) (h : ORow B w A cap (ords E)) (B' : Nat) (A' : Option Addr) (cap' : Nat) (h' : w.ownsRow B' 3 1 (.slice A' m cap') m ((ords E).map (Value.int .i64))) :
    Calls Try.prog 14 #[.slice A' m cap', .slice A m cap] w fun e w' => e = .returned (.bool true) ∧ Below w.heap.size w w' := by
  have hl' : (ords E).length = m := by rw [ords_len, hm]
  have hc := eqI_any (fun _ => True) (fun _ => True) A' A cap' cap (ords E) (ords E) w (by rw [hl']; unfold maxLen; omega) (by rw [hl']; unfold maxLen; omega)
    (intsAt_own (B := B') (n := m) (c := cap') (by rw [hl']; exact h') (fun _ _ _ => trivial)) (intsAt_own (B := B) (n := (ords E).length) (c := cap) h (fun _ _ _ => trivial))
  rw [hl', decide_eq_true rfl] at hc
  exact hc.mono fun _ _ ⟨h1, q, h2⟩ => ⟨h1, h2 ▸ bdN (Below.refl _ _) q⟩
theorem u8_of {k : Int} (h : (Lit.int .u8 k).wf = true) : ∃ n : Nat, k = (n : Int) ∧ n < 256 := by
  simp [Lit.wf, IntKind.min, IntKind.max, IntKind.signed, IntKind.bits] at h
  exact ⟨k.toNat, by omega, by omega⟩
theorem u16_of {k : Int} (h : (Lit.int .u16 k).wf = true) : ∃ n : Nat, k = (n : Int) ∧ n < 65536 := by
  simp [Lit.wf, IntKind.min, IntKind.max, IntKind.signed, IntKind.bits] at h
  exact ⟨k.toNat, by omega, by omega⟩
end Go.Proofs.Ytbmaijkpcpbgjaa
