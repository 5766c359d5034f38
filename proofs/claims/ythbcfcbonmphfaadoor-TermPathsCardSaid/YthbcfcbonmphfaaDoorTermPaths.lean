/- TermPaths: whatever the two terms and the path, the law answers true and leaves them as they were. -/
import Derived.Test.YthbcfcbonmphfaaDoorLexNames
import Derived.Test.YthbcfcbonmphfaaDoorTermOpen
import Derived.Test.YthbcfcbonmphfaaDoorTermPath
namespace Go.Proofs.YthbcfcbonmphfaaDoor
set_option maxRecDepth 100000
open Go.ChangeShapes Go.WideShapes Go.ChangeAt Go.WideMaps Go.WideElems Go.RowKit Go.Deep

section
variable {H : Type} {enc : TypeId × Value → H}
theorem ints_of (len : Nat) (P : Nat → Int → Prop) (h : ∀ i, i < len → ∃ t, P i t) : ∃ L : List Int, L.length = len ∧ ∀ (i : Nat) (t : Int), L[i]? = some t → P i t := by
  induction len with
  | zero => exact ⟨[], rfl, fun i t ht => by simp at ht⟩
  | succ n ih =>
    obtain ⟨L, hL, hP⟩ := ih (fun i hi => h i (by omega))
    obtain ⟨t, ht⟩ := h n (by omega)
    refine ⟨L ++ [t], by simp [hL], fun i u hu => ?_⟩
    rcases Nat.lt_or_ge i n with hi | hi
    · rw [List.getElem?_append_left (by omega)] at hu
      exact hP i u hu
    · rw [List.getElem?_append_right (by omega), hL] at hu
      have : i = n := by
        rcases Nat.eq_zero_or_pos (i - n) with h0 | h0
        · omega
        · rw [List.getElem?_eq_none (by simp; omega)] at hu; cases hu
      subst this
      simp at hu
      rw [← hu]
      exact ht
/-- A path that came in. -/
theorem open_ints {w : World} {spare : Nat → Bool} {held : Bool} {r : Reach} {b0 : Nat} {v : Value} {d : DataW H} {p : List MemPlace}
    (hv : Value.okWide Tryd.prog w r b0 57 v) (h : DataW.Trod enc Tryd.prog w 0 spare held 57 v d p) :
    ∃ (A : Option Addr) (cap : Nat) (L : List Int), v = .slice A L.length cap ∧ L.length ≤ cap ∧ cap ≤ maxLen ∧ SlI w.heap.size w A L := by
  obtain ⟨a0, len0, cap0, rfl⟩ := okWide_slice Tryd.underlying57 hv
  obtain ⟨fuel, hf⟩ := h
  have hC : Tryd.prog.cellsOf 3 = 1 := by kernel_rfl
  rcases open_slice Tryd.underlying57 hf with ⟨hcs, _⟩ | ⟨a, len, cap, m, n, D, Pl, hcs, _, hl, hm, hmm, _, hi⟩
  · simp [Value.cells] at hcs
    obtain ⟨rfl, rfl, rfl⟩ := hcs
    exact ⟨none, 0, [], rfl, Nat.le_refl _, Nat.zero_le _, fun h => absurd h (by simp)⟩
  · simp [Value.cells] at hcs
    obtain ⟨rfl, rfl, rfl⟩ := hcs
    have hlm : len0 ≤ m := by rw [hmm]; split <;> omega
    obtain ⟨L, hL, hP⟩ := ints_of len0 (fun i t => w.cells? 0 (a.add (i * 1)) 1 = some [.int .i64 t]) (fun i hi' => by
      obtain ⟨cs', hc, ht'⟩ := hi i (by omega)
      rw [hC] at hc
      obtain ⟨k, e0, _, hin⟩ := DataW.trod_int Tryd.underlying3 ht'
      subst e0
      exact ⟨k, hc⟩)
    refine ⟨some a, cap0, L, by rw [hL], by omega, hm, fun hpos => ?_⟩
    obtain ⟨b, off, spot⟩ := a
    have cell : ∀ (i : Nat) (t : Int), L[i]? = some t → w.cell? ((⟨b, off, spot⟩ : Addr).add i) = some (.int .i64 t) := fun i t ht => by
      obtain ⟨_, _, hat⟩ := World.cells?_some (hP i t ht)
      have := hat 0 (by omega)
      rw [add_add] at this
      simpa using this
    have hspot : spot = none := by
      have h0 : L[0]? = some L[0] := List.getElem?_eq_getElem hpos
      have := cell 0 _ h0
      simpa [Addr.add] using World.cell?_spot this
    subst hspot
    have ad : ∀ n, (⟨b, off, none⟩ : Addr).add n = ⟨b, off + n, none⟩ := fun n => Go.WideShapes.add_plain ..
    refine ⟨b, off, rfl, ?_, fun i t ht => ?_⟩
    · have h0 : L[0]? = some L[0] := List.getElem?_eq_getElem hpos
      have := cell 0 _ h0
      rw [ad] at this
      exact World.block_lt_of_cell? w _ this
    · have c0 := cell i t ht
      rw [ad] at c0
      exact c0
end

set_option maxRecDepth 100000 in
theorem termPaths_lifted (os : Os) (started : os.Started) (H : Type) (enc : TypeId × Value → H) :
    ReturnsInHanded {} Tryd.checked os 8 .any (fun w args => (Rows.termPathsSpec.pre enc Tryd.prog Tryd.f8 [] false w args ∧ laidMetH Tryd.prog Rows.lexNamesRow.laid w) ∧ sizedMet enc Tryd.prog Tryd.f8 (OpenSpec.ofChange Rows.termPathsSpec) false w args)
      (Rows.termPathsSpec.post enc Tryd.prog Tryd.f8 false true false false) := by
  refine returnsInHanded_of_change_and (C := Tryd.checked) (X := fun w _ => laidMetH Tryd.prog Rows.lexNamesRow.laid w) (fun _ _ _ hh h => h.of_heap hh) Tryd.own started (by kernel_rfl) Tryd.func8
    (ChangeSpec.witness_shaped (enc := enc) (C := Tryd.checked) (os := os) (X := fun w _ => laidMetH Tryd.prog Rows.lexNamesRow.laid w) false (World.doorLaid Tryd.prog 400 os) #[.agg #[.string ⟨#[]⟩, .string ⟨#[]⟩, .slice none 0 0], .slice none 0 0, .agg #[.string ⟨#[]⟩, .string ⟨#[]⟩, .slice none 0 0]] 8 rfl (World.shaped_of_RefB (by kernel_rfl) (by kernel_rfl)) (by kernel_rfl) (by kernel_rfl) (by kernel_rfl) (door_met os _)) ?_
  intro W base args ds gs before hval0 hW _ _ hL _
  have hval : ∀ (j : Nat) t v, Tryd.f8.params[j]? = some t → args[j]? = some v → Value.okWide Tryd.prog W .any base t v := hval0
  have hW' := hW
  obtain ⟨p, q, hA0, hV, rfl, hfz, hnd⟩ := hW
  have hA : DataW.TrodAll enc Tryd.prog W 0 (fun _ => true) true Tryd.f8.params.toList args.toList ds p := hA0
  rw [Tryd.params8] at hA hval
  obtain ⟨v0, v1, v2, d0, d1, d2, p0, p1, p2, rfl, rfl, rfl, h0, h1, h2⟩ := trodAll_three hA
  obtain ⟨a, A, ca, rfl, hoa, hra⟩ := open_term (hval 0 56 v0 rfl rfl) h0
  obtain ⟨P, cp, L, rfl, hcp, hcm, hpl⟩ := open_ints (hval 1 57 v1 rfl rfl) h1
  obtain ⟨u, Au, cu, rfl, hou, hru⟩ := open_term (hval 2 56 v2 rfl rfl) h2
  refine (termPaths_any a u A Au ca cu P cp L W (pairs_of_laid hL) hra hru hpl hcp hcm hoa hou).mono fun e W' ⟨he, hb⟩ => ?_
  subst he
  exact ⟨_, rfl, law_post (tb := 4) Tryd.laidOut (by rw [Tryd.params8]; intro t ht; simp at ht; rcases ht with rfl | rfl | rfl <;> exact ⟨by kernel_rfl, of_decide_eq_true (by kernel_rfl)⟩) Tryd.underlying4 (by kernel_rfl) rfl (by simp [Rows.termPathsSpec]) hW' hb⟩

theorem termPaths_holds : Rows.TermPathsSaid :=
  OpenClaim.holds_of_wide 8 Tryd.f8 rfl rfl rfl rfl rfl rfl rfl ⟨rfl, rfl, rfl, rfl, rfl⟩ rfl rfl rfl rfl rfl (by kernel_rfl) Tryd.func8 (by kernel_rfl)
    (of_decide_eq_true (by kernel_rfl)) (by unfold Func.isWrapper; first | (rw [if_pos (by decide +kernel)]; kernel_rfl) | (rw [if_neg (by decide +kernel)]; exact ⟨rfl, rfl⟩))
    (fun os started H enc _ => termPaths_lifted os started H enc)

/-- The tied card. -/
theorem termPaths_card : Rows.TermPathsCardSaid :=
  Claim7.holds_tied_plain_at .later [] [.data] true (true, Rows.termPathsCard.stood.harness.2) false
    termPaths_holds (fun _ h => by cases h) (by kernel_rfl) (fun _ h => by cases h) termPaths_row_tie rfl ⟨rfl, rfl⟩ (by kernel_rfl) rfl
    (fun f fn hf hfn => by
      obtain rfl : f = 8 := Option.some.inj ((show Tryd.prog.funcNamed Rows.termPathsRow.func = some 8 by kernel_rfl).symm.trans hf) |>.symm
      obtain rfl : fn = Tryd.f8 := (Option.some.inj (Tryd.func8.symm.trans hfn)).symm
      exact ⟨by kernel_rfl, fun j t ht => by
        rw [Tryd.params8] at ht
        have h3 : t ∈ ([56, 57, 56] : List TypeId) := by
          have := Array.mem_of_getElem? ht
          simpa using this
        simp only [List.mem_cons, List.not_mem_nil, or_false] at h3
        rcases h3 with rfl | rfl | rfl
        · exact (show Tryd.prog.wantsStandIn 56 = false by kernel_rfl)
        · exact (show Tryd.prog.wantsStandIn 57 = false by kernel_rfl)
        · exact (show Tryd.prog.wantsStandIn 56 = false by kernel_rfl)⟩)
    (by kernel_rfl)
#print axioms termPaths_card
end Go.Proofs.YthbcfcbonmphfaaDoor
