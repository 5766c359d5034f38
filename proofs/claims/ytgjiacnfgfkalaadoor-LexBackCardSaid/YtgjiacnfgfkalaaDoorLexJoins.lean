/- LexJoins: whatever the tokens, the law answers true and leaves them as they were. -/
import Derived.Test.YtgjiacnfgfkalaaDoorLexNames
import Derived.Test.YtgjiacnfgfkalaaDoorJoinD
import Derived.Deep.Slices
namespace Go.Proofs.YtgjiacnfgfkalaaDoor
open Go.ChangeShapes Go.WideShapes Go.ChangeAt Go.WideMaps Go.WideElems Go.RowKit Go.Deep
open Go.ChangeMaps (open_string)

section
variable {H : Type} {enc : TypeId × Value → H}
/-- The cells of one token that came in. -/
theorem token_cells {w : World} {base : Nat} {spare : Nat → Bool} {held : Bool} {n : Nat} {cs : List Value} {x : DataW H × List MemPlace} (h : DataW.trod enc Tryd.prog w base spare held n 25 cs = some x) :
    ∃ t : Tk, cs = tkCells t ∧ t.t.length ≤ maxLen := by
  have hC : Tryd.prog.cellsOf 25 = 5 := by kernel_rfl
  have hC3 : Tryd.prog.cellsOf 3 = 1 := by kernel_rfl
  have hC9 : Tryd.prog.cellsOf 9 = 1 := by kernel_rfl
  have hC23 : Tryd.prog.cellsOf 23 = 2 := by kernel_rfl
  obtain ⟨xs, n, _, hx, hl5, hlen, hg⟩ := DataW.trod_struct Tryd.underlying25 h
  match cs, hl5.trans hC with
  | [c0, c1, c2, c3, c4], _ =>
    match xs, hlen with
    | [y0, y1, y2, y3], _ =>
      have t0 : DataW.trod enc Tryd.prog w base spare held n 3 [c0] = some y0 := by simpa [hC3] using hg 0 _ rfl
      have t1 : DataW.trod enc Tryd.prog w base spare held n 9 [c1] = some y1 := by simpa [hC9] using hg 1 _ rfl
      have t2 : DataW.trod enc Tryd.prog w base spare held n 3 [c2] = some y2 := by simpa [hC3] using hg 2 _ rfl
      have t3 : DataW.trod enc Tryd.prog w base spare held n 23 [c3, c4] = some y3 := by simpa [hC23] using hg 3 _ rfl
      obtain ⟨k, e0, _, _⟩ := DataW.trod_int Tryd.underlying3 t0
      obtain ⟨ts, e1, _, hts⟩ := DataW.trod_string Tryd.underlying9 t1
      obtain ⟨m, e2, _, _⟩ := DataW.trod_int Tryd.underlying3 t2
      obtain ⟨xs', n', _, hx', _, hlen', hg'⟩ := DataW.trod_struct Tryd.underlying23 t3
      match xs', hlen' with
      | [z0, z1], _ =>
        have u0 : DataW.trod enc Tryd.prog w base spare held n' 3 [c3] = some z0 := by simpa [hC3] using hg' 0 _ rfl
        have u1 : DataW.trod enc Tryd.prog w base spare held n' 3 [c4] = some z1 := by simpa [hC3] using hg' 1 _ rfl
        obtain ⟨a, e3, _, _⟩ := DataW.trod_int Tryd.underlying3 u0
        obtain ⟨b, e4, _, _⟩ := DataW.trod_int Tryd.underlying3 u1
        simp at e0 e1 e2 e3 e4
        subst e0 e1 e2 e3 e4
        exact ⟨⟨k, ts.data.toList, m, a, b⟩, by simp only [tkCells], by rw [size_toList]; exact hts⟩

theorem list_of (len : Nat) (P : Nat → Tk → Prop) (h : ∀ i, i < len → ∃ t, P i t) : ∃ L : List Tk, L.length = len ∧ ∀ (i : Nat) (t : Tk), L[i]? = some t → P i t := by
  induction len with
  | zero => exact ⟨[], rfl, fun i t ht => by simp at ht⟩
  | succ n ih =>
    obtain ⟨L, hL, hP⟩ := ih (fun i hi => h i (by omega))
    obtain ⟨t, ht⟩ := h n (by omega)
    refine ⟨L ++ [t], by simp [hL], fun i u hu => ?_⟩
    rcases Nat.lt_or_ge i n with hi | hi
    · rw [List.getElem?_append_left (by omega)] at hu
      exact hP i u hu
    · rw [List.getElem?_append_right (by omega), hL] at hu
      have : i = n := by
        rcases Nat.eq_zero_or_pos (i - n) with h0 | h0
        · omega
        · rw [List.getElem?_eq_none (by simp; omega)] at hu; cases hu
      subst this
      simp at hu
      rw [← hu]
      exact ht

/-- A slice of tokens that came in. -/
theorem open_tokens {w : World} {spare : Nat → Bool} {held : Bool} {r : Reach} {b0 : Nat} {v : Value} {d : DataW H} {p : List MemPlace}
    (hv : Value.okWide Tryd.prog w r b0 30 v) (h : DataW.Trod enc Tryd.prog w 0 spare held 30 v d p) :
    ∃ (A : Option Addr) (cap : Nat) (L : List Tk), v = .slice A L.length cap ∧ L.length ≤ cap ∧ cap ≤ maxLen ∧ Texts L ∧ SlT w A L := by
  obtain ⟨a0, len0, cap0, rfl⟩ := okWide_slice Tryd.underlying30 hv
  obtain ⟨fuel, hf⟩ := h
  have hC : Tryd.prog.cellsOf 25 = 5 := by kernel_rfl
  rcases open_slice Tryd.underlying30 hf with ⟨hcs, _⟩ | ⟨a, len, cap, m, n, D, Pl, hcs, _, hl, hm, hmm, _, hi⟩
  · simp [Value.cells] at hcs
    obtain ⟨rfl, rfl, rfl⟩ := hcs
    exact ⟨none, 0, [], rfl, Nat.le_refl _, by unfold maxLen; omega, fun i t ht => by simp at ht, fun h => absurd h (by simp)⟩
  · simp [Value.cells] at hcs
    obtain ⟨rfl, rfl, rfl⟩ := hcs
    have hlm : len0 ≤ m := by rw [hmm]; split <;> omega
    obtain ⟨L, hL, hP⟩ := list_of len0 (fun i t => w.cells? 0 (a.add (i * 5)) 5 = some (tkCells t) ∧ t.t.length ≤ maxLen) (fun i hi' => by
      obtain ⟨cs', hc, ht'⟩ := hi i (by omega)
      rw [hC] at hc
      obtain ⟨t, rfl, hts⟩ := token_cells ht'
      exact ⟨t, hc, hts⟩)
    refine ⟨some a, cap0, L, by rw [hL], by omega, hm, fun i t ht => (hP i t ht).2, fun hpos => ?_⟩
    obtain ⟨b, off, spot⟩ := a
    have cell : ∀ (i : Nat) (t : Tk), L[i]? = some t → ∀ j, j < 5 → w.cell? ((⟨b, off, spot⟩ : Addr).add (i * 5 + j)) = (tkCells t)[j]? := fun i t ht j hj => by
      obtain ⟨_, _, hat⟩ := World.cells?_some (hP i t ht).1
      rw [← add_add]
      exact hat j hj
    have hspot : spot = none := by
      have h0 : L[0]? = some L[0] := List.getElem?_eq_getElem hpos
      have := cell 0 _ h0 0 (by omega)
      simpa [Addr.add] using World.cell?_spot this
    subst hspot
    have ad : ∀ n, (⟨b, off, none⟩ : Addr).add n = ⟨b, off + n, none⟩ := fun n => Go.WideShapes.add_plain ..
    refine ⟨b, off, rfl, ?_, fun i t ht => ?_⟩
    · have h0 : L[0]? = some L[0] := List.getElem?_eq_getElem hpos
      have := cell 0 _ h0 0 (by omega)
      rw [ad] at this
      exact World.block_lt_of_cell? w _ this
    · have c0 := cell i t ht 0 (by omega)
      have c1 := cell i t ht 1 (by omega)
      have c2 := cell i t ht 2 (by omega)
      have c3 := cell i t ht 3 (by omega)
      have c4 := cell i t ht 4 (by omega)
      rw [ad] at c0 c1 c2 c3 c4
      exact ⟨c0, c1, c2, c3, c4⟩
end

set_option maxRecDepth 100000 in
theorem lexJoins_lifted (os : Os) (started : os.Started) (H : Type) (enc : TypeId × Value → H) :
    ReturnsInHanded {} Tryd.checked os 5 .any (fun w args => (Rows.lexJoinsSpec.pre enc Tryd.prog Tryd.f5 [] false w args ∧ laidMetH Tryd.prog Rows.lexNamesRow.laid w) ∧ sizedMet enc Tryd.prog Tryd.f5 (OpenSpec.ofChange Rows.lexJoinsSpec) false w args)
      (Rows.lexJoinsSpec.post enc Tryd.prog Tryd.f5 false true false false) := by
  refine returnsInHanded_of_change_and (C := Tryd.checked) (X := fun w _ => laidMetH Tryd.prog Rows.lexNamesRow.laid w) (fun _ _ _ hh h => h.of_heap hh) Tryd.own started (by kernel_rfl) Tryd.func5
    (ChangeSpec.witness_shaped (enc := enc) (C := Tryd.checked) (os := os) (X := fun w _ => laidMetH Tryd.prog Rows.lexNamesRow.laid w) false (World.doorLaid Tryd.prog 400 os) #[.slice none 0 0] 8 rfl (World.shaped_of_RefB (by kernel_rfl) (by kernel_rfl)) (by kernel_rfl) (by kernel_rfl) (by kernel_rfl) (door_met os _)) ?_
  intro W base args ds gs before hval0 hW _ _ hL _
  have hval : ∀ (j : Nat) t v, Tryd.f5.params[j]? = some t → args[j]? = some v → Value.okWide Tryd.prog W .any base t v := hval0
  have hW' := hW
  obtain ⟨p, q, hA0, hV, rfl, hfz, hnd⟩ := hW
  have hA : DataW.TrodAll enc Tryd.prog W 0 (fun _ => true) true Tryd.f5.params.toList args.toList ds p := hA0
  rw [Tryd.params5] at hA hval
  obtain ⟨v0, d0, rfl, rfl, h0⟩ := trodAll_one hA
  obtain ⟨A, cap, L, rfl, hlc, hcm, hT, hSl⟩ := open_tokens (hval 0 30 v0 rfl rfl) h0
  refine (lexJoins_any A cap L W (pairs_of_laid hL) (by omega) hT hSl).mono fun e W' ⟨he, hb⟩ => ?_
  subst he
  exact ⟨_, rfl, law_post (tb := 4) Tryd.laidOut (by rw [Tryd.params5]; intro t ht; simp at ht; subst ht; exact ⟨by kernel_rfl, of_decide_eq_true (by kernel_rfl)⟩) Tryd.underlying4 (by kernel_rfl) rfl (by simp [Rows.lexJoinsSpec]) hW' hb⟩

theorem lexJoins_holds : Rows.LexJoinsSaid :=
  OpenClaim.holds_of_wide 5 Tryd.f5 rfl rfl rfl rfl rfl rfl rfl ⟨rfl, rfl, rfl, rfl, rfl⟩ rfl rfl rfl rfl rfl (by kernel_rfl) Tryd.func5 (by kernel_rfl)
    (of_decide_eq_true (by kernel_rfl)) (by unfold Func.isWrapper; first | (rw [if_pos (by decide +kernel)]; kernel_rfl) | (rw [if_neg (by decide +kernel)]; exact ⟨rfl, rfl⟩))
    (fun os started H enc _ => lexJoins_lifted os started H enc)

/-- The tied card. -/
theorem lexJoins_card : Rows.LexJoinsCardSaid :=
  Claim7.holds_tied_plain_at .later [] [.data] true (true, Rows.lexJoinsCard.stood.harness.2) false
    lexJoins_holds (fun _ h => by cases h) (by kernel_rfl) (fun _ h => by cases h) lexJoins_row_tie rfl ⟨rfl, rfl⟩ (by kernel_rfl) rfl
    (fun f fn hf hfn => by
      obtain rfl : f = 5 := Option.some.inj ((show Tryd.prog.funcNamed Rows.lexJoinsRow.func = some 5 by kernel_rfl).symm.trans hf) |>.symm
      obtain rfl : fn = Tryd.f5 := (Option.some.inj (Tryd.func5.symm.trans hfn)).symm
      exact ⟨by kernel_rfl, fun j t ht => by
        rw [Tryd.params5] at ht
        have hm : t ∈ ([30] : List TypeId) := by simpa using Array.mem_of_getElem? ht
        rw [List.mem_singleton.1 hm]
        exact (show Tryd.prog.wantsStandIn 30 = false by kernel_rfl)⟩)
    (by kernel_rfl)
#print axioms lexJoins_card
end Go.Proofs.YtgjiacnfgfkalaaDoor
