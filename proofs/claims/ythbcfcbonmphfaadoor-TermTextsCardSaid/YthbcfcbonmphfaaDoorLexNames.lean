/- LexNames: whatever the string and the token, the law answers true and leaves both as they were. -/
import Derived.Test.YthbcfcbonmphfaaDoorRows
import Derived.Test.YthbcfcbonmphfaaDoorTie
import Derived.Test.YthbcfcbonmphfaaDoorCards
import Derived.Test.YthbcfcbonmphfaaDoorLawFrame
import Derived.Test.YthbcfcbonmphfaaDoorLexI
import Derived.LaidMore
import Derived.OpenShut
import Derived.Stop.Joined
import Derived.SevenTiedAt
namespace Go.Proofs.YthbcfcbonmphfaaDoor
set_option maxRecDepth 100000
open Go.ChangeShapes Go.WideShapes Go.ChangeAt Go.WideMaps Go.WideElems Go.RowKit
open Go.ChangeMaps (open_string)

theorem Tryd.own : ownKnob Tryd.prog.godebug = none := by kernel_rfl
theorem Tryd.laidOut : laidOutB Tryd.prog = true := by kernel_rfl
theorem gPairs : Tryd.prog.globalNamed (Rows.lexNamesRow.named.headD "") = some 0 := by kernel_rfl
theorem tPairs : (Tryd.prog.globals[0]?).map (·.type) = some 190 := by kernel_rfl

/-- What the condition on the listed variable gives the walks. -/
theorem pairs_of_laid {W : World} (h : laidMetH Tryd.prog Rows.lexNamesRow.laid W) : Pairs W := by
  rw [MakeChecks.laidMetH_plain _ _ _ (by kernel_rfl)] at h
  obtain ⟨ps, ⟨g0, t0, cs0, f0, p0, q0, hg0, ht0, hv0, hd0, _⟩, _, _⟩ := h
  obtain rfl := Option.some.inj (gPairs.symm.trans hg0)
  obtain rfl := Option.some.inj (tPairs.symm.trans ht0)
  obtain ⟨xs, m1, rfl, hx1, hlen, hn4, hel⟩ := DataW.trod_array Tryd.underlying190 hd0
  have c1 : Tryd.prog.cellsOf 9 = 1 := by kernel_rfl
  have c4 : Tryd.prog.cellsOf 190 = 4 := by kernel_rfl
  rw [c4] at hlen
  have hcell := fun j => World.var?_cell hg0 hv0 j
  have key : ∀ (i : Nat) (hi : i < 4) (l : List UInt8), (xs[i]?.map (·.1)) = some (.lit (.string l)) → W.cell? ⟨0, i, none⟩ = some (.string ⟨l.toArray⟩) := by
    intro i hi l hl
    have h1 := hel i hi
    rw [c1, Nat.mul_one] at h1
    cases hx : xs[i]? with
    | none => rw [hx] at hl; cases hl
    | some x =>
      rw [hx] at hl h1
      obtain ⟨s, e1, e2, _⟩ := DataW.trod_string Tryd.underlying9 h1
      have hl' : x.1 = .lit (.string l) := by simpa using hl
      rw [e2] at hl'
      have es : s.data.toList = l := by simpa using hl'
      have hc := hcell i
      have hg : cs0.toList[i]? = some (.string s) := by
        have : (cs0.toList.drop i).take 1 = [.string s] := e1
        have h3 : ((cs0.toList.drop i).take 1)[0]? = some (.string s) := by rw [this]; rfl
        simpa using h3
      rw [← es, Lib.mk_data]
      rw [hc]
      simpa using hg
  have hx : xs.map (·.1) = [.lit (.string [61, 61]), .lit (.string [33, 61]), .lit (.string [60, 61]), .lit (.string [45, 62])] := by
    have := congrArg Prod.fst hx1
    simp only [Rows.laid_heartwood_lex_pairs, DataW.agg.injEq] at this
    exact this.symm
  have at_ : ∀ (i : Nat) (l : List UInt8), (xs.map (·.1))[i]? = some (DataW.lit (Lit.string l)) → (xs[i]?.map (·.1)) = some (DataW.lit (Lit.string l)) := fun i l h => by rw [← List.getElem?_map]; exact h
  exact ⟨key 0 (by decide) _ (at_ 0 _ (by rw [hx]; rfl)), key 1 (by decide) _ (at_ 1 _ (by rw [hx]; rfl)), key 2 (by decide) _ (at_ 2 _ (by rw [hx]; rfl)), key 3 (by decide) _ (at_ 3 _ (by rw [hx]; rfl))⟩

/-- The door's own heap meets the condition: three closed facts. -/
theorem door_met (os : Os) (args : Array Value) : laidMetH Tryd.prog Rows.lexNamesRow.laid ((World.doorLaid Tryd.prog 400 os).forCall (fun _ _ => 0) ⟨#[], args, []⟩).memory :=
  laidMetH_of_parts3 (fuel := 8) (laidMet_of_run' 8 (by kernel_rfl) (by kernel_rfl)) (by kernel_rfl) (by kernel_rfl)

section
variable {H : Type} {enc : TypeId × Value → H}
/-- A token that came in, opened to its five cells. -/
theorem open_token {w : World} {base : Nat} {spare : Nat → Bool} {held : Bool} {r : Reach} {b0 : Nat} {v : Value} {d : DataW H} {p : List MemPlace}
    (hv : Value.okWide Tryd.prog w r b0 25 v) (h : DataW.Trod enc Tryd.prog w base spare held 25 v d p) :
    ∃ (k : Int) (ts : ByteArray) (n a b : Int), v = .agg #[.int .i64 k, .string ts, .int .i64 n, .int .i64 a, .int .i64 b] := by
  obtain ⟨cs, rfl, hsz⟩ := okWide_struct Tryd.underlying25 hv
  have hC : Tryd.prog.cellsOf 25 = 5 := by kernel_rfl
  have hC3 : Tryd.prog.cellsOf 3 = 1 := by kernel_rfl
  have hC9 : Tryd.prog.cellsOf 9 = 1 := by kernel_rfl
  have hC23 : Tryd.prog.cellsOf 23 = 2 := by kernel_rfl
  obtain ⟨l⟩ := cs
  match l, hsz.trans hC with
  | [c0, c1, c2, c3, c4], _ =>
    obtain ⟨fuel, hf⟩ := h
    obtain ⟨xs, n, _, hx, _, hlen, hg⟩ := DataW.trod_struct Tryd.underlying25 hf
    match xs, hlen with
    | [y0, y1, y2, y3], _ =>
      have t0 : DataW.trod enc Tryd.prog w base spare held n 3 [c0] = some y0 := by simpa [hC3, Value.cells] using hg 0 _ rfl
      have t1 : DataW.trod enc Tryd.prog w base spare held n 9 [c1] = some y1 := by simpa [hC9, Value.cells] using hg 1 _ rfl
      have t2 : DataW.trod enc Tryd.prog w base spare held n 3 [c2] = some y2 := by simpa [hC3, Value.cells] using hg 2 _ rfl
      have t3 : DataW.trod enc Tryd.prog w base spare held n 23 [c3, c4] = some y3 := by simpa [hC23, Value.cells] using hg 3 _ rfl
      obtain ⟨k, e0, _, _⟩ := DataW.trod_int Tryd.underlying3 t0
      obtain ⟨ts, e1, _, _⟩ := DataW.trod_string Tryd.underlying9 t1
      obtain ⟨m, e2, _, _⟩ := DataW.trod_int Tryd.underlying3 t2
      obtain ⟨xs', n', _, hx', _, hlen', hg'⟩ := DataW.trod_struct Tryd.underlying23 t3
      match xs', hlen' with
      | [z0, z1], _ =>
        have u0 : DataW.trod enc Tryd.prog w base spare held n' 3 [c3] = some z0 := by simpa [hC3] using hg' 0 _ rfl
        have u1 : DataW.trod enc Tryd.prog w base spare held n' 3 [c4] = some z1 := by simpa [hC3] using hg' 1 _ rfl
        obtain ⟨a, e3, _, _⟩ := DataW.trod_int Tryd.underlying3 u0
        obtain ⟨b, e4, _, _⟩ := DataW.trod_int Tryd.underlying3 u1
        simp at e0 e1 e2 e3 e4
        subst e0 e1 e2 e3 e4
        exact ⟨k, ts, m, a, b, rfl⟩
end

set_option maxRecDepth 100000 in
theorem lexNames_lifted (os : Os) (started : os.Started) (H : Type) (enc : TypeId × Value → H) :
    ReturnsInHanded {} Tryd.checked os 3 .any (fun w args => (Rows.lexNamesSpec.pre enc Tryd.prog Tryd.f3 [] false w args ∧ laidMetH Tryd.prog Rows.lexNamesRow.laid w) ∧ sizedMet enc Tryd.prog Tryd.f3 (OpenSpec.ofChange Rows.lexNamesSpec) false w args)
      (Rows.lexNamesSpec.post enc Tryd.prog Tryd.f3 false true false false) := by
  refine returnsInHanded_of_change_and (C := Tryd.checked) (X := fun w _ => laidMetH Tryd.prog Rows.lexNamesRow.laid w) (fun _ _ _ hh h => h.of_heap hh) Tryd.own started (by kernel_rfl) Tryd.func3
    (ChangeSpec.witness_shaped (enc := enc) (C := Tryd.checked) (os := os) (X := fun w _ => laidMetH Tryd.prog Rows.lexNamesRow.laid w) false (World.doorLaid Tryd.prog 400 os) #[.string ⟨#[]⟩, .agg #[.int .i64 0, .string ⟨#[]⟩, .int .i64 0, .int .i64 0, .int .i64 0]] 8 rfl (World.shaped_of_RefB (by kernel_rfl) (by kernel_rfl)) (by kernel_rfl) (by kernel_rfl) (by kernel_rfl) (door_met os _)) ?_
  intro W base args ds gs before hval0 hW _ _ hL _
  have hval : ∀ (j : Nat) t v, Tryd.f3.params[j]? = some t → args[j]? = some v → Value.okWide Tryd.prog W .any base t v := hval0
  have hW' := hW
  obtain ⟨p, q, hA0, hV, rfl, hfz, hnd⟩ := hW
  have hA : DataW.TrodAll enc Tryd.prog W 0 (fun _ => true) true Tryd.f3.params.toList args.toList ds p := hA0
  rw [Tryd.params3] at hA hval
  obtain ⟨v0, v1, d0, d1, p0, p1, rfl, rfl, rfl, h0, h1⟩ := trodAll_two hA
  obtain ⟨s, rfl, rfl, rfl, hs⟩ := open_string Tryd.underlying9 (hval 0 9 v0 rfl rfl) h0
  obtain ⟨k, ts, n, a, b, rfl⟩ := open_token (hval 1 25 v1 rfl rfl) h1
  refine (lexNames_any s ts k n a b W (pairs_of_laid hL)).mono fun e W' ⟨he, hb⟩ => ?_
  subst he
  exact ⟨_, rfl, law_post (tb := 4) Tryd.laidOut (by rw [Tryd.params3]; intro t ht; simp at ht; rcases ht with rfl | rfl <;> exact ⟨by kernel_rfl, of_decide_eq_true (by kernel_rfl)⟩) Tryd.underlying4 (by kernel_rfl) rfl (by simp [Rows.lexNamesSpec]) hW' hb⟩

theorem lexNames_holds : Rows.LexNamesSaid :=
  OpenClaim.holds_of_wide 3 Tryd.f3 rfl rfl rfl rfl rfl rfl rfl ⟨rfl, rfl, rfl, rfl, rfl⟩ rfl rfl rfl rfl rfl (by kernel_rfl) Tryd.func3 (by kernel_rfl)
    (of_decide_eq_true (by kernel_rfl)) (by unfold Func.isWrapper; first | (rw [if_pos (by decide +kernel)]; kernel_rfl) | (rw [if_neg (by decide +kernel)]; exact ⟨rfl, rfl⟩))
    (fun os started H enc _ => lexNames_lifted os started H enc)

/-- The tied card. -/
theorem lexNames_card : Rows.LexNamesCardSaid :=
  Claim7.holds_tied_plain_at .later [] [.data] true (true, Rows.lexNamesCard.stood.harness.2) false
    lexNames_holds (fun _ h => by cases h) (by kernel_rfl) (fun _ h => by cases h) lexNames_row_tie rfl ⟨rfl, rfl⟩ (by kernel_rfl) rfl
    (fun f fn hf hfn => by
      obtain rfl : f = 3 := Option.some.inj ((show Tryd.prog.funcNamed Rows.lexNamesRow.func = some 3 by kernel_rfl).symm.trans hf) |>.symm
      obtain rfl : fn = Tryd.f3 := (Option.some.inj (Tryd.func3.symm.trans hfn)).symm
      exact ⟨by kernel_rfl, fun j t ht => by
        rw [Tryd.params3] at ht
        have h3 : t ∈ ([9, 25] : List TypeId) := by
          have := Array.mem_of_getElem? ht
          simpa using this
        simp only [List.mem_cons, List.not_mem_nil, or_false] at h3
        rcases h3 with rfl | rfl
        · exact (show Tryd.prog.wantsStandIn 9 = false by kernel_rfl)
        · exact (show Tryd.prog.wantsStandIn 25 = false by kernel_rfl)⟩)
    (by kernel_rfl)
#print axioms lexNames_card
end Go.Proofs.YthbcfcbonmphfaaDoor
