/- TermOrder: whatever the three terms, the law answers true and leaves them as they were. -/
import Derived.Test.YthbcfcbonmphfaaDoorLexNames
import Derived.Test.YthbcfcbonmphfaaDoorTermOpen
import Derived.Test.YthbcfcbonmphfaaDoorTermOrderW
import Derived.Test.YthbcfcbonmphfaaDoorTermVarsW
namespace Go.Proofs.YthbcfcbonmphfaaDoor
set_option maxRecDepth 100000
open Go.ChangeShapes Go.WideShapes Go.ChangeAt Go.WideMaps Go.WideElems Go.RowKit Go.Deep

theorem okT_mono {n m : Nat} (h : n ≤ m) {t : Tm} (ho : okT n t) : okT m t := by
  induction ho with
  | mk nm st ks h1 h2 h3 _ ih => exact .mk nm st ks (Nat.le_trans h1 h) (Nat.le_trans h2 h) (Nat.le_trans h3 h) ih
theorem formedOk : FormedOk := fun t A c n₀ w h1 h2 h3 => formed_any t A c n₀ w h1 h2 (okT_mono (by unfold maxLen; omega) h3)

set_option maxRecDepth 100000 in
theorem termOrder_lifted (os : Os) (started : os.Started) (H : Type) (enc : TypeId × Value → H) :
    ReturnsInHanded {} Tryd.checked os 9 .any (fun w args => (Rows.termOrderSpec.pre enc Tryd.prog Tryd.f9 [] false w args ∧ laidMetH Tryd.prog Rows.lexNamesRow.laid w) ∧ sizedMet enc Tryd.prog Tryd.f9 (OpenSpec.ofChange Rows.termOrderSpec) false w args)
      (Rows.termOrderSpec.post enc Tryd.prog Tryd.f9 false true false false) := by
  refine returnsInHanded_of_change_and (C := Tryd.checked) (X := fun w _ => laidMetH Tryd.prog Rows.lexNamesRow.laid w) (fun _ _ _ hh h => h.of_heap hh) Tryd.own started (by kernel_rfl) Tryd.func9
    (ChangeSpec.witness_shaped (enc := enc) (C := Tryd.checked) (os := os) (X := fun w _ => laidMetH Tryd.prog Rows.lexNamesRow.laid w) false (World.doorLaid Tryd.prog 400 os) #[.agg #[.string ⟨#[]⟩, .string ⟨#[]⟩, .slice none 0 0], .agg #[.string ⟨#[]⟩, .string ⟨#[]⟩, .slice none 0 0], .agg #[.string ⟨#[]⟩, .string ⟨#[]⟩, .slice none 0 0]] 8 rfl (World.shaped_of_RefB (by kernel_rfl) (by kernel_rfl)) (by kernel_rfl) (by kernel_rfl) (by kernel_rfl) (door_met os _)) ?_
  intro W base args ds gs before hval0 hW _ _ hL _
  have hval : ∀ (j : Nat) t v, Tryd.f9.params[j]? = some t → args[j]? = some v → Value.okWide Tryd.prog W .any base t v := hval0
  have hW' := hW
  obtain ⟨p, q, hA0, hV, rfl, hfz, hnd⟩ := hW
  have hA : DataW.TrodAll enc Tryd.prog W 0 (fun _ => true) true Tryd.f9.params.toList args.toList ds p := hA0
  rw [Tryd.params9] at hA hval
  obtain ⟨v0, v1, v2, d0, d1, d2, p0, p1, p2, rfl, rfl, rfl, h0, h1, h2⟩ := trodAll_three hA
  obtain ⟨a, A, ca, rfl, hoa, hra⟩ := open_term (hval 0 56 v0 rfl rfl) h0
  obtain ⟨b, B, cb, rfl, hob, hrb⟩ := open_term (hval 1 56 v1 rfl rfl) h1
  obtain ⟨c, C, cc, rfl, hoc, hrc⟩ := open_term (hval 2 56 v2 rfl rfl) h2
  refine (termOrder_any formedOk a b c A B C ca cb cc W (pairs_of_laid hL) hra hrb hrc hoa hob hoc).mono fun e W' ⟨he, hb⟩ => ?_
  subst he
  exact ⟨_, rfl, law_post (tb := 4) Tryd.laidOut (by rw [Tryd.params9]; intro t ht; simp at ht; subst ht; exact ⟨by kernel_rfl, of_decide_eq_true (by kernel_rfl)⟩) Tryd.underlying4 (by kernel_rfl) rfl (by simp [Rows.termOrderSpec]) hW' hb⟩

theorem termOrder_holds : Rows.TermOrderSaid :=
  OpenClaim.holds_of_wide 9 Tryd.f9 rfl rfl rfl rfl rfl rfl rfl ⟨rfl, rfl, rfl, rfl, rfl⟩ rfl rfl rfl rfl rfl (by kernel_rfl) Tryd.func9 (by kernel_rfl)
    (of_decide_eq_true (by kernel_rfl)) (by unfold Func.isWrapper; first | (rw [if_pos (by decide +kernel)]; kernel_rfl) | (rw [if_neg (by decide +kernel)]; exact ⟨rfl, rfl⟩))
    (fun os started H enc _ => termOrder_lifted os started H enc)

/-- The tied card. -/
theorem termOrder_card : Rows.TermOrderCardSaid :=
  Claim7.holds_tied_plain_at .later [] [.data] true (true, Rows.termOrderCard.stood.harness.2) false
    termOrder_holds (fun _ h => by cases h) (by kernel_rfl) (fun _ h => by cases h) termOrder_row_tie rfl ⟨rfl, rfl⟩ (by kernel_rfl) rfl
    (fun f fn hf hfn => by
      obtain rfl : f = 9 := Option.some.inj ((show Tryd.prog.funcNamed Rows.termOrderRow.func = some 9 by kernel_rfl).symm.trans hf) |>.symm
      obtain rfl : fn = Tryd.f9 := (Option.some.inj (Tryd.func9.symm.trans hfn)).symm
      exact ⟨by kernel_rfl, fun j t ht => by
        rw [Tryd.params9] at ht
        have h3 : t ∈ ([56, 56, 56] : List TypeId) := by
          have := Array.mem_of_getElem? ht
          simpa using this
        simp only [List.mem_cons, List.not_mem_nil, or_false, or_self] at h3
        subst h3
        exact (show Tryd.prog.wantsStandIn 56 = false by kernel_rfl)⟩)
    (by kernel_rfl)
#print axioms termOrder_card
end Go.Proofs.YthbcfcbonmphfaaDoor
