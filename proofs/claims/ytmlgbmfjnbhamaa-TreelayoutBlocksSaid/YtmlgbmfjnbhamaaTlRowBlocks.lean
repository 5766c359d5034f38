/- TreelayoutBlocks: its row: whatever the input, the law answers true and leaves it as it was. -/
import Derived.Test.YtmlgbmfjnbhamaaRows
import Derived.Test.YtmlgbmfjnbhamaaLawFrame
import Derived.Test.YtmlgbmfjnbhamaaTlW
import Derived.Test.YtmlgbmfjnbhamaaTlOpen
import Derived.LaidMore
import Derived.OpenShut
import Derived.Stop.Joined
import Derived.SevenTiedAt
namespace Go.Proofs.Ytmlgbmfjnbhamaa
set_option maxRecDepth 100000
open Go.ChangeShapes Go.WideShapes Go.ChangeAt Go.WideMaps Go.WideElems Go.RowKit
open Go.ChangeMaps (open_string)


set_option maxRecDepth 100000 in
theorem treelayoutBlocks_lifted (os : Os) (started : os.Started) (H : Type) (enc : TypeId × Value → H) :
    ReturnsInHanded {} Try.checked os 4 .any (Rows.treelayoutBlocksSpec.pre6 enc Try.prog Try.f4 Rows.treelayoutBlocksRow.domain false) (Rows.treelayoutBlocksSpec.post enc Try.prog Try.f4 false true false false) := by
  refine returnsInHanded_of_change (C := Try.checked) Try.own started (by kernel_rfl) Try.func4
    (ChangeSpec.witness6 (enc := enc) (C := Try.checked) false ⟨#[], #[.slice none 0 0, .slice none 0 0, .int .i64 0], []⟩ 8 (by kernel_rfl) (by kernel_rfl) (by kernel_rfl) (by kernel_rfl)) ?_
  intro W base args ds gs before hval0 hW _ _
  have hval : ∀ (j : Nat) t v, Try.f4.params[j]? = some t → args[j]? = some v → Value.okWide Try.prog W .any base t v := hval0
  have hW' := hW
  obtain ⟨p, q, hA0, hV, rfl, hfz, hnd⟩ := hW
  have hA : DataW.TrodAll enc Try.prog W 0 (fun _ => true) true Try.f4.params.toList args.toList ds p := hA0
  rw [Try.params4] at hA hval
  obtain ⟨v0, v1, v2, d0, d1, d2, p0, p1, p2, rfl, rfl, rfl, h0, h1, h2⟩ := trodAll_three hA
  obtain ⟨A0, c0, L0, rfl, hl0, hc0, hI0, hn0⟩ := ints_open (hval 0 23 v0 rfl rfl) h0
  obtain ⟨A1, c1, L1, rfl, hl1, hc1, hI1, hn1⟩ := ints_open (hval 1 23 v1 rfl rfl) h1
  obtain ⟨z, rfl, _, _, hw2⟩ := open_int Try.underlying3 (hval 2 3 v2 rfl rfl) h2

  refine (lawBlocks_any A0 A1 c0 c1 L0.length L1.length L0 L1 z W rfl rfl hI0 hI1).mono fun e W' ⟨he, hb⟩ => ?_
  subst he
  exact ⟨_, rfl, law_post (tb := 4) Try.laidOut (by rw [Try.params4]; intro t ht; simp at ht; rcases ht with rfl | rfl | rfl <;> exact ⟨by kernel_rfl, of_decide_eq_true (by kernel_rfl)⟩) Try.underlying4 (by kernel_rfl) rfl (by simp [Rows.treelayoutBlocksSpec]) hW' hb⟩

theorem treelayoutBlocks_holds : Rows.TreelayoutBlocksSaid :=
  OpenClaim.holds_of_wide 4 Try.f4 rfl rfl rfl rfl rfl rfl rfl ⟨rfl, rfl, rfl, rfl, rfl⟩ rfl rfl rfl rfl rfl (by kernel_rfl) Try.func4 (by kernel_rfl)
    (of_decide_eq_true (by kernel_rfl)) (by unfold Func.isWrapper; first | (rw [if_pos (by decide +kernel)]; kernel_rfl) | (rw [if_neg (by decide +kernel)]; exact ⟨rfl, rfl⟩))
    (fun os started H enc _ => treelayoutBlocks_lifted os started H enc)
#print axioms treelayoutBlocks_holds
end Go.Proofs.Ytmlgbmfjnbhamaa
