/- Walks: InsertAfter, where it is refused. Under way: where it is not. -/
import Derived.Test.YthnlcbeibhhjpaaOrdE
namespace Go.Proofs.Ythnlcbeibhhjpaa
open Go.RowKit
set_option maxRecDepth 100000
theorem ol_insert_nil (i : Int) (w : World) : Calls Try.prog 46 #[.pointer none, .int .i64 i] w fun e w' => e = .returned (.tuple #[.int .i64 0, .int .i64 1]) ∧ w = w' := by
  go_enter Try.func46, Try.ntmps46
  go_wp2_with fail
  go_ret2
  exact ⟨rfl, rfl⟩
set_option maxHeartbeats 2000000 in
theorem ol_insert_none (B x cap made : Nat) (G : Option Addr) (mv : Int) (E : List El) (i : Int) (w : World) (h : OL B x G cap made mv E w) (hm : made ≤ 2000) (hf : fP E i = none) (hi : i ≠ -1) :
    Calls Try.prog 46 #[.pointer (some ⟨x, 0, none⟩), .int .i64 i] w fun e w' => e = .returned (.tuple #[.int .i64 0, .int .i64 12]) ∧ w = w' := by
  have HF := Lib.hid (ol_find B x cap made G mv E i w h hm)
  rw [hf] at HF
  have h1 : (i == -1) = false := by simpa using hi
  have h2 : (i != -1) = true := by simpa using hi
  clear h hf hi
  go_enter Try.func46, Try.ntmps46
  go_wp2_with fail
  refine HF.out.mono ?_
  rintro e w1 ⟨rfl, rfl⟩
  go_wp2_with fail
  go_ret2
  exact ⟨rfl, rfl⟩
end Go.Proofs.Ythnlcbeibhhjpaa
