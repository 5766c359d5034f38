/- What an insertion leaves; plain facts on relabelling. -/
import Derived.Test.YthnlcbeibhhjpaaOrdI
namespace Go.Proofs.Ythnlcbeibhhjpaa
open Go.RowKit
set_option maxRecDepth 100000
/-- What an insertion that succeeds leaves: the list E with a new element at k. -/
def InsP (B x made : Nat) (mv : Int) (E : List El) (k : Nat) (w : World) (er : Ending) (w' : World) : Prop :=
  er = .returned (.tuple #[.int .i64 made, .int .i64 0]) ∧ (∃ (a : Nat) (G' : Option Addr) (cap' : Nat), B ≤ a ∧ OL B x G' cap' (made + 1) mv (insE E k ⟨made, loE E k + (hiE E k - loE E k) / 2, a⟩) w') ∧ Below B w w' ∧ Kp w w'
theorem relab_get {E : List El} {st : Nat} : ∀ (k j : Nat), (relab E st k)[j]? = if j < k then (E[j]?).map (fun e => { e with lab := (((j + 1) * st : Nat) : Int) }) else E[j]?
  | 0, j => by simp [relab]
  | k + 1, j => by
    unfold relab
    cases hk : E[k]? with
    | none =>
      simp only
      rw [relab_get k j]
      by_cases h1 : j < k
      · rw [if_pos h1, if_pos (by omega)]
      · by_cases h2 : j = k
        · rw [h2, hk]; simp
        · rw [if_neg h1, if_neg (by omega)]
    | some e =>
      simp only
      rw [List.getElem?_set]
      by_cases h2 : k = j
      · subst h2
        rw [if_pos rfl, if_pos (show k < (relab E st k).length by rw [relab_len]; exact (List.getElem?_eq_some_iff.1 hk).1), if_pos (show k < k + 1 by omega), hk]
        rfl
      · rw [if_neg h2, relab_get k j]
        by_cases h1 : j < k
        · rw [if_pos h1, if_pos (by omega)]
        · rw [if_neg h1, if_neg (by omega)]
theorem relab_full {E : List El} {st j : Nat} {e : El} (hj : E[j]? = some e) : (relab E st E.length)[j]? = some { e with lab := (((j + 1) * st : Nat) : Int) } := by
  rw [relab_get, if_pos (List.getElem?_eq_some_iff.1 hj).1, hj]
  rfl
end Go.Proofs.Ythnlcbeibhhjpaa
