/- Walks: bytes.Equal. -/
import Derived.Laws.BytesArg
import Derived.Lib.Strings
import Derived.Test.YtakaadoppijeaaaDoorBvT
namespace Go.Proofs.YtakaadoppijeaaaDoor
open Go.RowKit
set_option maxRecDepth 100000
def numsI (L : List Nat) : List Int := L.map fun n : Nat => (n : Int)
theorem str_eq {L M : List Nat} (hL : ∀ x ∈ L, x < 256) (hM : ∀ x ∈ M, x < 256) : ((strOfNums (numsI L)).toList == (strOfNums (numsI M)).toList) = decide (L = M) := by
  rw [Lib.toList_data, Lib.toList_data, strOfNums_data, strOfNums_data]
  unfold numsI
  rw [List.map_map, List.map_map]
  by_cases h : L = M
  · subst h; simp
  · rw [decide_eq_false h, beq_eq_false_iff_ne]
    intro e
    apply h
    have e2 := congrArg (List.map UInt8.toNat) e
    rw [List.map_map, List.map_map] at e2
    have key : ∀ K : List Nat, (∀ x ∈ K, x < 256) → K.map (UInt8.toNat ∘ ((fun n : Int => UInt8.ofNat n.toNat) ∘ fun n : Nat => (n : Int))) = K := fun K hK => by
      conv => rhs; rw [← List.map_id K]
      apply List.map_congr_left
      intro x hx
      have := hK x hx
      simp
      omega
    rwa [key L hL, key M hM] at e2
theorem bytes_conv (W : World) (g n c : Nat) (L : List Nat) (hn : L.length = n) (h : BytesAt W g L) : (convert 43 9 (.slice (some ⟨g, 0, none⟩) n c)).run Tryd.prog W = .ok (.string (strOfNums (numsI L))) W :=
  run_convert_bytes_arg (P := Tryd.prog) W 43 5 Tryd.underlying43 Tryd.underlying5 g 0 n c (numsI L) (by simp [numsI, hn]) (fun i hi => by
    have hx : L[i]? = some L[i] := List.getElem?_eq_getElem (by omega)
    rw [Nat.zero_add, h i _ hx]
    simp [numsI, List.getD_eq_getElem?_getD, hx]) _ Tryd.underlying9
set_option maxHeartbeats 1000000 in
theorem beq_any (g1 g2 n m c1 c2 : Nat) (L M : List Nat) (w : World) (hn : L.length = n) (hm : M.length = m) (hL : ∀ x ∈ L, x < 256) (hM : ∀ x ∈ M, x < 256) (h1 : BytesAt w g1 L) (h2 : BytesAt w g2 M) :
    Calls Tryd.prog 28 #[.slice (some ⟨g1, 0, none⟩) n c1, .slice (some ⟨g2, 0, none⟩) m c2] w fun e w' => e = .returned (.bool (decide (L = M))) ∧ w = w' := by
  have e1 := bytes_conv w g1 n c1 L hn h1
  have e2 := bytes_conv w g2 m c2 M hm h2
  rw [← str_eq hL hM]
  clear hn hm hL hM h1 h2
  go_enter Tryd.func28, Tryd.ntmps28
  go_wp2_with fail
  go_ret
  exact ⟨rfl, rfl⟩
theorem enc_lt (l : List Bool) : ∀ x ∈ enc l, x < 256 := by
  intro x hx
  unfold enc at hx
  rcases List.mem_append.1 hx with h | h
  · simp at h; omega
  · obtain ⟨j, _, rfl⟩ := List.mem_map.1 h
    exact enB_lt _ _ _
end Go.Proofs.YtakaadoppijeaaaDoor
