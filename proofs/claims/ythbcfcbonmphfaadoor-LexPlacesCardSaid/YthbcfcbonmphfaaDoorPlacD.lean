/- LexPlaces: the short ways, and the law on any string and any gaps. -/
import Derived.Test.YthbcfcbonmphfaaDoorPlacC
namespace Go.Proofs.YthbcfcbonmphfaaDoor
set_option maxRecDepth 100000
open Go.RowKit

set_option maxRecDepth 100000 in
set_option maxHeartbeats 1000000 in
theorem lexPlaces_skip (s : ByteArray) (G : Option Addr) (gl gc : Nat) (w : World) (hp : Pairs w) (hg : 400 < s.size ∨ 100 < gl) :
    Calls Tryd.prog 7 #[.string s, .slice G gl gc] w fun e w' => e = .returned (.bool true) ∧ Below w.heap.size w w' := by
  have HP := Lib.hid hp
  clear hp
  have D : ∃ d1 d2 : Bool, decide ((400 : Int) < (s.size : Int)) = d1 ∧ decide ((100 : Int) < (gl : Int)) = d2 ∧ (d1 || d2) = true := by
    refine ⟨_, _, rfl, rfl, ?_⟩
    rcases hg with h | h
    · simp; omega
    · simp; omega
  obtain ⟨d1, d2, h1, h2, h4⟩ := D
  clear hg
  cases d1 <;> cases d2
  all_goals
    first
      | (exfalso; revert h4; decide)
      | (clear h4
         go_enter Tryd.func7, Tryd.ntmps7
         go_wp2_with fail
         refine (awake_any _ HP.out).mono ?_
         rintro e w1 ⟨rfl, hb1⟩
         have HB1 := Lib.hid hb1
         clear hb1
         go_wp2
         go_ret
         exact ⟨rfl, HB1.out⟩)

set_option maxRecDepth 100000 in
set_option maxHeartbeats 1000000 in
theorem lexPlaces_bad (s : ByteArray) (G : Option Addr) (gl gc : Nat) (p : Int × Int) (w : World) (hp : Pairs w) (htk : toks s.data.toList 1 1 = .error p) (hs : s.size ≤ 400) (hgs : gl ≤ 100) :
    Calls Tryd.prog 7 #[.string s, .slice G gl gc] w fun e w' => e = .returned (.bool true) ∧ Below w.heap.size w w' := by
  have HP := Lib.hid hp
  have HTK := Lib.hid htk
  clear hp htk
  have d1 : decide ((400 : Int) < (s.size : Int)) = false := by simp; omega
  have d2 : decide ((100 : Int) < (gl : Int)) = false := by simp; omega
  go_enter Tryd.func7, Tryd.ntmps7
  go_wp2_with fail
  refine (awake_any _ HP.out).mono ?_
  rintro e w1 ⟨rfl, hb1⟩
  have HB1 := Lib.hid hb1
  clear hb1
  go_wp2_with fail
  refine (tokens_any s w1 (by omega) (HP.out.below HB1.out HP.out.lt)).mono ?_
  rintro e w2 ⟨hb2, hT⟩
  rw [HTK.out] at hT
  obtain rfl := hT
  have HB2 := Lib.hid (HB1.out.trans (hb2.mono HB1.out.size))
  clear hb2
  go_wp2
  go_ret
  exact ⟨rfl, HB2.out.alloc HB2.out.size _⟩

theorem lexPlaces_any (s : ByteArray) (G : Option Addr) (gc : Nat) (gs : List UInt8) (w : World) (hp : Pairs w) (hg : ByT w G gs) :
    Calls Tryd.prog 7 #[.string s, .slice G gs.length gc] w fun e w' => e = .returned (.bool true) ∧ Below w.heap.size w w' := by
  by_cases h1 : 400 < s.size ∨ 100 < gs.length
  · exact lexPlaces_skip s G gs.length gc w hp h1
  · cases ht : toks s.data.toList 1 1 with
    | ok L => exact lexPlaces_ok s G gc gs L w hp hg ht (by omega) (by omega)
    | error p => exact lexPlaces_bad s G gs.length gc p w hp ht (by omega) (by omega)
end Go.Proofs.YthbcfcbonmphfaaDoor
