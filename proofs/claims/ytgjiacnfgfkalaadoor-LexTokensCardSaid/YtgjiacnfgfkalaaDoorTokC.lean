/- LexTokens: slices.Equal on the same tokens; the law's walk from what both sides hand back. -/
import Derived.Test.YtgjiacnfgfkalaaDoorBackA
import Derived.Test.YtgjiacnfgfkalaaDoorTokA
namespace Go.Proofs.YtgjiacnfgfkalaaDoor
open Go.RowKit

set_option maxRecDepth 100000 in
set_option maxHeartbeats 1000000 in
theorem equal_true (A1 A2 : Option Addr) (c1 c2 n : Nat) (L : List Tk) (w : World) (hn : L.length = n) (hm : n ≤ maxLen) (h1 : SlT w A1 L) (h2 : SlT w A2 L) :
    Calls Tryd.prog 17 #[.slice A1 n c1, .slice A2 n c2] w fun e w' => e = .returned (.bool true) ∧ ∃ q, w' = w.drewN q := by
  unfold maxLen at hm
  have HN := Lib.hid hn
  have H1 := Lib.hid h1
  have H2 := Lib.hid h2
  clear hn h1 h2
  go_enter Tryd.func17, Tryd.ntmps17
  go_wp2_with fail
  go_loopw [13] (fun i wr => ∃ k q : Nat, k ≤ n ∧ i = .int .i64 k ∧ wr = w.drewN q) (fun i _ => n - (intOf i).toNat)
  case atStart => exact ⟨0, 0, by omega, rfl, rfl⟩
  case round =>
    obtain ⟨k, q, hkn, rfl, rfl⟩ := hrel
    by_cases hlt : k < n
    · obtain ⟨t, ht⟩ : ∃ t, L[k]? = some t := ⟨L[k]'(by rw [HN.out]; exact hlt), List.getElem?_eq_getElem _⟩
      obtain ⟨b, off, hA, hblt, hc⟩ := H1.out (by rw [HN.out]; omega)
      subst hA
      obtain ⟨b', off', hA', hblt', hc'⟩ := H2.out (by rw [HN.out]; omega)
      subst hA'
      obtain ⟨x0, x1, x2, x3, x4⟩ := hc k t ht
      obtain ⟨y0, y1, y2, y3, y4⟩ := hc' k t ht
      have hkI : (k : Int) < (n : Int) := by omega
      clear hc hc' ht
      go_wp2
      go_quiet (fail)
      go_wp2
      go_roundw
      case rel => exact ⟨k + 1, _, by omega, by go_num, rfl⟩
      case measure => simp [intOf]; omega
    · go_wp2
      go_ret
      exact ⟨rfl, _, rfl⟩

/-- What either Tokens hands back, one form for every outcome. -/
def OutT (L : List Tk) (a b c : Int) (w : World) (e : Ending) (w' : World) : Prop :=
  Below w.heap.size w w' ∧ ∃ A cap, e = .returned (.tuple #[.slice A L.length cap, .agg #[.int .i64 a, .int .i64 b], .int .i64 c]) ∧ SlT w' A L ∧ L.length ≤ maxLen
theorem own_len {w : World} {B n : Nat} {v : Value} {xs : List Value} (h : w.ownsRow B 25 5 v n xs) : n ≤ maxLen := by
  rcases h.2 with ⟨_, h0⟩ | ⟨_, cap, _, _, _, _, h1, h2, _⟩
  · rw [h0]; unfold maxLen; omega
  · omega
def outL (s : ByteArray) : List Tk := match toks s.data.toList 1 1 with
  | .ok l => l
  | .error _ => []
def outP (s : ByteArray) : Int × Int := match toks s.data.toList 1 1 with
  | .ok _ => (0, 0)
  | .error p => p
def outE (s : ByteArray) : Int := match toks s.data.toList 1 1 with
  | .ok _ => 0
  | .error _ => 7
theorem out_of {s : ByteArray} {w w' : World} {e : Ending} (h : TokensPost s w e w') : OutT (outL s) (outP s).1 (outP s).2 (outE s) w e w' := by
  obtain ⟨hb, h⟩ := h
  unfold outL outP outE
  cases ht : toks s.data.toList 1 1 with
  | ok l =>
    rw [ht] at h
    obtain ⟨v, rfl, ho⟩ := h
    obtain ⟨A, cap, rfl, hs, hn⟩ := slT_own ho
    exact ⟨hb, A, cap, rfl, hs, own_len ho⟩
  | error p =>
    rw [ht] at h
    obtain rfl := h
    exact ⟨hb, none, 0, rfl, fun h => absurd h (by simp), by simp [maxLen]⟩
theorem out_full {w w' : World} {e : Ending} (h : e = .returned (.tuple #[.slice none 0 0, .agg #[.int .i64 0, .int .i64 0], .int .i64 4]) ∧ Below w.heap.size w w') : OutT [] 0 0 4 w e w' :=
  ⟨h.2, none, 0, h.1, fun h => absurd h (by simp), by simp [maxLen]⟩

set_option maxHeartbeats 1000000 in
theorem lexTokens_main (s : ByteArray) (w : World) (L : List Tk) (a b c : Int) (hp : Pairs w) (hg : s.size ≤ 2000 ∨ (65536 < s.size ∧ s.size ≤ 65546))
    (C1 : ∀ W, Pairs W → Calls Tryd.prog 15 #[.string s] W (OutT L a b c W)) (C2 : ∀ W, Calls Tryd.prog 16 #[.string s] W (OutT L a b c W)) :
    Calls Tryd.prog 4 #[.string s] w fun e w' => e = .returned (.bool true) ∧ Below w.heap.size w w' := by
  have HP := Lib.hid hp
  have HC1 := Lib.hid C1
  have HC2 := Lib.hid C2
  clear hp C1 C2
  have D : ∃ d1 d2 : Bool, decide ((2000 : Int) < (s.size : Int)) = d1 ∧ decide ((s.size : Int) ≤ 65536) = d2 ∧ (d1 && d2) = false ∧ decide ((65546 : Int) < (s.size : Int)) = false := by
    refine ⟨_, _, rfl, rfl, ?_, ?_⟩
    · rcases hg with h | h
      · simp; omega
      · simp; omega
    · simp; omega
  obtain ⟨d1, d2, h1, h2, h3, h4⟩ := D
  clear hg
  cases d1 <;> cases d2
  all_goals
    first
      | (exfalso; revert h3; decide)
      | (clear h3
         go_enter Tryd.func4, Tryd.ntmps4
         go_wp2_with fail
         refine (awake_any _ HP.out).mono ?_
         rintro e w1 ⟨rfl, hb1⟩
         have HB1 := Lib.hid hb1
         clear hb1
         go_wp2_with fail
         refine (HC1.out w1 (HP.out.below HB1.out HP.out.lt)).mono ?_
         rintro e w2 ⟨hb2, A, cap, rfl, hs, hm⟩
         have HB2 := Lib.hid (HB1.out.trans (hb2.mono HB1.out.size))
         have HS := Lib.hid hs
         have HM := Lib.hid hm
         clear hb2 hs hm
         go_wp2_with fail
         refine (HC2.out _).mono ?_
         rintro e w3 ⟨hb3, A', cap', rfl, hs3, _⟩
         have HS1 := Lib.hid (HS.out.below (((Below.refl _ _).alloc (Nat.le_refl _) _).trans (hb3.mono (by simp))))
         have HS2 := Lib.hid hs3
         obtain ⟨⟨z0, z1⟩, zf0, zf1⟩ := blk2 ((hb3.block _ (by simp)).trans (heap_alloc_new w2 _))
         have HB3 := Lib.hid ((HB2.out.alloc HB2.out.size _).trans (hb3.mono (by have := HB2.out.size; simp; omega)))
         have hlt : w2.heap.size < w3.heap.size := by have := hb3.size; simp at this; omega
         clear hb3 hs3
         go_wp2_with fail
         refine (equal_true A A' cap cap' L.length L _ rfl HM.out (HS1.out.below ((Below.refl _ _).alloc (Nat.le_refl _) _)) (HS2.out.below ((Below.refl _ _).alloc (Nat.le_refl _) _))).mono ?_
         rintro e w4 ⟨rfl, q, rfl⟩
         go_wp2
         go_ret
         exact ⟨rfl, below_drewN (HB3.out.alloc HB3.out.size _) q⟩)

set_option maxHeartbeats 1000000 in
theorem lexTokens_skip (s : ByteArray) (w : World) (hp : Pairs w) (hg : (2000 < s.size ∧ s.size ≤ 65536) ∨ 65546 < s.size) :
    Calls Tryd.prog 4 #[.string s] w fun e w' => e = .returned (.bool true) ∧ Below w.heap.size w w' := by
  have HP := Lib.hid hp
  clear hp
  have h1 : decide ((2000 : Int) < (s.size : Int)) = true := by simp; omega
  have D : ∃ d2 d3 : Bool, decide ((s.size : Int) ≤ 65536) = d2 ∧ decide ((65546 : Int) < (s.size : Int)) = d3 ∧ (d2 || d3) = true := by
    refine ⟨_, _, rfl, rfl, ?_⟩
    rcases hg with h | h
    · simp; omega
    · simp; omega
  obtain ⟨d2, d3, h2, h3, h4⟩ := D
  clear hg
  cases d2 <;> cases d3
  all_goals
    first
      | (exfalso; revert h4; decide)
      | (clear h4
         go_enter Tryd.func4, Tryd.ntmps4
         go_wp2_with fail
         refine (awake_any _ HP.out).mono ?_
         rintro e w1 ⟨rfl, hb1⟩
         have HB1 := Lib.hid hb1
         clear hb1
         go_wp2
         go_ret
         exact ⟨rfl, HB1.out⟩)
end Go.Proofs.YtgjiacnfgfkalaaDoor
