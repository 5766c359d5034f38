/- Walks: sort.Search at the closure of selected; selected. -/
import Derived.Test.YtakaadoppijeaaaDoorBvF
namespace Go.Proofs.YtakaadoppijeaaaDoor
open Go.RowKit
set_option maxRecDepth 100000
/-- The first number below n of which a test says true; n if there is none. -/
structure FirstOf (p : Nat → Bool) (n i : Nat) : Prop where
  le : i ≤ n
  lo : ∀ t, t < i → p t = false
  hi : i < n → p i = true
def FoundAt (p : Nat → Bool) (n : Nat) (w : World) (e : Ending) (w' : World) : Prop := ∃ i : Nat, e = .returned (.int .i64 i) ∧ FirstOf p n i ∧ ∃ q, w' = w.drewN q
/-- How far the search has come. -/
structure Between (p : Nat → Bool) (n lo hi : Nat) : Prop where
  lo : ∀ t, t < lo → p t = false
  hi : ∀ t, hi ≤ t → t < n → p t = true
set_option maxHeartbeats 4000000 in
theorem search_any (p : Nat → Bool) (n : Nat) (pf pk : Option Addr) (w : World) (hn : n ≤ 40000)
    (hf : ∀ (i q : Nat), i < n → Calls Tryd.prog 41 #[.int .i64 i, .pointer pf, .pointer pk] (w.drewN q) fun e w' => e = .returned (.bool (p i)) ∧ ∃ q', w' = w.drewN q')
    (hmono : ∀ a b, a ≤ b → b < n → p a = true → p b = true) :
    Calls Tryd.prog 40 #[.int .i64 n, .func (.func 41) #[] #[.pointer pf, .pointer pk]] w (FoundAt p n w) := by
  have HF := Lib.hid hf
  have HM := Lib.hid hmono
  clear hf hmono
  go_enter Tryd.func40, Tryd.ntmps40
  go_wp2_with fail
  go_loopw [5, 6] (fun s5 s6 wr => ∃ lo hi q : Nat, s5 = .int .i64 lo ∧ s6 = .int .i64 hi ∧ lo ≤ hi ∧ hi ≤ n ∧ wr = w.drewN q ∧ Between p n lo hi) (fun s5 s6 _ => (intOf s6).toNat - (intOf s5).toNat)
  case atStart => exact ⟨0, n, 0, rfl, rfl, by omega, by omega, rfl, ⟨fun t h => by omega, fun t h h' => by omega⟩⟩
  case round =>
    obtain ⟨lo, hi, q, rfl, rfl, hlh, hin, rfl, hb⟩ := hrel
    have HB := Lib.hid hb
    clear hb
    by_cases hlt : lo < hi
    · obtain ⟨m, hm⟩ : ∃ m, m = (lo + hi) / 2 := ⟨_, rfl⟩
      have hmI : ((lo : Int) + (hi : Int)) / 2 = (m : Int) := by omega
      have hm1 : lo ≤ m := by omega
      have hm2 : m < hi := by omega
      have HC := Lib.hid (HF.out m q (by omega))
      clear hm
      cases hp : p m
      · rw [hp] at HC
        have HP : Hid (Between p n (m + 1) hi) := Lib.hid ⟨fun t h => (by
          cases ht : p t with
          | false => rfl
          | true =>
            have := HM.out t m (by omega) (by omega) ht
            rw [hp] at this
            exact this.symm), HB.out.hi⟩
        clear hp
        go_wp2_with fail
        refine HC.out.mono ?_
        rintro e w1 ⟨rfl, q1, rfl⟩
        go_wp2_with fail
        go_roundw
        case rel => exact ⟨m + 1, hi, q1, by go_num, rfl, by omega, by omega, rfl, HP.out⟩
        case measure => simp [intOf]; omega
      · rw [hp] at HC
        have HP : Hid (Between p n lo m) := Lib.hid ⟨HB.out.lo, fun t h h' => HM.out m t h h' hp⟩
        clear hp
        go_wp2_with fail
        refine HC.out.mono ?_
        rintro e w1 ⟨rfl, q1, rfl⟩
        go_wp2_with fail
        go_roundw
        case rel => exact ⟨lo, m, q1, rfl, rfl, by omega, by omega, rfl, HP.out⟩
        case measure => simp [intOf]; omega
    · have he : lo = hi := by omega
      subst he
      have HP : Hid (FirstOf p n lo) := Lib.hid ⟨by omega, HB.out.lo, fun h => HB.out.hi lo (Nat.le_refl _) h⟩
      go_wp2_with fail
      go_ret
      exact ⟨lo, rfl, HP.out, q, rfl⟩
end Go.Proofs.YtakaadoppijeaaaDoor
