/- Walks: Get; the reference's Rank and Next. -/
import Derived.Test.YtakaadoppijeaaaDoorBvD
namespace Go.Proofs.YtakaadoppijeaaaDoor
open Go.RowKit
set_option maxRecDepth 100000
set_option maxHeartbeats 1000000 in
theorem bv_get_out (x wb bb : Nat) (i : Int) (l : List Bool) (w : World) (h : BV x wb bb l w) (hi : i < 0 ∨ l.length ≤ i) :
    Calls Tryd.prog 19 #[.pointer (some ⟨x, 0, none⟩), .int .i64 i] w fun e w' => e = .returned (.tuple #[.bool false, .int .i64 2]) ∧ w = w' := by
  obtain ⟨⟨c0, c1, c2⟩, _, _, _⟩ := bk3 h.box
  clear h
  by_cases h0 : i < 0
  · have hd : decide (i < 0) = true := decide_eq_true h0
    go_enter Tryd.func19, Tryd.ntmps19
    go_wp2_with fail
    go_ret2
    exact ⟨rfl, rfl⟩
  · have hd : decide (i < 0) = false := decide_eq_false h0
    have h1 : (l.length : Int) ≤ i := by omega
    have hd2 : decide ((l.length : Int) ≤ i) = true := decide_eq_true h1
    go_enter Tryd.func19, Tryd.ntmps19
    go_wp2_with fail
    go_ret2
    exact ⟨rfl, rfl⟩
set_option maxHeartbeats 1000000 in
theorem bv_get_in (x wb bb i : Nat) (l : List Bool) (w : World) (h : BV x wb bb l w) (hl : l.length ≤ 2000000) (hi : i < l.length) :
    Calls Tryd.prog 19 #[.pointer (some ⟨x, 0, none⟩), .int .i64 i] w fun e w' => e = .returned (.tuple #[.bool (l.getD i false), .int .i64 0]) ∧ w = w' := by
  obtain ⟨⟨c0, c1, c2⟩, _, _, _⟩ := bk3 h.box
  have HBT := Lib.hid (bit_any x wb bb i l w h hl hi)
  generalize l.getD i false = v at HBT ⊢
  have hiI : (i : Int) < (l.length : Int) := by omega
  have hd : decide ((l.length : Int) ≤ (i : Int)) = false := decide_eq_false (by omega)
  have hdn : decide (l.length ≤ i) = false := decide_eq_false (by omega)
  clear h
  go_enter Tryd.func19, Tryd.ntmps19
  go_wp2_with fail
  refine HBT.out.mono ?_
  rintro e w1 ⟨rfl, rfl⟩
  go_wp2_with fail
  go_ret2
  exact ⟨rfl, rfl⟩

/-- A slice of bools reads as a list; its block is one of P. -/
def BitsAt (P : Nat → Prop) (w : World) (A : Option Addr) (L : List Bool) : Prop :=
  0 < L.length → ∃ b off, A = some ⟨b, off, none⟩ ∧ P b ∧ ∀ (i : Nat) (x : Bool), L[i]? = some x → w.cell? ⟨b, off + i, none⟩ = some (.bool x)
theorem rkB_succ {l : List Bool} {k : Nat} {x : Bool} (h : l[k]? = some x) (b : Bool) : rkB l b (k + 1) = rkB l b k + if x == b then 1 else 0 := by
  unfold rkB
  rw [List.take_add_one, h, Option.toList_some, List.countP_append, List.countP_singleton]
set_option maxHeartbeats 2000000 in
theorem refRank_any (A : Option Addr) (cp i : Nat) (b : Bool) (L : List Bool) (P : Nat → Prop) (w : World) (hm : L.length ≤ 2000000) (hi : i ≤ L.length) (hA : BitsAt P w A L) :
    Calls Tryd.prog 13 #[.slice A L.length cp, .bool b, .int .i64 i] w fun e w' => e = .returned (.int .i64 (rkB L b i)) ∧ w = w' := by
  have HA := Lib.hid hA
  clear hA
  go_enter Tryd.func13, Tryd.ntmps13
  go_wp2_with fail
  go_loopw [7, 8] (fun u v wr => ∃ k q : Nat, k ≤ i ∧ v = .int .i64 k ∧ u = .int .i64 q ∧ q = rkB L b k ∧ q ≤ k ∧ w = wr) (fun _ v _ => i - (intOf v).toNat)
  case atStart => exact ⟨0, 0, by omega, rfl, rfl, by simp [rkB], by omega, rfl⟩
  case round =>
    obtain ⟨k, q, hk, rfl, rfl, hq, hqk, rfl⟩ := hrel
    have HQ := Lib.hid hq
    clear hq
    by_cases hlt : k < i
    · obtain ⟨x, hx⟩ : ∃ x, L[k]? = some x := ⟨L[k]'(by omega), List.getElem?_eq_getElem _⟩
      obtain ⟨p, off, hAe, _, hc⟩ := HA.out (by omega)
      subst hAe
      have x0 := hc k x hx
      have hkI : (k : Int) < (L.length : Int) := by omega
      have HT := Lib.hid (rkB_succ hx b)
      clear hc hx
      by_cases hxb : x = b
      · subst hxb
        have HN : Hid (q + 1 = rkB L x (k + 1)) := Lib.hid (by rw [HT.out, ← HQ.out]; simp)
        have hbb : (x == x) = true := by simp
        go_wp2_with fail
        go_roundw
        case rel => exact ⟨k + 1, q + 1, by omega, by go_num, by go_num, HN.out, by omega, by trivial⟩
        case measure => simp [intOf]; omega
      · have hbb : (x == b) = false := by simpa using hxb
        have HN : Hid (q = rkB L b (k + 1)) := Lib.hid (by rw [HT.out, ← HQ.out, hbb]; rfl)
        go_wp2_with fail
        go_roundw
        case rel => exact ⟨k + 1, q, by omega, by go_num, rfl, HN.out, by omega, by trivial⟩
        case measure => simp [intOf]; omega
    · have hki : k = i := by omega
      subst hki
      go_wp2_with fail
      go_ret
      exact ⟨retI (by rw [← HQ.out]), rfl⟩
end Go.Proofs.YtakaadoppijeaaaDoor
