/- An index of versions: numbers that are none; the reference's Is. -/
import Derived.Test.YthnlcbeibhhjpaaVtK
namespace Go.Proofs.Ythnlcbeibhhjpaa
open Go.RowKit
set_option maxRecDepth 100000
set_option maxHeartbeats 4000000 in
theorem ixCheck_no (P : Nat → Prop) (x tl nv cap m cp : Nat) (G A : Option Addr) (L : List Int) (w : World) (hx : w.heap[x]? = some (.cells #[.slice G nv cap, .pointer (some ⟨tl, 0, none⟩)] 67 (0, 0))) (hm : L.length = m) (hml : m ≤ 2000) (h : IntsAt P w A L) (hL : ¬ InV nv L) :
    Calls Try.prog 40 #[.pointer (some ⟨x, 0, none⟩), .slice A m cp] w fun e w' => e = .returned (.int .i64 24) ∧ w = w' := by
  obtain ⟨⟨b0, b1⟩, _, _⟩ := bk2 hx
  have HM := Lib.hid hm
  have H1 := Lib.hid h
  have HL := Lib.hid hL
  clear hx hm h hL
  go_enter Try.func40, Try.ntmps40
  go_wp2_with fail
  go_loop [11] (fun s => ∃ k : Nat, k ≤ m ∧ s = .int .i64 k ∧ (∀ (i : Nat) (y : Int), i < k → L[i]? = some y → 0 ≤ y ∧ y < (nv : Int))) (fun s => m - (intOf s).toNat)
  case atStart => exact ⟨0, by omega, rfl, fun i y hi => absurd hi (by omega)⟩
  case round =>
    obtain ⟨k, hk, rfl, hall⟩ := hrel
    have HALL := Lib.hid hall
    clear hall
    by_cases hlt : k < m
    · have hltI : (k : Int) < (m : Int) := by omega
      obtain ⟨y, hy⟩ : ∃ y, L[k]? = some y := ⟨L[k]'(by rw [HM.out]; exact hlt), List.getElem?_eq_getElem _⟩
      obtain ⟨b, off, hA, _, hc⟩ := H1.out (by rw [HM.out]; omega)
      subst hA
      have y0 := hc k y hy
      have HY := Lib.hid hy
      clear hc hy
      by_cases h1 : y < 0
      · have d1 : decide (y < 0) = true := decide_eq_true h1
        clear h1
        go_wp2_with fail
        go_ret
        exact ⟨rfl, rfl⟩
      · have d1 : decide (y < 0) = false := decide_eq_false h1
        by_cases h2 : (nv : Int) ≤ y
        · have d2 : decide ((nv : Int) ≤ y) = true := decide_eq_true h2
          clear h1 h2
          go_wp2_with fail
          go_ret
          exact ⟨rfl, rfl⟩
        · have d2 : decide ((nv : Int) ≤ y) = false := decide_eq_false h2
          have HYV : Hid (0 ≤ y ∧ y < (nv : Int)) := Lib.hid ⟨by omega, by omega⟩
          clear h1 h2
          go_wp2_with fail
          go_round
          case rel =>
            refine ⟨k + 1, by omega, by go_num, fun i y' hi hy' => ?_⟩
            by_cases hik : i = k
            · subst hik
              rw [HY.out] at hy'
              rw [← Option.some.inj hy']; exact HYV.out
            · exact HALL.out i y' (by omega) hy'
          case measure => simp [intOf]; omega
    · exfalso
      refine HL.out fun y hy => ?_
      obtain ⟨i, hi⟩ := List.getElem?_of_mem hy
      exact HALL.out i y (by have := (List.getElem?_eq_some_iff.1 hi).1; have := HM.out; omega) hi
set_option maxHeartbeats 4000000 in
theorem branch_no (B x nv : Nat) (p : Int) (Vs : List Vn) (w : World) (h : IxM B x Vs w) (hl : Vs.length = nv) (_hn : nv ≤ 900) (hp : ¬ (0 ≤ p ∧ p < (nv : Int))) :
    Calls Try.prog 33 #[.pointer (some ⟨x, 0, none⟩), .int .i64 p] w fun e w' => e = .returned (.tuple #[.int .i64 0, .int .i64 24]) ∧ Below w.heap.size w w' ∧ Kv w w' := by
  obtain ⟨⟨tl, G, cap, mv, E, hr, ht⟩, hok⟩ := h
  rw [hl] at hr
  have hw1 : Below w.heap.size w (w.alloc (.cells #[.int .i64 p] 3)) := (Below.refl _ _).alloc (Nat.le_refl _) _
  have HCK := Lib.hid (ixCheck_no (fun _ => True) x tl nv cap 1 1 G (some ⟨w.heap.size, 0, none⟩) [p] (w.alloc (.cells #[.int .i64 p] 3)) (hr.below hw1).box rfl (by omega) (ints_blk [p] (bdNew w _) rfl trivial) (fun h => hp (h p (by simp))))
  have HB1 := Lib.hid hw1
  clear hr ht hok hw1 hp
  go_enter Try.func33, Try.ntmps33
  go_wp2_with fail
  refine HCK.out.mono ?_
  rintro er w1 ⟨rfl, rfl⟩
  go_wp2_with fail
  go_ret2
  exact ⟨rfl, HB1.out, (Kv.refl w).alloc _⟩
set_option maxHeartbeats 4000000 in
theorem refIs_any (A : Option Addr) (cap n : Nat) (k : Int) (w : World) (_hn : n ≤ 1000000) (bb : Bool) (hbb : bb = (decide (0 ≤ k) && decide (k < (n : Int)))) :
    Calls Try.prog 18 #[.agg #[.slice A n cap], .int .i64 k] w fun e w' => e = .returned (.bool bb) ∧ Below w.heap.size w w' := by
  have HBB := Lib.hid hbb
  clear hbb
  by_cases h1 : 0 ≤ k
  · have d1 : decide (0 ≤ k) = true := decide_eq_true h1
    have HBB2 : Hid (bb = decide (k < (n : Int))) := Lib.hid (by rw [HBB.out, d1]; rfl)
    clear h1
    go_enter Try.func18, Try.ntmps18
    go_wp2_with fail
    go_ret
    exact ⟨by rw [HBB2.out]; rfl, (Below.refl _ _).alloc (Nat.le_refl _) _⟩
  · have d1 : decide (0 ≤ k) = false := decide_eq_false h1
    have HBB2 : Hid (bb = false) := Lib.hid (by rw [HBB.out, d1]; rfl)
    clear h1
    go_enter Try.func18, Try.ntmps18
    go_wp2_with fail
    go_ret
    exact ⟨by rw [HBB2.out]; rfl, (Below.refl _ _).alloc (Nat.le_refl _) _⟩
end Go.Proofs.Ythnlcbeibhhjpaa
