/- OrderlistPlays: its walk. -/
import Derived.Test.YtbmaijkpcpbgjaaOrdOpen
namespace Go.Proofs.Ytbmaijkpcpbgjaa
open Go.RowKit
set_option maxRecDepth 100000
set_option maxHeartbeats 16000000 in
theorem lawPlays_any (A0 : Option Addr) (c0 : Nat) (S : List (Bool × Int)) (x : Int) (w : World) (hm : S.length ≤ maxLen) (hS : StepsAt w.heap.size w A0 S) :
    Calls Try.prog 3 #[.slice A0 S.length c0, .int .i64 x] w fun e w' => e = .returned (.bool true) ∧ Below w.heap.size w w' := by
  unfold maxLen at hm
  have HW := Lib.hid (awake_any w)
  have HS := Lib.hid hS
  obtain ⟨n, hn⟩ : ∃ n, S.length = n := ⟨_, rfl⟩
  rw [hn] at hm ⊢
  have HN := Lib.hid hn
  clear hn hS
  by_cases h120 : n ≤ 120
  case neg =>
    have d1 : decide ((120 : Int) < (n : Int)) = true := decide_eq_true (by omega)
    go_enter Try.func3, Try.ntmps3
    go_wp2_with fail
    refine HW.out.mono ?_
    rintro er w1 ⟨rfl, hb1⟩
    go_wp2_with fail
    go_ret
    exact ⟨rfl, hb1⟩
  have d1 : decide ((120 : Int) < (n : Int)) = false := decide_eq_false (by omega)
  go_enter Try.func3, Try.ntmps3
  go_wp2_with fail
  refine HW.out.mono ?_
  rintro er w1 ⟨rfl, hb1⟩
  have HB1 := Lib.hid hb1
  have HP := Lib.hid (play_any A0 c0 n S w1 HN.out h120 ((HS.out.below hb1).more hb1.size))
  clear hb1 HW
  go_wp2_with fail
  refine HP.out.mono ?_
  rintro er w2 ⟨xl, made, mv, E, A, cap, rfl, ho, hf, hmk, hr, hb2⟩
  obtain ⟨m, hme⟩ : ∃ m, E.length = m := ⟨_, rfl⟩
  rw [hme]
  have HR0 := Lib.hid (RL.start (m := m) HB1.out ho hr hb2)
  have hml : m ≤ 120 := by have := ho.len; omega
  have HM := Lib.hid hme
  have hmk2 : made ≤ 2000 := by omega
  have HLEN : Hid (∀ W, RL w w1.heap.size xl made w2.heap.size mv E A cap m W → Calls Try.prog 11 #[.pointer (some ⟨xl, 0, none⟩)] W fun e w' => e = .returned (.int .i64 m) ∧ Below W.heap.size W w') := Lib.hid fun W h => by
    have := ol_len w1.heap.size xl made mv E W h.ost
    rw [HM.out] at this
    exact this.mono fun _ _ ⟨h1, h2⟩ => ⟨h1, h2 ▸ Below.refl _ _⟩
  have HORD : Hid (∀ W, RL w w1.heap.size xl made w2.heap.size mv E A cap m W → Calls Try.prog 15 #[.pointer (some ⟨xl, 0, none⟩)] W fun e w' => (∃ A' cp, e = .returned (.slice A' m cp) ∧ OwnR W.heap.size m A' cp E w') ∧ Below W.heap.size W w') := Lib.hid fun W h => by
    have := ol_order w1.heap.size xl made mv E W h.ost (by omega)
    rw [HM.out] at this
    exact this.mono fun _ _ ⟨A', cp, h1, h2, h3⟩ => ⟨⟨A', cp, h1, ⟨h2⟩⟩, h3⟩
  have HAT : Hid (∀ W, RL w w1.heap.size xl made w2.heap.size mv E A cap m W → Calls Try.prog 13 #[.agg #[.slice A m cap, .int .i64 made], .int .i64 x] W fun e w' => e = .returned (.int .i64 (atI (ords E) x)) ∧ Below W.heap.size W w') := Lib.hid fun W h => refAt_b w1.heap.size A cap m made (ords E) x W (by rw [ords_len]; exact HM.out) h.row
  have HEQ : Hid (∀ W A' cp B', RL w w1.heap.size xl made w2.heap.size mv E A cap m W → OwnR B' m A' cp E W → Calls Try.prog 14 #[.slice A' m cp, .slice A m cap] W fun e w' => e = .returned (.bool true) ∧ Below W.heap.size W w') := Lib.hid fun W A' cp B' h h' => ol_equal w1.heap.size A cap m E W HM.out (by omega) h.row B' A' cp h'.out
  obtain ⟨cb, ai, HCON, HAI, hge⟩ : ∃ (cb : Bool) (ai : Int), Hid (∀ W, RL w w1.heap.size xl made w2.heap.size mv E A cap m W → Calls Try.prog 12 #[.pointer (some ⟨xl, 0, none⟩), .int .i64 x] W fun e w' => e = .returned (.bool cb) ∧ Below W.heap.size W w') ∧ Hid (atI (ords E) x = ai) ∧ decide (0 ≤ ai) = cb := by
    rcases ords_mem (E := E) (i := x) with ⟨j, e, hj, rfl⟩ | hv
    · exact ⟨true, j, Lib.hid fun W h => (ol_contains_yes w1.heap.size xl made j mv E e W h.ost (by omega) hj).mono fun _ _ ⟨h1, h2⟩ => ⟨h1, h2 ▸ Below.refl _ _⟩, Lib.hid (at_yes ho.nums hj), by simp⟩
    · exact ⟨false, -1, Lib.hid fun W h => (ol_contains_no w1.heap.size xl made mv E x W h.ost (by omega) hv).mono fun _ _ ⟨h1, h2⟩ => ⟨h1, h2 ▸ Below.refl _ _⟩, Lib.hid (at_no hv), by simp⟩
  rw [HAI.out] at HAT
  have hmm : ((m : Int) == (m : Int)) = true := by simp
  have hcb : (cb == cb) = true := by simp
  clear ho hf hr hb2 hme HP HAI
  go_wp2_with fail
  have HS1 := Lib.hid (show ((w2.alloc (.cells #[.slice A m cap, .int .i64 made] 27)).drew.cell? ⟨w2.heap.size, 0, none⟩ = some (.slice A m cap) ∧ (w2.alloc (.cells #[.slice A m cap, .int .i64 made] 27)).drew.cell? ⟨w2.heap.size, 1, none⟩ = some (.int .i64 made)) ∧ RL w w1.heap.size xl made w2.heap.size mv E A cap m (w2.alloc (.cells #[.slice A m cap, .int .i64 made] 27)).drew from ⟨(HR0.out.drewN 1).cells, HR0.out.drewN 1⟩)
  go_region_held3 (fun W => (W.cell? ⟨w2.heap.size, 0, none⟩ = some (.slice A m cap) ∧ W.cell? ⟨w2.heap.size, 1, none⟩ = some (.int .i64 made)) ∧ RL w w1.heap.size xl made w2.heap.size mv E A cap m W)
    (first | exact HS1.out | assumption | (have hr := And.right (by assumption); exact ⟨(RL.next hr hbx).cells, RL.next hr hbx⟩))
    (first
      | (go_at_call 11; refine (HLEN.out _ (And.right (by assumption))).mono ?_; rintro e wx ⟨rfl, hbx⟩)
      | (go_at_call 12; refine (HCON.out _ (And.right (by assumption))).mono ?_; rintro e wx ⟨rfl, hbx⟩)
      | (go_at_call 13; refine (HAT.out _ (And.right (by assumption))).mono ?_; rintro e wx ⟨rfl, hbx⟩)
      | (go_at_call 15; refine (HORD.out _ (And.right (by assumption))).mono ?_; rintro e wx ⟨⟨A', cp, rfl, hrow'⟩, hbx⟩)
      | (go_at_call 14; refine (HEQ.out _ _ _ _ (And.right (by assumption)) (by assumption)).mono ?_; rintro e wx ⟨rfl, hbx⟩))
  go_wp2_with fail
  go_ret
  exact ⟨rfl, (And.right (by assumption) : RL w w1.heap.size xl made w2.heap.size mv E A cap m _).bel⟩
end Go.Proofs.Ytbmaijkpcpbgjaa
