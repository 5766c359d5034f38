/- OrderlistApart: its walk. -/
import Derived.Test.YtbmaijkpcpbgjaaOrdAsks
namespace Go.Proofs.Ytbmaijkpcpbgjaa
open Go.RowKit
set_option maxRecDepth 100000
set_option maxHeartbeats 16000000 in
theorem lawApart_any (A0 : Option Addr) (c0 : Nat) (S : List (Bool × Int)) (w : World) (hm : S.length ≤ maxLen) (hS : StepsAt w.heap.size w A0 S) :
    Calls Try.prog 8 #[.slice A0 S.length c0] w fun e w' => e = .returned (.bool true) ∧ Below w.heap.size w w' := by
  unfold maxLen at hm
  have HW := Lib.hid (awake_any w)
  have HS := Lib.hid hS
  obtain ⟨n, hn⟩ : ∃ n, S.length = n := ⟨_, rfl⟩
  rw [hn] at hm ⊢
  have HN := Lib.hid hn
  clear hn hS
  go_enter Try.func8, Try.ntmps8
  go_wp2_with fail
  refine HW.out.mono ?_
  rintro er w1 ⟨rfl, hb1⟩
  have HB1 := Lib.hid hb1
  clear hb1 HW
  go_wp2_with fail
  refine (ol_insert_nil _ _).mono ?_
  rintro er w' ⟨rfl, rfl⟩
  go_wp2_with fail
  refine (ol_compare_nil _ _ _).mono ?_
  rintro er w' ⟨rfl, rfl⟩
  go_wp2_with fail
  refine (ol_next_nil _ _).mono ?_
  rintro er w' ⟨rfl, rfl⟩
  go_wp2_with fail
  refine (ol_label_nil _ _).mono ?_
  rintro er w' ⟨rfl, rfl⟩
  go_wp2_with fail
  refine (ol_delete_nil _ _).mono ?_
  rintro er w' ⟨rfl, rfl⟩
  go_wp2_with fail
  refine (ol_len_nil _).mono ?_
  rintro er w' ⟨rfl, rfl⟩
  go_wp2_with fail
  refine (ol_contains_nil _ _).mono ?_
  rintro er w' ⟨rfl, rfl⟩
  go_wp2_with fail
  refine (ol_order_nil _).mono ?_
  rintro er w' ⟨rfl, rfl⟩
  go_wp2_with fail
  refine (ol_moves_nil _).mono ?_
  rintro er w' ⟨rfl, rfl⟩
  by_cases h60 : n ≤ 60
  case neg =>
    have d1 : decide ((60 : Int) < (n : Int)) = true := decide_eq_true (by omega)
    go_wp2_with fail
    go_ret
    exact ⟨rfl, HB1.out⟩
  have d1 : decide ((60 : Int) < (n : Int)) = false := decide_eq_false (by omega)
  have HP := Lib.hid (play_any A0 c0 n S w1 HN.out (by omega) ((HS.out.below HB1.out).more HB1.out.size))
  go_wp2_with fail
  refine HP.out.mono ?_
  rintro er w2 ⟨xl, made, mv, E, A, cap, rfl, ho, hf, hmk, hr, hb2⟩
  obtain ⟨m, hme⟩ : ∃ m, E.length = m := ⟨_, rfl⟩
  rw [hme]
  have HR0 := Lib.hid (RL.start (m := m) HB1.out ho hr hb2)
  have hml : m ≤ 120 := by have := ho.len; omega
  have HM := Lib.hid hme
  have hmk2 : made ≤ 2000 := by omega
  have HORD := Lib.hid (fun W => rl_order (w := w) (B := w1.heap.size) (xl := xl) (mb := w2.heap.size) (mv := mv) (A := A) (cap := cap) hme hmk2 W)
  have HEQ := Lib.hid (fun W A' cp B' => rl_equal (w := w) (B := w1.heap.size) (xl := xl) (mb := w2.heap.size) (made := made) (mv := mv) (A := A) (cap := cap) hme (by omega) W A' cp B')
  clear ho hf hr hb2 hme HP
  go_wp2_with fail
  refine (HORD.out _ HR0.out).mono ?_
  rintro er w3 ⟨⟨Ao, cpo, rfl, hown⟩, hb3⟩
  have HOW := Lib.hid hown.out
  have HB3 := Lib.hid hb3
  have hz3 := hb3.size
  clear hown hb3
  generalize hw0 : w2.alloc (.cells #[.slice A m cap, .int .i64 made] 27) = w0 at *
  have HW0 := Lib.hid hw0
  clear hw0
  go_wp2_with fail
  go_loopw [93] (fun s93 wr => ∃ (k : Nat) (xs : List Value), k ≤ m ∧ s93 = .int .i64 k ∧ wr.ownsRow w0.heap.size 3 1 (.slice Ao m cpo) m xs ∧ Below w0.heap.size w0 wr) (fun s93 _ => m - (intOf s93).toNat)
  case atStart => exact ⟨0, _, by omega, rfl, HOW.out, HB3.out⟩
  case round =>
    obtain ⟨k, xs, hk, rfl, how, hb⟩ := hrel
    have HWR := Lib.hid how
    have HBR := Lib.hid hb
    have hzr := hb.size
    by_cases hlt : k < m
    · have hltI : (k : Int) < (m : Int) := by omega
      obtain ⟨g, cp', hv, hg, hgl⟩ := how.form (by omega)
      have hA : Ao = some ⟨g, 0, none⟩ := by injection hv
      subst hA
      have hxl : xs.length = m := by have := how.1; omega
      have c0 := how.cellAt k (by omega)
      rw [List.getElem?_eq_getElem (by omega : k < xs.length)] at c0
      generalize xs[k]'(by omega) = u0 at c0
      have f0 := how.frozenAt k
      have HST := Lib.hid (how.stored k (.int .i64 (-7))).1
      clear how hb hv hxl
      go_wp2_with fail
      go_roundw
      case rel => exact ⟨k + 1, _, by omega, by go_num, HST.out, HBR.out.setCell (p := ⟨g, k, none⟩) hg _⟩
      case measure => simp [intOf]; omega
    · have hkm : k = m := by omega
      subst hkm
      have HR4 := Lib.hid (HR0.out.next hb)
      clear how hb
      go_wp2_with fail
      have HS1 := Lib.hid (show (wr.drew.cell? ⟨w2.heap.size, 0, none⟩ = some (.slice A k cap) ∧ wr.drew.cell? ⟨w2.heap.size, 1, none⟩ = some (.int .i64 made)) ∧ RL w w1.heap.size xl made w2.heap.size mv E A cap k wr.drew from ⟨(HR4.out.drewN 1).cells, HR4.out.drewN 1⟩)
      go_region_held3 (fun W => (W.cell? ⟨w2.heap.size, 0, none⟩ = some (.slice A k cap) ∧ W.cell? ⟨w2.heap.size, 1, none⟩ = some (.int .i64 made)) ∧ RL w w1.heap.size xl made w2.heap.size mv E A cap k W)
        (first | exact HS1.out | assumption | (have hr := And.right (by assumption); exact ⟨(RL.next hr hbx).cells, RL.next hr hbx⟩))
        (first
          | (go_at_call 15; refine (HORD.out _ (And.right (by assumption))).mono ?_; rintro e wx ⟨⟨A', cp, rfl, hrow'⟩, hbx⟩)
          | (go_at_call 14; refine (HEQ.out _ _ _ _ (And.right (by assumption)) (by assumption)).mono ?_; rintro e wx ⟨rfl, hbx⟩))
      go_wp2_with fail
      go_ret
      exact ⟨rfl, (And.right (by assumption) : RL w w1.heap.size xl made w2.heap.size mv E A cap k _).bel⟩
end Go.Proofs.Ytbmaijkpcpbgjaa
