/- OrderlistLabels: its walk. -/
import Derived.Test.YtbmaijkpcpbgjaaOrdAsks
namespace Go.Proofs.Ytbmaijkpcpbgjaa
open Go.RowKit
set_option maxRecDepth 100000
set_option maxHeartbeats 16000000 in
theorem lawLabels_any (A0 : Option Addr) (c0 : Nat) (S : List (Bool × Int)) (x : Int) (w : World) (hm : S.length ≤ maxLen) (hS : StepsAt w.heap.size w A0 S) :
    Calls Try.prog 5 #[.slice A0 S.length c0, .int .i64 x] w fun e w' => e = .returned (.bool true) ∧ Below w.heap.size w w' := by
  unfold maxLen at hm
  have HW := Lib.hid (awake_any w)
  have HS := Lib.hid hS
  obtain ⟨n, hn⟩ : ∃ n, S.length = n := ⟨_, rfl⟩
  rw [hn] at hm ⊢
  have HN := Lib.hid hn
  clear hn hS
  by_cases h120 : n ≤ 120
  case neg =>
    have d1 : decide ((120 : Int) < (n : Int)) = true := decide_eq_true (by omega)
    go_enter Try.func5, Try.ntmps5
    go_wp2_with fail
    refine HW.out.mono ?_
    rintro er w1 ⟨rfl, hb1⟩
    go_wp2_with fail
    go_ret
    exact ⟨rfl, hb1⟩
  have d1 : decide ((120 : Int) < (n : Int)) = false := decide_eq_false (by omega)
  go_enter Try.func5, Try.ntmps5
  go_wp2_with fail
  refine HW.out.mono ?_
  rintro er w1 ⟨rfl, hb1⟩
  have HB1 := Lib.hid hb1
  have HP := Lib.hid (play_any A0 c0 n S w1 HN.out h120 ((HS.out.below hb1).more hb1.size))
  clear hb1 HW
  go_wp2_with fail
  refine HP.out.mono ?_
  rintro er w2 ⟨xl, made, mv, E, A, cap, rfl, ho, hf, hmk, hr, hb2⟩
  obtain ⟨m, hme⟩ : ∃ m, E.length = m := ⟨_, rfl⟩
  rw [hme]
  have HR0 := Lib.hid (RL.start (m := m) HB1.out ho hr hb2)
  have hml : m ≤ 120 := by have := ho.len; omega
  have HM := Lib.hid hme
  have hmk2 : made ≤ 2000 := by omega
  have HAT := Lib.hid (fun W => rl_at (w := w) (B := w1.heap.size) (xl := xl) (mb := w2.heap.size) (made := made) (mv := mv) (A := A) (cap := cap) hme x W)
  have HO := Lib.hid ho
  clear ho hf hr hb2 hme HP
  go_wp2_with fail
  refine (HAT.out _ HR0.out).mono ?_
  rintro er w3 ⟨rfl, hb3⟩
  have HR3 := Lib.hid (HR0.out.next hb3)
  obtain ⟨b0, b1⟩ := HR3.out.cells
  have HOL := Lib.hid HR3.out.ost
  clear hb3
  rcases ords_mem (E := E) (i := x) with ⟨j0, e0, hj0, rfl⟩ | hv
  rw [at_yes HO.out.nums hj0]
  have d2 : decide ((j0 : Int) < 0) = false := decide_eq_false (by omega)
  rotate_left
  rw [at_no hv]
  have HLN := Lib.hid (ol_label_no w1.heap.size xl made mv E x w3 HOL.out (by omega) hv)
  clear hv
  all_goals
    first
      | (go_wp2_with fail
         refine HLN.out.mono ?_
         rintro er w4 ⟨rfl, rfl⟩
         go_wp2_with fail)
      | go_wp2_with fail
    go_loop [10, 47] (fun s10 s47 => ∃ k : Nat, k ≤ m ∧ s47 = .int .i64 k ∧ s10 = .int .i64 (loE E k)) (fun _ s47 => m - (intOf s47).toNat)
    case atStart => exact ⟨0, by omega, rfl, rfl⟩
    case round =>
      obtain ⟨k, hk, rfl, rfl⟩ := hrel
      by_cases hlt : k < m
      · have hltI : (k : Int) < (m : Int) := by omega
        obtain ⟨f, hf⟩ : ∃ f, E[k]? = some f := ⟨E[k]'(by rw [HM.out]; exact hlt), List.getElem?_eq_getElem _⟩
        obtain ⟨g, hA, _, _, y0⟩ := HR3.out.row.get (ords_get hf)
        subst hA
        have HLY := Lib.hid (ol_label_yes w1.heap.size xl made k mv E f w3 HOL.out (by omega) hf)
        have hlo := HOL.out.asc.lohi k
        rw [hi_some hf] at hlo
        have hhi := (HOL.out.asc.2 k f hf).2
        have HSC := Lib.hid (lo_succ hf)
        obtain ⟨lo, hloe⟩ : ∃ lo, lo = loE E k := ⟨_, rfl⟩
        rw [← hloe] at hlo ⊢
        obtain ⟨lb, hlb⟩ : ∃ lb, lb = f.lab := ⟨_, rfl⟩
        rw [← hlb] at hlo hhi HLY HSC
        obtain ⟨nm, hnm⟩ : ∃ nm, nm = f.num := ⟨_, rfl⟩
        rw [← hnm] at HLY y0
        have d3 : decide (lb ≤ lo) = false := decide_eq_false (by omega)
        have d4 : decide ((1099511627776 : Int) < lb) = false := decide_eq_false (by omega)
        clear hf hloe hlb hnm
        go_wp2_with fail
        refine HLY.out.mono ?_
        rintro er w5 ⟨rfl, rfl⟩
        go_wp2_with fail
        go_round
        case rel => exact ⟨k + 1, by omega, by go_num, by rw [HSC.out]⟩
        case measure => simp [intOf]; omega
      · have hkm : k = m := by omega
        subst hkm
        go_wp2_with fail
        go_ret
        exact ⟨rfl, HR3.out.bel⟩
end Go.Proofs.Ytbmaijkpcpbgjaa
