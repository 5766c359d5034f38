/- The law's small and awake. -/
import Derived.Test.YtedjjleckhclcaaCasN
namespace Go.Proofs.Ytedjjleckhclcaa
open Go.RowKit
set_option maxRecDepth 100000
set_option maxHeartbeats 2000000 in
theorem small_any (A : Option Addr) (cp : Nat) (M : List (List Int)) (P : Nat → Prop) (w : World) (hm : M.length ≤ maxLen) (hA : RowsAt P w A M) :
    Calls Try.prog 8 #[.slice A M.length cp] w fun e w' => (∃ b, e = .returned (.bool b)) ∧ w = w' := by
  unfold maxLen at hm
  have HA := Lib.hid hA
  obtain ⟨m, hmm⟩ : ∃ m, M.length = m := ⟨_, rfl⟩
  have HM := Lib.hid hmm
  rw [hmm] at hm ⊢
  clear hA hmm
  by_cases h1 : 40 < m
  · go_enter Try.func8, Try.ntmps8
    go_wp2_with fail
    go_ret
    exact ⟨⟨_, rfl⟩, rfl⟩
  have h1' : m ≤ 40 := by omega
  go_enter Try.func8, Try.ntmps8
  go_wp2_with fail
  go_loopw [3, 11] (fun u i wr => ∃ k q : Nat, k ≤ m ∧ i = .int .i64 k ∧ u = .int .i64 q ∧ q ≤ k * 1005 ∧ w = wr) (fun _ i _ => m - (intOf i).toNat)
  case atStart => exact ⟨0, 0, by omega, rfl, rfl, by omega, rfl⟩
  case round =>
    obtain ⟨k, q, hk, rfl, rfl, hq, rfl⟩ := hrel
    by_cases hlt : k < m
    · obtain ⟨c, hc⟩ : ∃ c, M[k]? = some c := ⟨M[k]'(by rw [HM.out]; exact hlt), List.getElem?_eq_getElem _⟩
      obtain ⟨b, off, hAe, _, hcc⟩ := HA.out (by rw [HM.out]; omega)
      subst hAe
      obtain ⟨A', c', r0, r1, r2, _⟩ := hcc k c hc
      clear hcc hc
      unfold maxLen at r2
      by_cases hl : 1005 < c.length
      · go_wp2_with fail
        go_ret
        exact ⟨⟨_, rfl⟩, rfl⟩
      by_cases hl2 : 1000 < c.length
      · have hl' : c.length ≤ 1005 := by omega
        go_wp2_with fail
        go_ret
        exact ⟨⟨_, rfl⟩, rfl⟩
      have hl' : c.length ≤ 1000 := by omega
      go_wp2_with fail
      go_roundw
      case rel => exact ⟨k + 1, q + c.length, by omega, by go_num, by go_num, by omega, by trivial⟩
      case measure => simp [intOf]; omega
    · go_wp2_with fail
      go_ret
      exact ⟨⟨_, rfl⟩, rfl⟩

/-- Awake's catalogs. -/
def awkM : List (List Int) := [[1, 4, 6], [2, 3, 5, 7]]
theorem awk_rows (w : World) : RowsAt (· < (((w.alloc (.cells #[.int .i64 1, .int .i64 4, .int .i64 6] 3)).alloc (.cells #[.int .i64 2, .int .i64 3, .int .i64 5, .int .i64 7] 3)).alloc (.cells #[.slice (some ⟨w.heap.size, 0, none⟩) 3 3, .slice (some ⟨w.heap.size + 1, 0, none⟩) 4 4] 31)).heap.size)
    (((w.alloc (.cells #[.int .i64 1, .int .i64 4, .int .i64 6] 3)).alloc (.cells #[.int .i64 2, .int .i64 3, .int .i64 5, .int .i64 7] 3)).alloc (.cells #[.slice (some ⟨w.heap.size, 0, none⟩) 3 3, .slice (some ⟨w.heap.size + 1, 0, none⟩) 4 4] 31)) (some ⟨w.heap.size + 1 + 1, 0, none⟩) awkM := fun _ => by
  have b0 := bdNew w (.cells #[.int .i64 1, .int .i64 4, .int .i64 6] 3)
  have s0 : (w.alloc (.cells #[.int .i64 1, .int .i64 4, .int .i64 6] 3)).heap.size = w.heap.size + 1 := by simp
  generalize (w.alloc (.cells #[.int .i64 1, .int .i64 4, .int .i64 6] 3)) = V0 at b0 s0 ⊢
  have b1 := bdNew V0 (.cells #[.int .i64 2, .int .i64 3, .int .i64 5, .int .i64 7] 3)
  have a0 := bdOld (p := .cells #[.int .i64 2, .int .i64 3, .int .i64 5, .int .i64 7] 3) b0
  have s1 : (V0.alloc (.cells #[.int .i64 2, .int .i64 3, .int .i64 5, .int .i64 7] 3)).heap.size = V0.heap.size + 1 := by simp
  generalize (V0.alloc (.cells #[.int .i64 2, .int .i64 3, .int .i64 5, .int .i64 7] 3)) = V1 at b1 a0 s1 ⊢
  have b2 := bdNew V1 (.cells #[.slice (some ⟨w.heap.size, 0, none⟩) 3 3, .slice (some ⟨w.heap.size + 1, 0, none⟩) 4 4] 31)
  have a1 := bdOld (p := .cells #[.slice (some ⟨w.heap.size, 0, none⟩) 3 3, .slice (some ⟨w.heap.size + 1, 0, none⟩) 4 4] 31) b1
  have a2 := bdOld (p := .cells #[.slice (some ⟨w.heap.size, 0, none⟩) 3 3, .slice (some ⟨w.heap.size + 1, 0, none⟩) 4 4] 31) a0
  have s2 : (V1.alloc (.cells #[.slice (some ⟨w.heap.size, 0, none⟩) 3 3, .slice (some ⟨w.heap.size + 1, 0, none⟩) 4 4] 31)).heap.size = V1.heap.size + 1 := by simp
  generalize (V1.alloc (.cells #[.slice (some ⟨w.heap.size, 0, none⟩) 3 3, .slice (some ⟨w.heap.size + 1, 0, none⟩) 4 4] 31)) = V2 at b2 a1 a2 s2 ⊢
  rw [s1, s0] at b2
  rw [s0] at a1
  refine ⟨_, 0, rfl, by rw [s2, s1, s0]; omega, fun i l hi => ?_⟩
  rcases i with _ | _ | i
  · obtain rfl := Option.some.inj hi
    refine ⟨some ⟨w.heap.size, 0, none⟩, 3, by rw [cell_of_row _ _ _ _ _ _ b2]; rfl, by decide, by decide, fun _ => ⟨_, 0, rfl, by show w.heap.size < V2.heap.size; rw [s2, s1, s0]; omega, fun j v hj => ?_⟩⟩
    rw [cell_of_row _ _ _ _ _ _ a2]
    rcases j with _ | _ | _ | j
    · obtain rfl := Option.some.inj hj; rfl
    · obtain rfl := Option.some.inj hj; rfl
    · obtain rfl := Option.some.inj hj; rfl
    · cases hj
  · obtain rfl := Option.some.inj hi
    refine ⟨some ⟨w.heap.size + 1, 0, none⟩, 4, by rw [cell_of_row _ _ _ _ _ _ b2]; rfl, by decide, by decide, fun _ => ⟨_, 0, rfl, by show w.heap.size + 1 < V2.heap.size; rw [s2, s1, s0]; omega, fun j v hj => ?_⟩⟩
    rw [cell_of_row _ _ _ _ _ _ a1]
    rcases j with _ | _ | _ | _ | j
    · obtain rfl := Option.some.inj hj; rfl
    · obtain rfl := Option.some.inj hj; rfl
    · obtain rfl := Option.some.inj hj; rfl
    · obtain rfl := Option.some.inj hj; rfl
    · cases hj
  · cases hi
theorem awk_ck : ckM awkM = 0 := by decide
theorem awk_ranks : ranks awkM 5 = [2, 2] := by decide
theorem make_awk (A : Option Addr) (W : World) (h : RowsAt (· < W.heap.size) W A awkM) : Calls Try.prog 9 #[.slice A 2 2] W fun e w' => ∃ x g, e = .returned (.tuple #[.pointer (some ⟨x, 0, none⟩), .int .i64 0]) ∧ W.heap.size ≤ x ∧ IX x g w'.heap.size (lsts awkM) 0 w' ∧ Below W.heap.size W w' := by
  refine (make_any A 2 awkM W (by decide) h).mono ?_
  rintro e w' ⟨hb, ⟨hn, _⟩ | ⟨_, x, g, rfl, h1, h2⟩⟩
  · exact absurd awk_ck hn
  · exact ⟨x, g, rfl, h1, h2, hb⟩
theorem search_awk (x g n1 : Nat) (c0 : Int) (W : World) (h : IX x g n1 (lsts awkM) c0 W) (hn : n1 ≤ W.heap.size) : Calls Try.prog 12 #[.pointer (some ⟨x, 0, none⟩), .int .i64 5] W fun e w' =>
    ∃ (rb d : Nat), e = .returned (.tuple #[.slice (some ⟨rb, 0, none⟩) 2 2, .int .i64 0]) ∧ IntsAt (fun b => W.heap.size ≤ b ∧ b < w'.heap.size) w' (some ⟨rb, 0, none⟩) [2, 2] ∧ IX x g n1 (lsts awkM) d w' ∧ But x W w' := by
  refine (search_any x g n1 awkM 5 c0 W h hn (by decide) (by decide) (by decide)).mono ?_
  rintro e w' ⟨rb, d, rfl, h1, h2, _, h4⟩
  rw [awk_ranks] at h1
  exact ⟨rb, d, rfl, h1, h2, h4⟩
theorem equal_awk (B : Nat) (A1 : Option Addr) (W : World) (h : IntsAt (fun b => B ≤ b ∧ b < W.heap.size) W A1 [2, 2]) : Calls Try.prog 18 #[.slice A1 2 2, .slice (some ⟨W.heap.size, 0, none⟩) 2 2] (W.alloc (.cells #[.int .i64 2, .int .i64 2] 3)) fun e w' => e = .returned (.bool true) ∧ ∃ q, w' = (W.alloc (.cells #[.int .i64 2, .int .i64 2] 3)).drewN q := by
  have b := bdNew W (.cells #[.int .i64 2, .int .i64 2] 3)
  have h1 : IntsAt (fun b => B ≤ b ∧ b < W.heap.size) (W.alloc (.cells #[.int .i64 2, .int .i64 2] 3)) A1 [2, 2] := h.keep fun b o hp => World.cell?_alloc_lt _ _ _ hp.2
  generalize W.alloc (.cells #[.int .i64 2, .int .i64 2] 3) = V at b h1 ⊢
  have h2 : IntsAt (fun _ => True) V (some ⟨W.heap.size, 0, none⟩) [2, 2] := fun _ => ⟨_, 0, rfl, trivial, fun j v hj => by
    rw [cell_of_row _ _ _ _ _ _ b]
    rcases j with _ | _ | j
    · obtain rfl := Option.some.inj hj; rfl
    · obtain rfl := Option.some.inj hj; rfl
    · cases hj⟩
  exact eqI_any _ _ _ _ 2 2 [2, 2] [2, 2] V (by decide) (by decide) h1 h2

set_option maxHeartbeats 2000000 in
theorem awake_any (w : World) : Calls Try.prog 7 #[] w fun e w' => e = .returned (.bool true) ∧ Below w.heap.size w w' := by
  have HR := Lib.hid (awk_rows w)
  have HB0 := Lib.hid ((((Below.refl w.heap.size w).alloc (Nat.le_refl _) (.cells #[.int .i64 1, .int .i64 4, .int .i64 6] 3)).alloc (by simp) (.cells #[.int .i64 2, .int .i64 3, .int .i64 5, .int .i64 7] 3)).alloc (by simp; omega) (.cells #[.slice (some ⟨w.heap.size, 0, none⟩) 3 3, .slice (some ⟨w.heap.size + 1, 0, none⟩) 4 4] 31))
  go_enter Try.func7, Try.ntmps7
  go_wp2_with fail
  refine (make_awk _ _ HR.out).mono ?_
  generalize (((w.alloc (.cells #[.int .i64 1, .int .i64 4, .int .i64 6] 3)).alloc (.cells #[.int .i64 2, .int .i64 3, .int .i64 5, .int .i64 7] 3)).alloc (.cells #[.slice (some ⟨w.heap.size, 0, none⟩) 3 3, .slice (some ⟨w.heap.size + 1, 0, none⟩) 4 4] 31)) = V0 at HB0
  rintro e w1 ⟨x, g, rfl, hx, hix, hb⟩
  have HIX := Lib.hid hix
  have HB1 := Lib.hid (HB0.out.trans (hb.mono HB0.out.size))
  have hx1 : w.heap.size ≤ x := Nat.le_trans HB0.out.size hx
  clear hix hb hx HR HB0
  go_wp2_with fail
  refine (search_awk x g _ _ _ HIX.out (Nat.le_refl _)).mono ?_
  rintro e w2 ⟨rb, d, rfl, hr, hix, hbut⟩
  have HB2 := Lib.hid (HB1.out.grown hbut HB1.out.size (fun k e => by cases e; exact hx1))
  have HE := Lib.hid (equal_awk _ _ _ hr)
  have HIX2 := Lib.hid hix
  clear hr hix hbut
  go_wp2_with fail
  refine HE.out.mono ?_
  clear HE
  rintro e w3 ⟨rfl, q, hw⟩
  have hbx : w3.heap[x]? = some (ixBox g 2 d) := by rw [hw]; exact bdOld HIX2.out.box
  have HB3 := Lib.hid (show Below w.heap.size w w3 by rw [hw]; exact below_drewN (HB2.out.alloc HB2.out.size _) q)
  have HL := Lib.hid (len_any x g 2 d w3 hbx)
  clear hw hbx
  go_wp2_with fail
  refine HL.out.mono ?_
  rintro e w4 ⟨rfl, rfl⟩
  go_wp2_with fail
  go_ret
  exact ⟨rfl, HB3.out⟩

set_option maxHeartbeats 2000000 in
theorem lawNil_any (k : Int) (w : World) : Calls Try.prog 6 #[.int .i64 k] w fun e w' => e = .returned (.bool true) ∧ Below w.heap.size w w' := by
  go_enter Try.func6, Try.ntmps6
  go_wp2_with fail
  refine (awake_any w).mono ?_
  rintro e w1 ⟨rfl, hb⟩
  have HB := Lib.hid hb
  clear hb
  go_wp2_with fail
  refine (search_nil k w1).mono ?_
  rintro e w2 ⟨rfl, rfl⟩
  go_wp2_with fail
  refine (len_nil w1).mono ?_
  rintro e w2 ⟨rfl, rfl⟩
  go_wp2_with fail
  refine (compares_nil w1).mono ?_
  rintro e w2 ⟨rfl, rfl⟩
  go_wp2_with fail
  refine (size_nil w1).mono ?_
  rintro e w2 ⟨rfl, rfl⟩
  go_wp2_with fail
  refine (lists_nil w1).mono ?_
  rintro e w2 ⟨rfl, rfl⟩
  go_wp2_with fail
  go_ret
  exact ⟨rfl, HB.out⟩
end Go.Proofs.Ytedjjleckhclcaa
