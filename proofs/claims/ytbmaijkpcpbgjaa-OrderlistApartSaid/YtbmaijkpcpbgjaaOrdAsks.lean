/- OrderlistAsks: its walk. -/
import Derived.Test.YtbmaijkpcpbgjaaOrdOpen
namespace Go.Proofs.Ytbmaijkpcpbgjaa
open Go.RowKit
set_option maxRecDepth 100000
theorem nextR_nxtI (E : List El) (k : Nat) : nextR E k = nxtI (ords E) k := by
  unfold nextR nxtI ords
  rw [List.getElem?_map]
  cases E[k]? <;> rfl
theorem cmp_tie {E : List El} (hA : Asc E) {i j : Nat} {a b : El} (hi : E[i]? = some a) (hj : E[j]? = some b) : (cmpO a.lab b.lab, (0 : Int)) = cmpR (i : Int) (j : Int) := by
  unfold cmpR
  rw [if_neg (by omega)]
  rcases Nat.lt_trichotomy i j with h | h | h
  · rw [if_pos (by omega), cmpO_lt (hA.1 i j a b h hi hj)]
  · subst h
    rw [hi] at hj
    obtain rfl := Option.some.inj hj
    rw [if_neg (by omega), if_neg (by omega), cmpO_eq rfl]
  · rw [if_neg (by omega), if_pos (by omega), cmpO_gt (hA.1 j i b a h hj hi)]
/-- What the queries of a law say while the list and its reference stand. -/
theorem rl_compare {w : World} {B xl made mb : Nat} {mv : Int} {E : List El} {A : Option Addr} {cap m : Nat} (_hm : E.length = m) (hmk : made ≤ 2000) (x y : Int) (W : World) (h : RL w B xl made mb mv E A cap m W) :
    Calls Try.prog 16 #[.pointer (some ⟨xl, 0, none⟩), .int .i64 x, .int .i64 y] W fun e w' => e = .returned (.tuple #[.int .i64 (cmpR (atI (ords E) x) (atI (ords E) y)).1, .int .i64 (cmpR (atI (ords E) x) (atI (ords E) y)).2]) ∧ Below W.heap.size W w' := by
  rcases ords_mem (E := E) (i := x) with ⟨j, a, hj, rfl⟩ | hx
  · rcases ords_mem (E := E) (i := y) with ⟨j', b, hj', rfl⟩ | hy
    · have h1 := cmp_tie h.ost.asc hj hj'
      rw [at_yes h.ost.nums hj, at_yes h.ost.nums hj', ← h1]
      exact (ol_compare_yes B xl made j j' mv E a b W h.ost hmk hj hj').mono fun _ _ ⟨h1, q, h2⟩ => ⟨h1, h2 ▸ bdN (Below.refl _ _) q⟩
    · rw [at_no hy]
      have h1 : cmpR (atI (ords E) (a.num : Int)) (-1) = (0, 12) := by unfold cmpR; rw [if_pos (Or.inr (by omega))]
      rw [h1]
      exact (ol_compare_no B xl made mv E _ y W h.ost hmk (Or.inr hy)).mono fun _ _ ⟨h1, h2⟩ => ⟨h1, h2 ▸ Below.refl _ _⟩
  · rw [at_no hx]
    have h1 : cmpR (-1) (atI (ords E) y) = (0, 12) := by unfold cmpR; rw [if_pos (Or.inl (by omega))]
    rw [h1]
    exact (ol_compare_no B xl made mv E x y W h.ost hmk (Or.inl hx)).mono fun _ _ ⟨h1, h2⟩ => ⟨h1, h2 ▸ Below.refl _ _⟩
theorem rl_len {w : World} {B xl made mb : Nat} {mv : Int} {E : List El} {A : Option Addr} {cap m : Nat} (hm : E.length = m) (W : World) (h : RL w B xl made mb mv E A cap m W) : Calls Try.prog 11 #[.pointer (some ⟨xl, 0, none⟩)] W fun e w' => e = .returned (.int .i64 m) ∧ Below W.heap.size W w' := by
  have := ol_len B xl made mv E W h.ost
  rw [hm] at this
  exact this.mono fun _ _ ⟨h1, h2⟩ => ⟨h1, h2 ▸ Below.refl _ _⟩
theorem rl_moves {w : World} {B xl made mb : Nat} {mv : Int} {E : List El} {A : Option Addr} {cap m : Nat} (W : World) (h : RL w B xl made mb mv E A cap m W) : Calls Try.prog 20 #[.pointer (some ⟨xl, 0, none⟩)] W fun e w' => e = .returned (.int .i64 mv) ∧ Below W.heap.size W w' :=
  (ol_moves B xl made mv E W h.ost).mono fun _ _ ⟨h1, h2⟩ => ⟨h1, h2 ▸ Below.refl _ _⟩
theorem rl_order {w : World} {B xl made mb : Nat} {mv : Int} {E : List El} {A : Option Addr} {cap m : Nat} (hm : E.length = m) (hmk : made ≤ 2000) (W : World) (h : RL w B xl made mb mv E A cap m W) : Calls Try.prog 15 #[.pointer (some ⟨xl, 0, none⟩)] W fun e w' => (∃ A' cp, e = .returned (.slice A' m cp) ∧ OwnR W.heap.size m A' cp E w') ∧ Below W.heap.size W w' := by
  have := ol_order B xl made mv E W h.ost (by omega)
  rw [hm] at this
  exact this.mono fun _ _ ⟨A', cp, h1, h2, h3⟩ => ⟨⟨A', cp, h1, ⟨h2⟩⟩, h3⟩
theorem rl_at {w : World} {B xl made mb : Nat} {mv : Int} {E : List El} {A : Option Addr} {cap m : Nat} (hm : E.length = m) (x : Int) (W : World) (h : RL w B xl made mb mv E A cap m W) : Calls Try.prog 13 #[.agg #[.slice A m cap, .int .i64 made], .int .i64 x] W fun e w' => e = .returned (.int .i64 (atI (ords E) x)) ∧ Below W.heap.size W w' := refAt_b B A cap m made (ords E) x W (by rw [ords_len]; exact hm) h.row
theorem rl_equal {w : World} {B xl made mb : Nat} {mv : Int} {E : List El} {A : Option Addr} {cap m : Nat} (hm : E.length = m) (hl : m ≤ 2000) (W : World) (A' : Option Addr) (cp B' : Nat) (h : RL w B xl made mb mv E A cap m W) (h' : OwnR B' m A' cp E W) : Calls Try.prog 14 #[.slice A' m cp, .slice A m cap] W fun e w' => e = .returned (.bool true) ∧ Below W.heap.size W w' :=
  ol_equal B A cap m E W hm hl h.row B' A' cp h'.out
theorem rl_rcompare {w : World} {B xl made mb : Nat} {mv : Int} {E : List El} {A : Option Addr} {cap m : Nat} (hm : E.length = m) (x y : Int) (W : World) (h : RL w B xl made mb mv E A cap m W) : Calls Try.prog 17 #[.agg #[.slice A m cap, .int .i64 made], .int .i64 x, .int .i64 y] W fun e w' => e = .returned (.tuple #[.int .i64 (cmpR (atI (ords E) x) (atI (ords E) y)).1, .int .i64 (cmpR (atI (ords E) x) (atI (ords E) y)).2]) ∧ Below W.heap.size W w' := refCompare_any B cap m made A (ords E) x y W (by rw [ords_len]; exact hm) h.row
/-- Next of both: one pair of numbers. -/
theorem rl_next {E : List El} (x : Int) : ∃ r : Int × Int, ∀ {w : World} {B xl made mb : Nat} {mv : Int} {A : Option Addr} {cap m : Nat}, E.length = m → made ≤ 2000 → m ≤ 2000 → ∀ W, RL w B xl made mb mv E A cap m W →
    Calls Try.prog 18 #[.pointer (some ⟨xl, 0, none⟩), .int .i64 x] W (fun e w' => e = .returned (.tuple #[.int .i64 r.1, .int .i64 r.2]) ∧ Below W.heap.size W w') ∧
    Calls Try.prog 19 #[.agg #[.slice A m cap, .int .i64 made], .int .i64 x] W (fun e w' => e = .returned (.tuple #[.int .i64 r.1, .int .i64 r.2]) ∧ Below W.heap.size W w') := by
  by_cases hx : x = -1
  · subst hx
    refine ⟨nextR E 0, fun hm hmk hml W h => ⟨(ol_next_yes _ _ _ 0 _ E (-1) W h.ost hmk (Or.inl ⟨rfl, rfl⟩)).mono fun _ _ ⟨h1, h2⟩ => ⟨h1, h2 ▸ Below.refl _ _⟩, ?_⟩⟩
    rw [nextR_nxtI]
    exact refNext_front _ _ _ _ _ (ords E) W (by rw [ords_len]; exact hm) h.row
  · rcases ords_mem (E := E) (i := x) with ⟨j, e, hj, rfl⟩ | hv
    · refine ⟨nextR E (j + 1), fun hm hmk hml W h => ⟨(ol_next_yes _ _ _ (j + 1) _ E _ W h.ost hmk (Or.inr ⟨j, e, hj, rfl, rfl⟩)).mono fun _ _ ⟨h1, h2⟩ => ⟨h1, h2 ▸ Below.refl _ _⟩, ?_⟩⟩
      rw [nextR_nxtI]
      exact refNext_at _ _ _ _ j _ (ords E) _ W (by rw [ords_len]; exact hm) hml h.row hx (at_yes h.ost.nums hj) (by rw [← hm]; exact (List.getElem?_eq_some_iff.1 hj).1)
    · exact ⟨(0, 12), fun hm hmk hml W h => ⟨(ol_next_no _ _ _ _ E x W h.ost hmk hx hv).mono fun _ _ ⟨h1, h2⟩ => ⟨h1, h2 ▸ Below.refl _ _⟩, refNext_no _ _ _ _ _ (ords E) x W (by rw [ords_len]; exact hm) h.row hx (at_no hv)⟩⟩
set_option maxHeartbeats 16000000 in
theorem lawAsks_any (A0 : Option Addr) (c0 : Nat) (S : List (Bool × Int)) (x y : Int) (w : World) (hm : S.length ≤ maxLen) (hS : StepsAt w.heap.size w A0 S) :
    Calls Try.prog 4 #[.slice A0 S.length c0, .int .i64 x, .int .i64 y] w fun e w' => e = .returned (.bool true) ∧ Below w.heap.size w w' := by
  unfold maxLen at hm
  have HW := Lib.hid (awake_any w)
  have HS := Lib.hid hS
  obtain ⟨n, hn⟩ : ∃ n, S.length = n := ⟨_, rfl⟩
  rw [hn] at hm ⊢
  have HN := Lib.hid hn
  clear hn hS
  by_cases h120 : n ≤ 120
  case neg =>
    have d1 : decide ((120 : Int) < (n : Int)) = true := decide_eq_true (by omega)
    go_enter Try.func4, Try.ntmps4
    go_wp2_with fail
    refine HW.out.mono ?_
    rintro er w1 ⟨rfl, hb1⟩
    go_wp2_with fail
    go_ret
    exact ⟨rfl, hb1⟩
  have d1 : decide ((120 : Int) < (n : Int)) = false := decide_eq_false (by omega)
  go_enter Try.func4, Try.ntmps4
  go_wp2_with fail
  refine HW.out.mono ?_
  rintro er w1 ⟨rfl, hb1⟩
  have HB1 := Lib.hid hb1
  have HP := Lib.hid (play_any A0 c0 n S w1 HN.out h120 ((HS.out.below hb1).more hb1.size))
  clear hb1 HW
  go_wp2_with fail
  refine HP.out.mono ?_
  rintro er w2 ⟨xl, made, mv, E, A, cap, rfl, ho, hf, hmk, hr, hb2⟩
  obtain ⟨m, hme⟩ : ∃ m, E.length = m := ⟨_, rfl⟩
  rw [hme]
  have HR0 := Lib.hid (RL.start (m := m) HB1.out ho hr hb2)
  have hml : m ≤ 120 := by have := ho.len; omega
  have HM := Lib.hid hme
  have hmk2 : made ≤ 2000 := by omega
  obtain ⟨cr, hcr⟩ : ∃ cr, cr = cmpR (atI (ords E) x) (atI (ords E) y) := ⟨_, rfl⟩
  have HCMP := Lib.hid (fun W => rl_compare (w := w) (B := w1.heap.size) (xl := xl) (mb := w2.heap.size) (mv := mv) (A := A) (cap := cap) hme hmk2 x y W)
  have HRCM := Lib.hid (fun W => rl_rcompare (w := w) (B := w1.heap.size) (xl := xl) (mb := w2.heap.size) (made := made) (mv := mv) (A := A) (cap := cap) hme x y W)
  rw [← hcr] at HCMP HRCM
  obtain ⟨nr, hnr⟩ := rl_next (E := E) x
  have HNXT := Lib.hid (fun W h => (hnr (w := w) (B := w1.heap.size) (xl := xl) (mb := w2.heap.size) (mv := mv) (A := A) (cap := cap) hme hmk2 (by omega) W h).1)
  have HRNX := Lib.hid (fun W h => (hnr (w := w) (B := w1.heap.size) (xl := xl) (mb := w2.heap.size) (mv := mv) (A := A) (cap := cap) hme hmk2 (by omega) W h).2)
  have HAT := Lib.hid (fun W => rl_at (w := w) (B := w1.heap.size) (xl := xl) (mb := w2.heap.size) (made := made) (mv := mv) (A := A) (cap := cap) hme x W)
  have HMOV := Lib.hid (fun W => rl_moves (w := w) (B := w1.heap.size) (xl := xl) (mb := w2.heap.size) (made := made) (mv := mv) (E := E) (A := A) (cap := cap) (m := m) W)
  have HORD := Lib.hid (fun W => rl_order (w := w) (B := w1.heap.size) (xl := xl) (mb := w2.heap.size) (mv := mv) (A := A) (cap := cap) hme hmk2 W)
  have HEQ := Lib.hid (fun W A' cp B' => rl_equal (w := w) (B := w1.heap.size) (xl := xl) (mb := w2.heap.size) (made := made) (mv := mv) (A := A) (cap := cap) hme (by omega) W A' cp B')
  have e1 : (cr.1 != cr.1) = false := by simp
  have e2 : (cr.2 != cr.2) = false := by simp
  have e3 : (nr.1 != nr.1) = false := by simp
  have e4 : (nr.2 != nr.2) = false := by simp
  have e5 : (mv == mv) = true := by simp
  generalize cr.1 = cr1 at HCMP HRCM e1
  generalize cr.2 = cr2 at HCMP HRCM e2
  generalize nr.1 = nr1 at HNXT HRNX e3
  generalize nr.2 = nr2 at HNXT HRNX e4
  have HO := Lib.hid ho
  clear ho hf hr hb2 hme HP hcr hnr
  go_wp2_with fail
  refine (HCMP.out _ HR0.out).mono ?_
  rintro er w3 ⟨rfl, hb3⟩
  have HR3 := Lib.hid (HR0.out.next hb3)
  obtain ⟨b0, b1⟩ := HR3.out.cells
  clear hb3
  go_wp2_with fail
  refine (HRCM.out _ HR3.out).mono ?_
  rintro er w4 ⟨rfl, hb4⟩
  have HR4 := Lib.hid (HR3.out.next hb4)
  clear hb4 b0 b1
  go_wp2_with fail
  refine (HNXT.out _ HR4.out).mono ?_
  rintro er w5 ⟨rfl, hb5⟩
  have HR5 := Lib.hid (HR4.out.next hb5)
  obtain ⟨b0, b1⟩ := HR5.out.cells
  clear hb5
  go_wp2_with fail
  refine (HRNX.out _ HR5.out).mono ?_
  rintro er w6 ⟨rfl, hb6⟩
  have HR6 := Lib.hid (HR5.out.next hb6)
  clear hb6 b0 b1
  obtain ⟨b0, b1⟩ := HR6.out.cells
  go_wp2_with fail
  refine (HAT.out _ HR6.out).mono ?_
  rintro er w7 ⟨rfl, hb7⟩
  have HR7 := Lib.hid (HR6.out.next hb7)
  clear hb7 b0 b1
  rcases ords_mem (E := E) (i := x) with ⟨j, e, hj, rfl⟩ | hv
  · rw [at_yes HO.out.nums hj]
    have d2 : decide ((j : Int) < 0) = false := decide_eq_false (by omega)
    go_wp2_with fail
    go_ret
    exact ⟨rfl, HR7.out.bel⟩
  · rw [at_no hv]
    have HV := Lib.hid hv
    have HDEL := Lib.hid (fun W (h : RL w w1.heap.size xl made w2.heap.size mv E A cap m W) => (ol_delete_no w1.heap.size xl made mv E x W h.ost (by omega) HV.out).mono (R' := fun e w' => e = .returned (.int .i64 12) ∧ Below W.heap.size W w') fun _ _ ⟨h1, h2⟩ => ⟨h1, h2 ▸ Below.refl _ _⟩)
    clear hv
    go_wp2_with fail
    refine (HMOV.out _ HR7.out).mono ?_
    rintro er w8 ⟨rfl, hb8⟩
    have HR8 := Lib.hid (HR7.out.next hb8)
    clear hb8
    by_cases hx : x = -1
    · have d3 : (x != -1) = false := by simp [hx]
      have HX := Lib.hid hx
      clear hx
      go_wp2_with fail
      have HS1 := Lib.hid (show (w8.drew.cell? ⟨w2.heap.size, 0, none⟩ = some (.slice A m cap) ∧ w8.drew.cell? ⟨w2.heap.size, 1, none⟩ = some (.int .i64 made)) ∧ RL w w1.heap.size xl made w2.heap.size mv E A cap m w8.drew from ⟨(HR8.out.drewN 1).cells, HR8.out.drewN 1⟩)
      go_region_held3 (fun W => (W.cell? ⟨w2.heap.size, 0, none⟩ = some (.slice A m cap) ∧ W.cell? ⟨w2.heap.size, 1, none⟩ = some (.int .i64 made)) ∧ RL w w1.heap.size xl made w2.heap.size mv E A cap m W)
        (first | exact HS1.out | assumption | (have hr := And.right (by assumption); exact ⟨(RL.next hr hbx).cells, RL.next hr hbx⟩))
        (first
          | (go_at_call 22; refine (HDEL.out _ (And.right (by assumption))).mono ?_; rintro e wx ⟨rfl, hbx⟩)
          | (go_at_call 20; refine (HMOV.out _ (And.right (by assumption))).mono ?_; rintro e wx ⟨rfl, hbx⟩)
          | (go_at_call 15; refine (HORD.out _ (And.right (by assumption))).mono ?_; rintro e wx ⟨⟨A', cp, rfl, hrow'⟩, hbx⟩)
          | (go_at_call 14; refine (HEQ.out _ _ _ _ (And.right (by assumption)) (by assumption)).mono ?_; rintro e wx ⟨rfl, hbx⟩))
      go_wp2_with fail
      go_ret
      exact ⟨rfl, (And.right (by assumption) : RL w w1.heap.size xl made w2.heap.size mv E A cap m _).bel⟩
    · have d3 : (x != -1) = true := by simp [hx]
      have HX := Lib.hid hx
      clear hx
      have HINS := Lib.hid (ol_insert_no w1.heap.size xl made mv E x w8 HR8.out.ost (by omega) HX.out HV.out)
      go_wp2_with fail
      refine HINS.out.mono ?_
      rintro er w9 ⟨rfl, rfl⟩
      go_wp2_with fail
      have HS1 := Lib.hid (show (w8.drew.cell? ⟨w2.heap.size, 0, none⟩ = some (.slice A m cap) ∧ w8.drew.cell? ⟨w2.heap.size, 1, none⟩ = some (.int .i64 made)) ∧ RL w w1.heap.size xl made w2.heap.size mv E A cap m w8.drew from ⟨(HR8.out.drewN 1).cells, HR8.out.drewN 1⟩)
      go_region_held3 (fun W => (W.cell? ⟨w2.heap.size, 0, none⟩ = some (.slice A m cap) ∧ W.cell? ⟨w2.heap.size, 1, none⟩ = some (.int .i64 made)) ∧ RL w w1.heap.size xl made w2.heap.size mv E A cap m W)
        (first | exact HS1.out | assumption | (have hr := And.right (by assumption); exact ⟨(RL.next hr hbx).cells, RL.next hr hbx⟩))
        (first
          | (go_at_call 22; refine (HDEL.out _ (And.right (by assumption))).mono ?_; rintro e wx ⟨rfl, hbx⟩)
          | (go_at_call 20; refine (HMOV.out _ (And.right (by assumption))).mono ?_; rintro e wx ⟨rfl, hbx⟩)
          | (go_at_call 15; refine (HORD.out _ (And.right (by assumption))).mono ?_; rintro e wx ⟨⟨A', cp, rfl, hrow'⟩, hbx⟩)
          | (go_at_call 14; refine (HEQ.out _ _ _ _ (And.right (by assumption)) (by assumption)).mono ?_; rintro e wx ⟨rfl, hbx⟩))
      go_wp2_with fail
      go_ret
      exact ⟨rfl, (And.right (by assumption) : RL w w1.heap.size xl made w2.heap.size mv E A cap m _).bel⟩
end Go.Proofs.Ytbmaijkpcpbgjaa
