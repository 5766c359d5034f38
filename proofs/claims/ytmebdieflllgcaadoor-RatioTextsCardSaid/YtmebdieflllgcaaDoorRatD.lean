/- Walks: the reference's Make and Valid. -/
import Derived.Test.YtmebdieflllgcaaDoorRatB
namespace Go.Proofs.YtmebdieflllgcaaDoor
open Go.RowKit
set_option maxRecDepth 100000

theorem tmod_negs (p q : Nat) : (-(p : Int)).tmod (-(q : Int)) = -((p % q : Nat) : Int) := by
  rw [Int.tmod_neg, Int.neg_tmod]
  rfl
/-- What num / a is, for the a of the loop's end. -/
theorem quo_names {n : Int} {g a : Nat} (_hg : 1 ≤ g) (h : (n.natAbs : Int) / (g : Int) = (a : Int)) (hd : (g : Int) ∣ n) : n.tdiv (-(g : Int)) = if n < 0 then (a : Int) else -(a : Int) := by
  rw [Int.tdiv_neg, Int.tdiv_eq_ediv_of_dvd hd, ← h]
  by_cases h1 : n < 0
  · rw [if_pos h1]
    have e1 : (n.natAbs : Int) = -n := by omega
    rw [e1, Int.neg_ediv_of_dvd hd]
  · rw [if_neg h1]
    have e1 : (n.natAbs : Int) = n := by omega
    rw [e1]
theorem i64_lo (x : Int) (h : x = 9223372036854775808) : IntKind.i64.wrap x = -9223372036854775808 := by rw [IntKind.wrap_i64]; omega

/-- The numbers after the loop: n1, d1, and what they become with their signs turned. -/
structure Ends (n d n1 d1 n2 d2 : Int) (a b : Nat) : Prop where
  e1 : n1 = IntKind.i64.wrap (if n < 0 then (a : Int) else -(a : Int))
  e2 : d1 = IntKind.i64.wrap (if d < 0 then (b : Int) else -(b : Int))
  e3 : n2 = IntKind.i64.wrap (-n1)
  e4 : d2 = IntKind.i64.wrap (-d1)
theorem wrap_cases (x : Int) (h1 : -9223372036854775808 ≤ x) (h2 : x ≤ 9223372036854775808) : (x ≤ 9223372036854775807 ∧ IntKind.i64.wrap x = x) ∨ (x = 9223372036854775808 ∧ IntKind.i64.wrap x = -9223372036854775808) := by
  by_cases h : x ≤ 9223372036854775807
  · exact .inl ⟨h, IntWalk.i64_in _ ⟨h1, h⟩⟩
  · exact .inr ⟨by omega, i64_lo _ (by omega)⟩
theorem Ends.big {n d n1 d1 n2 d2 : Int} {a b : Nat} (h : Ends n d n1 d1 n2 d2 a b) (ha : (a : Int) ≤ 9223372036854775808) (hb : (b : Int) ≤ 9223372036854775808) (hbig : ¬ (a ≤ 1073741824 ∧ b ≤ 1073741824)) :
    (d1 < 0 → (n2 < -1073741824 ∨ 1073741824 < n2 ∨ d2 < 1 ∨ 1073741824 < d2)) ∧ (0 ≤ d1 → (n1 < -1073741824 ∨ 1073741824 < n1 ∨ d1 < 1 ∨ 1073741824 < d1)) := by
  obtain ⟨e1, e2, e3, e4⟩ := h
  have hn1 : -9223372036854775808 ≤ (if n < 0 then (a : Int) else -(a : Int)) ∧ (if n < 0 then (a : Int) else -(a : Int)) ≤ 9223372036854775808 := by split <;> omega
  have hd1 : -9223372036854775808 ≤ (if d < 0 then (b : Int) else -(b : Int)) ∧ (if d < 0 then (b : Int) else -(b : Int)) ≤ 9223372036854775808 := by split <;> omega
  have c1 := wrap_cases _ hn1.1 hn1.2
  have c2 := wrap_cases _ hd1.1 hd1.2
  rw [← e1] at c1
  rw [← e2] at c2
  have c3 := wrap_cases (-n1) (by omega) (by omega)
  have c4 := wrap_cases (-d1) (by omega) (by omega)
  rw [← e3] at c3
  rw [← e4] at c4
  clear e1 e2 e3 e4
  by_cases s1 : n < 0 <;> by_cases s2 : d < 0 <;> simp only [s1, s2, if_true, if_false] at c1 c2 <;> omega

set_option maxHeartbeats 4000000 in
theorem refMake_zero (n d : Int) (hd : d = 0) (w : World) :
    Calls Tryd.prog 14 #[.int .i64 n, .int .i64 d] w fun e w' => e = .returned (frR (mkR n d)) ∧ Below w.heap.size w w' := by
  subst hd
  rw [mkR_zero]
  unfold frR
  go_enter Tryd.func14, Tryd.ntmps14
  go_wp2_with fail
  exact bodyPost_ret (v := .tuple #[.agg #[.int .i64 0, .int .i64 0], .int .i64 18]) (by simp [results, Tryd.results14, go_sem]) rfl ⟨rfl, (Below.refl _ _).alloc (Nat.le_refl _) _⟩
theorem i64_neg_eq {a b : Int} (h : a = b) : Value.int .i64 a = Value.int .i64 b := by rw [h]
theorem Ends.fin_neg {n d n1 d1 n2 d2 : Int} {a b : Nat} (h : Ends n d n1 d1 n2 d2 a b) (ha : (a : Int) ≤ 9223372036854775808) (hb : (b : Int) ≤ 9223372036854775808) (hb1 : 1 ≤ b) (hs : d1 < 0) :
    (if a ≤ 1073741824 ∧ b ≤ 1073741824 then (if (n < 0) ↔ (d < 0) then (a : Int) else -(a : Int), (b : Int), (0 : Int)) else ((0 : Int), (0 : Int), (5 : Int))) = if n2 < -1073741824 ∨ 1073741824 < n2 ∨ d2 < 1 ∨ 1073741824 < d2 then (0, 0, 5) else (n2, d2, 0) := by
  by_cases hbig : a ≤ 1073741824 ∧ b ≤ 1073741824
  · obtain ⟨e1, e2, e3, e4⟩ := h
    rw [if_pos hbig]
    have f1 : (if n < 0 then (a : Int) else -(a : Int)) = n1 := by rw [e1, IntWalk.i64_in]; split <;> omega
    have f2 : (if d < 0 then (b : Int) else -(b : Int)) = d1 := by rw [e2, IntWalk.i64_in]; split <;> omega
    have f3 : -n1 = n2 := by rw [e3, IntWalk.i64_in]; rw [← f1]; split <;> omega
    have f4 : -d1 = d2 := by rw [e4, IntWalk.i64_in]; rw [← f2]; split <;> omega
    clear e1 e2 e3 e4
    by_cases s2 : d < 0
    · rw [if_pos s2] at f2; omega
    · rw [if_neg s2] at f2
      by_cases s1 : n < 0
      · rw [if_pos s1] at f1
        rw [if_neg (by simp [s1, s2]), if_neg (by omega)]
        congr 1
        · omega
        · congr 1; omega
      · rw [if_neg s1] at f1
        rw [if_pos (by simp [s1, s2]), if_neg (by omega)]
        congr 1
        · omega
        · congr 1; omega
  · rw [if_neg hbig, if_pos ((h.big ha hb hbig).1 hs)]
theorem Ends.fin_pos {n d n1 d1 n2 d2 : Int} {a b : Nat} (h : Ends n d n1 d1 n2 d2 a b) (ha : (a : Int) ≤ 9223372036854775808) (hb : (b : Int) ≤ 9223372036854775808) (hb1 : 1 ≤ b) (hs : ¬ d1 < 0) :
    (if a ≤ 1073741824 ∧ b ≤ 1073741824 then (if (n < 0) ↔ (d < 0) then (a : Int) else -(a : Int), (b : Int), (0 : Int)) else ((0 : Int), (0 : Int), (5 : Int))) = if n1 < -1073741824 ∨ 1073741824 < n1 ∨ d1 < 1 ∨ 1073741824 < d1 then (0, 0, 5) else (n1, d1, 0) := by
  by_cases hbig : a ≤ 1073741824 ∧ b ≤ 1073741824
  · obtain ⟨e1, e2, e3, e4⟩ := h
    rw [if_pos hbig]
    have f1 : (if n < 0 then (a : Int) else -(a : Int)) = n1 := by rw [e1, IntWalk.i64_in]; split <;> omega
    have f2 : (if d < 0 then (b : Int) else -(b : Int)) = d1 := by rw [e2, IntWalk.i64_in]; split <;> omega
    clear e1 e2 e3 e4
    by_cases s2 : d < 0
    · rw [if_pos s2] at f2
      by_cases s1 : n < 0
      · rw [if_pos s1] at f1
        rw [if_pos (by simp [s1, s2]), if_neg (by omega)]
        congr 1
        · congr 1
      · rw [if_neg s1] at f1
        rw [if_neg (by simp [s1, s2]), if_neg (by omega)]
        congr 1
        · congr 1
    · rw [if_neg s2] at f2; omega
  · rw [if_neg hbig, if_pos ((h.big ha hb hbig).2 (by omega))]

set_option maxHeartbeats 8000000 in
theorem refMake_neg_big (n d n1 d1 n2 d2 : Int) (G : Nat) (hd : d ≠ 0) (h1 : -9223372036854775808 ≤ n) (h2 : n ≤ 9223372036854775807) (h3 : -9223372036854775808 ≤ d) (h4 : d ≤ 9223372036854775807) (w : World)
    (hGG : Nat.gcd n.natAbs d.natAbs = G) (g1 : 1 ≤ G) (W1 : wrap64 (-n.tdiv (G : Int)) = n1) (W2 : wrap64 (-d.tdiv (G : Int)) = d1) (W3 : wrap64 (-n1) = n2) (W4 : wrap64 (-d1) = d2)
    (s : d1 < 0) (hbg : (n2 < -1073741824 ∨ 1073741824 < n2 ∨ d2 < 1 ∨ 1073741824 < d2)) :
    Calls Tryd.prog 14 #[.int .i64 n, .int .i64 d] w fun e w' => e = .returned (.tuple #[.agg #[.int .i64 0, .int .i64 0], .int .i64 5]) ∧ Below w.heap.size w w' := by
  have f0 : (d == 0) = false := by simpa using hd
  have hA : n.natAbs ≤ 9223372036854775808 := by omega
  have hB : d.natAbs ≤ 9223372036854775808 := by omega
  have HGG := Lib.hid hGG
  have V1 := Lib.hid W1
  have V2 := Lib.hid W2
  have V3 := Lib.hid W3
  have V4 := Lib.hid W4
  have HBG := Lib.hid hbg
  clear hGG W1 W2 W3 W4 hbg
  go_enter Tryd.func14, Tryd.ntmps14
  go_wp2_with fail
  all_goals
    go_loopw [6, 7] (fun x y wr => ∃ p q k : Nat, x = .int .i64 (-(p : Int)) ∧ y = .int .i64 (-(q : Int)) ∧ p ≤ 9223372036854775808 ∧ q ≤ 9223372036854775808 ∧ Nat.gcd p q = G ∧ wr = (w.alloc (.cells #[.int .i64 0, .int .i64 0] 24)).drewN k) (fun _ y _ => (-(intOf y)).toNat)
    case atStart => exact ⟨n.natAbs, d.natAbs, 0, i64_neg_eq (by omega), i64_neg_eq (by omega), hA, hB, HGG.out, rfl⟩
    case round =>
      obtain ⟨p, q, k, rfl, rfl, hp, hq, hg, rfl⟩ := hrel
      have HG := Lib.hid hg
      clear hg
      by_cases hz : q = 0
      · subst hz
        have hpg : p = G := by rw [← HG.out, Nat.gcd_zero_right]
        subst hpg
        have w1 := V1.out
        have w2 := V2.out
        have w3 := V3.out
        have w4 := V4.out
        have gz : (-(p : Int) == 0) = false := by simp; omega
        go_wp2_with fail
        all_goals
          first
            | (refine bodyPost_ret (v := .tuple #[.agg #[.int .i64 0, .int .i64 0], .int .i64 5]) ?_ rfl ⟨rfl, ((bdN ((Below.refl _ _).alloc (Nat.le_refl _) _) _).setCell (Nat.le_refl _) _).setCell (Nat.le_refl _) _⟩; (simp [results, Tryd.results14, go_sem]; done))
            | (refine bodyPost_ret (v := .tuple #[.agg #[.int .i64 0, .int .i64 0], .int .i64 5]) ?_ rfl ⟨rfl, bdN ((Below.refl _ _).alloc (Nat.le_refl _) _) _⟩; (simp [results, Tryd.results14, go_sem]; done))
            | (exfalso; have hbo := HBG.out; (clear w1 w2 w3 w4; omega))
      · have h5 : (1 : Int) ≤ (q : Int) := by omega
        have hb1 : (-(q : Int) != 0) = true := by simp; omega
        have hb2 : (-(q : Int) == 0) = false := by simp; omega
        have e5 : -((p : Int) % (q : Int)) = -((p % q : Nat) : Int) := by simp
        have hE2 := Lib.hid e5
        have hm := Nat.mod_lt p (show q > 0 by omega)
        clear e5
        go_wp2_with fail
        go_quiet (fail)
        go_wp2_with fail
        go_roundw
        case rel => exact ⟨q, p % q, k + nq, rfl, i64_neg_eq hE2.out, hq, by omega, by rw [← HG.out, Nat.gcd_comm p q, Nat.gcd_rec q p, Nat.gcd_comm], by first | rfl | rw [World.drewN_drewN]⟩
        case measure => simp only [intOf]; rw [hE2.out]; omega

set_option maxHeartbeats 8000000 in
theorem refMake_neg_ok (n d n1 d1 n2 d2 : Int) (G : Nat) (hd : d ≠ 0) (h1 : -9223372036854775808 ≤ n) (h2 : n ≤ 9223372036854775807) (h3 : -9223372036854775808 ≤ d) (h4 : d ≤ 9223372036854775807) (w : World)
    (hGG : Nat.gcd n.natAbs d.natAbs = G) (g1 : 1 ≤ G) (W1 : wrap64 (-n.tdiv (G : Int)) = n1) (W2 : wrap64 (-d.tdiv (G : Int)) = d1) (W3 : wrap64 (-n1) = n2) (W4 : wrap64 (-d1) = d2)
    (s : d1 < 0) (hbg : ¬ (n2 < -1073741824 ∨ 1073741824 < n2 ∨ d2 < 1 ∨ 1073741824 < d2)) :
    Calls Tryd.prog 14 #[.int .i64 n, .int .i64 d] w fun e w' => e = .returned (.tuple #[.agg #[.int .i64 n2, .int .i64 d2], .int .i64 0]) ∧ Below w.heap.size w w' := by
  have f0 : (d == 0) = false := by simpa using hd
  have hA : n.natAbs ≤ 9223372036854775808 := by omega
  have hB : d.natAbs ≤ 9223372036854775808 := by omega
  have HGG := Lib.hid hGG
  have V1 := Lib.hid W1
  have V2 := Lib.hid W2
  have V3 := Lib.hid W3
  have V4 := Lib.hid W4
  have HBG := Lib.hid hbg
  clear hGG W1 W2 W3 W4 hbg
  go_enter Tryd.func14, Tryd.ntmps14
  go_wp2_with fail
  all_goals
    go_loopw [6, 7] (fun x y wr => ∃ p q k : Nat, x = .int .i64 (-(p : Int)) ∧ y = .int .i64 (-(q : Int)) ∧ p ≤ 9223372036854775808 ∧ q ≤ 9223372036854775808 ∧ Nat.gcd p q = G ∧ wr = (w.alloc (.cells #[.int .i64 0, .int .i64 0] 24)).drewN k) (fun _ y _ => (-(intOf y)).toNat)
    case atStart => exact ⟨n.natAbs, d.natAbs, 0, i64_neg_eq (by omega), i64_neg_eq (by omega), hA, hB, HGG.out, rfl⟩
    case round =>
      obtain ⟨p, q, k, rfl, rfl, hp, hq, hg, rfl⟩ := hrel
      have HG := Lib.hid hg
      clear hg
      by_cases hz : q = 0
      · subst hz
        have hpg : p = G := by rw [← HG.out, Nat.gcd_zero_right]
        subst hpg
        have w1 := V1.out
        have w2 := V2.out
        have w3 := V3.out
        have w4 := V4.out
        have gz : (-(p : Int) == 0) = false := by simp; omega
        go_wp2_with fail
        all_goals
          first
            | (refine bodyPost_ret (v := .tuple #[.agg #[.int .i64 n2, .int .i64 d2], .int .i64 0]) ?_ rfl ⟨rfl, ((bdN ((Below.refl _ _).alloc (Nat.le_refl _) _) _).setCell (Nat.le_refl _) _).setCell (Nat.le_refl _) _⟩; (simp [results, Tryd.results14, go_sem]; done))
            | (refine bodyPost_ret (v := .tuple #[.agg #[.int .i64 n2, .int .i64 d2], .int .i64 0]) ?_ rfl ⟨rfl, bdN ((Below.refl _ _).alloc (Nat.le_refl _) _) _⟩; (simp [results, Tryd.results14, go_sem]; done))
            | (exfalso; have hbo := HBG.out; (clear w1 w2 w3 w4; omega))
      · have h5 : (1 : Int) ≤ (q : Int) := by omega
        have hb1 : (-(q : Int) != 0) = true := by simp; omega
        have hb2 : (-(q : Int) == 0) = false := by simp; omega
        have e5 : -((p : Int) % (q : Int)) = -((p % q : Nat) : Int) := by simp
        have hE2 := Lib.hid e5
        have hm := Nat.mod_lt p (show q > 0 by omega)
        clear e5
        go_wp2_with fail
        go_quiet (fail)
        go_wp2_with fail
        go_roundw
        case rel => exact ⟨q, p % q, k + nq, rfl, i64_neg_eq hE2.out, hq, by omega, by rw [← HG.out, Nat.gcd_comm p q, Nat.gcd_rec q p, Nat.gcd_comm], by first | rfl | rw [World.drewN_drewN]⟩
        case measure => simp only [intOf]; rw [hE2.out]; omega

set_option maxHeartbeats 8000000 in
theorem refMake_pos_big (n d n1 d1 n2 d2 : Int) (G : Nat) (hd : d ≠ 0) (h1 : -9223372036854775808 ≤ n) (h2 : n ≤ 9223372036854775807) (h3 : -9223372036854775808 ≤ d) (h4 : d ≤ 9223372036854775807) (w : World)
    (hGG : Nat.gcd n.natAbs d.natAbs = G) (g1 : 1 ≤ G) (W1 : wrap64 (-n.tdiv (G : Int)) = n1) (W2 : wrap64 (-d.tdiv (G : Int)) = d1) (W3 : wrap64 (-n1) = n2) (W4 : wrap64 (-d1) = d2)
    (s : ¬ d1 < 0) (hbg : (n1 < -1073741824 ∨ 1073741824 < n1 ∨ d1 < 1 ∨ 1073741824 < d1)) :
    Calls Tryd.prog 14 #[.int .i64 n, .int .i64 d] w fun e w' => e = .returned (.tuple #[.agg #[.int .i64 0, .int .i64 0], .int .i64 5]) ∧ Below w.heap.size w w' := by
  have f0 : (d == 0) = false := by simpa using hd
  have hA : n.natAbs ≤ 9223372036854775808 := by omega
  have hB : d.natAbs ≤ 9223372036854775808 := by omega
  have HGG := Lib.hid hGG
  have V1 := Lib.hid W1
  have V2 := Lib.hid W2
  have V3 := Lib.hid W3
  have V4 := Lib.hid W4
  have HBG := Lib.hid hbg
  clear hGG W1 W2 W3 W4 hbg
  go_enter Tryd.func14, Tryd.ntmps14
  go_wp2_with fail
  all_goals
    go_loopw [6, 7] (fun x y wr => ∃ p q k : Nat, x = .int .i64 (-(p : Int)) ∧ y = .int .i64 (-(q : Int)) ∧ p ≤ 9223372036854775808 ∧ q ≤ 9223372036854775808 ∧ Nat.gcd p q = G ∧ wr = (w.alloc (.cells #[.int .i64 0, .int .i64 0] 24)).drewN k) (fun _ y _ => (-(intOf y)).toNat)
    case atStart => exact ⟨n.natAbs, d.natAbs, 0, i64_neg_eq (by omega), i64_neg_eq (by omega), hA, hB, HGG.out, rfl⟩
    case round =>
      obtain ⟨p, q, k, rfl, rfl, hp, hq, hg, rfl⟩ := hrel
      have HG := Lib.hid hg
      clear hg
      by_cases hz : q = 0
      · subst hz
        have hpg : p = G := by rw [← HG.out, Nat.gcd_zero_right]
        subst hpg
        have w1 := V1.out
        have w2 := V2.out
        have w3 := V3.out
        have w4 := V4.out
        have gz : (-(p : Int) == 0) = false := by simp; omega
        go_wp2_with fail
        all_goals
          first
            | (refine bodyPost_ret (v := .tuple #[.agg #[.int .i64 0, .int .i64 0], .int .i64 5]) ?_ rfl ⟨rfl, ((bdN ((Below.refl _ _).alloc (Nat.le_refl _) _) _).setCell (Nat.le_refl _) _).setCell (Nat.le_refl _) _⟩; (simp [results, Tryd.results14, go_sem]; done))
            | (refine bodyPost_ret (v := .tuple #[.agg #[.int .i64 0, .int .i64 0], .int .i64 5]) ?_ rfl ⟨rfl, bdN ((Below.refl _ _).alloc (Nat.le_refl _) _) _⟩; (simp [results, Tryd.results14, go_sem]; done))
            | (exfalso; have hbo := HBG.out; (clear w1 w2 w3 w4; omega))
      · have h5 : (1 : Int) ≤ (q : Int) := by omega
        have hb1 : (-(q : Int) != 0) = true := by simp; omega
        have hb2 : (-(q : Int) == 0) = false := by simp; omega
        have e5 : -((p : Int) % (q : Int)) = -((p % q : Nat) : Int) := by simp
        have hE2 := Lib.hid e5
        have hm := Nat.mod_lt p (show q > 0 by omega)
        clear e5
        go_wp2_with fail
        go_quiet (fail)
        go_wp2_with fail
        go_roundw
        case rel => exact ⟨q, p % q, k + nq, rfl, i64_neg_eq hE2.out, hq, by omega, by rw [← HG.out, Nat.gcd_comm p q, Nat.gcd_rec q p, Nat.gcd_comm], by first | rfl | rw [World.drewN_drewN]⟩
        case measure => simp only [intOf]; rw [hE2.out]; omega

set_option maxHeartbeats 8000000 in
theorem refMake_pos_ok (n d n1 d1 n2 d2 : Int) (G : Nat) (hd : d ≠ 0) (h1 : -9223372036854775808 ≤ n) (h2 : n ≤ 9223372036854775807) (h3 : -9223372036854775808 ≤ d) (h4 : d ≤ 9223372036854775807) (w : World)
    (hGG : Nat.gcd n.natAbs d.natAbs = G) (g1 : 1 ≤ G) (W1 : wrap64 (-n.tdiv (G : Int)) = n1) (W2 : wrap64 (-d.tdiv (G : Int)) = d1) (W3 : wrap64 (-n1) = n2) (W4 : wrap64 (-d1) = d2)
    (s : ¬ d1 < 0) (hbg : ¬ (n1 < -1073741824 ∨ 1073741824 < n1 ∨ d1 < 1 ∨ 1073741824 < d1)) :
    Calls Tryd.prog 14 #[.int .i64 n, .int .i64 d] w fun e w' => e = .returned (.tuple #[.agg #[.int .i64 n1, .int .i64 d1], .int .i64 0]) ∧ Below w.heap.size w w' := by
  have f0 : (d == 0) = false := by simpa using hd
  have hA : n.natAbs ≤ 9223372036854775808 := by omega
  have hB : d.natAbs ≤ 9223372036854775808 := by omega
  have HGG := Lib.hid hGG
  have V1 := Lib.hid W1
  have V2 := Lib.hid W2
  have V3 := Lib.hid W3
  have V4 := Lib.hid W4
  have HBG := Lib.hid hbg
  clear hGG W1 W2 W3 W4 hbg
  go_enter Tryd.func14, Tryd.ntmps14
  go_wp2_with fail
  all_goals
    go_loopw [6, 7] (fun x y wr => ∃ p q k : Nat, x = .int .i64 (-(p : Int)) ∧ y = .int .i64 (-(q : Int)) ∧ p ≤ 9223372036854775808 ∧ q ≤ 9223372036854775808 ∧ Nat.gcd p q = G ∧ wr = (w.alloc (.cells #[.int .i64 0, .int .i64 0] 24)).drewN k) (fun _ y _ => (-(intOf y)).toNat)
    case atStart => exact ⟨n.natAbs, d.natAbs, 0, i64_neg_eq (by omega), i64_neg_eq (by omega), hA, hB, HGG.out, rfl⟩
    case round =>
      obtain ⟨p, q, k, rfl, rfl, hp, hq, hg, rfl⟩ := hrel
      have HG := Lib.hid hg
      clear hg
      by_cases hz : q = 0
      · subst hz
        have hpg : p = G := by rw [← HG.out, Nat.gcd_zero_right]
        subst hpg
        have w1 := V1.out
        have w2 := V2.out
        have w3 := V3.out
        have w4 := V4.out
        have gz : (-(p : Int) == 0) = false := by simp; omega
        go_wp2_with fail
        all_goals
          first
            | (refine bodyPost_ret (v := .tuple #[.agg #[.int .i64 n1, .int .i64 d1], .int .i64 0]) ?_ rfl ⟨rfl, ((bdN ((Below.refl _ _).alloc (Nat.le_refl _) _) _).setCell (Nat.le_refl _) _).setCell (Nat.le_refl _) _⟩; (simp [results, Tryd.results14, go_sem]; done))
            | (refine bodyPost_ret (v := .tuple #[.agg #[.int .i64 n1, .int .i64 d1], .int .i64 0]) ?_ rfl ⟨rfl, bdN ((Below.refl _ _).alloc (Nat.le_refl _) _) _⟩; (simp [results, Tryd.results14, go_sem]; done))
            | (exfalso; have hbo := HBG.out; (clear w1 w2 w3 w4; omega))
      · have h5 : (1 : Int) ≤ (q : Int) := by omega
        have hb1 : (-(q : Int) != 0) = true := by simp; omega
        have hb2 : (-(q : Int) == 0) = false := by simp; omega
        have e5 : -((p : Int) % (q : Int)) = -((p % q : Nat) : Int) := by simp
        have hE2 := Lib.hid e5
        have hm := Nat.mod_lt p (show q > 0 by omega)
        clear e5
        go_wp2_with fail
        go_quiet (fail)
        go_wp2_with fail
        go_roundw
        case rel => exact ⟨q, p % q, k + nq, rfl, i64_neg_eq hE2.out, hq, by omega, by rw [← HG.out, Nat.gcd_comm p q, Nat.gcd_rec q p, Nat.gcd_comm], by first | rfl | rw [World.drewN_drewN]⟩
        case measure => simp only [intOf]; rw [hE2.out]; omega

theorem wr_eq (n : Int) (G : Nat) : wrap64 (-n.tdiv (G : Int)) = IntKind.i64.wrap (n.tdiv (-(G : Int))) := by rw [Int.tdiv_neg, IntWalk.i64_left]
theorem refMake_any (n d : Int) (h1 : -9223372036854775808 ≤ n) (h2 : n ≤ 9223372036854775807) (h3 : -9223372036854775808 ≤ d) (h4 : d ≤ 9223372036854775807) (w : World) :
    Calls Tryd.prog 14 #[.int .i64 n, .int .i64 d] w fun e w' => e = .returned (frR (mkR n d)) ∧ Below w.heap.size w w' := by
  by_cases hd : d = 0
  · exact refMake_zero n d hd w
  · obtain ⟨a, b, ha, hb, g1, e1, e2, HC⟩ := make_names (n := n) hd
    have hdn : ((Nat.gcd n.natAbs d.natAbs : Nat) : Int) ∣ n := Int.gcd_dvd_left n d
    have hdd : ((Nat.gcd n.natAbs d.natAbs : Nat) : Int) ∣ d := Int.gcd_dvd_right n d
    have hb1 : 1 ≤ b := by
      have hle : Nat.gcd n.natAbs d.natAbs ≤ d.natAbs := Nat.gcd_le_right _ (by omega)
      have : 1 ≤ (d.natAbs : Int) / (Nat.gcd n.natAbs d.natAbs : Int) := by
        rw [Int.le_ediv_iff_mul_le (by omega)]; omega
      omega
    obtain ⟨G, hGG⟩ : ∃ G, Nat.gcd n.natAbs d.natAbs = G := ⟨_, rfl⟩
    rw [hGG] at e1 e2 g1 hdn hdd
    have t1 := quo_names (by omega) e1 hdn
    have t2 := quo_names (by omega) e2 hdd
    have hE : Ends n d (IntKind.i64.wrap (n.tdiv (-(G : Int)))) (IntKind.i64.wrap (d.tdiv (-(G : Int)))) _ _ a b := ⟨by rw [t1], by rw [t2], rfl, rfl⟩
    rw [HC]
    by_cases s : IntKind.i64.wrap (d.tdiv (-(G : Int))) < 0
    · rw [hE.fin_neg (by omega) (by omega) hb1 s]
      split
      · rename_i hbg
        exact refMake_neg_big n d _ _ _ _ G hd h1 h2 h3 h4 w hGG (by omega) (wr_eq n G) (wr_eq d G) (IntWalk.i64_left _).symm (IntWalk.i64_left _).symm s hbg
      · rename_i hbg
        exact refMake_neg_ok n d _ _ _ _ G hd h1 h2 h3 h4 w hGG (by omega) (wr_eq n G) (wr_eq d G) (IntWalk.i64_left _).symm (IntWalk.i64_left _).symm s hbg
    · rw [hE.fin_pos (by omega) (by omega) hb1 s]
      split
      · rename_i hbg
        exact refMake_pos_big n d _ _ _ _ G hd h1 h2 h3 h4 w hGG (by omega) (wr_eq n G) (wr_eq d G) (IntWalk.i64_left _).symm (IntWalk.i64_left _).symm s hbg
      · rename_i hbg
        exact refMake_pos_ok n d _ _ _ _ G hd h1 h2 h3 h4 w hGG (by omega) (wr_eq n G) (wr_eq d G) (IntWalk.i64_left _).symm (IntWalk.i64_left _).symm s hbg
end Go.Proofs.YtmebdieflllgcaaDoor
