/- RatioOrder: plain facts of the order; the law's walk. -/
import Derived.Test.YtmebdieflllgcaaDoorRatioOps
namespace Go.Proofs.YtmebdieflllgcaaDoor
open Go.RowKit
set_option maxRecDepth 100000

def cmpQ (p q : Rat) : Int := if p < q then -1 else if q < p then 1 else 0
theorem cmpQ_vals (p q : Rat) : (cmpQ p q = -1 ∧ p < q) ∨ (cmpQ p q = 1 ∧ q < p) ∨ (cmpQ p q = 0 ∧ p = q) := by
  unfold cmpQ
  by_cases h1 : p < q
  · rw [if_pos h1]; exact .inl ⟨rfl, h1⟩
  · by_cases h2 : q < p
    · rw [if_neg h1, if_pos h2]; exact .inr (.inl ⟨rfl, h2⟩)
    · rw [if_neg h1, if_neg h2]
      exact .inr (.inr ⟨rfl, Rat.le_antisymm (Rat.not_lt.1 h2) (Rat.not_lt.1 h1)⟩)
theorem ratlt_trans {p q r : Rat} (h : p < q) (k : q < r) : p < r := by
  rcases Rat.lt_iff_le_and_ne.1 h with ⟨h1, h2⟩
  have hle := Rat.le_trans h1 (Rat.le_of_lt k)
  refine Rat.lt_of_le_of_ne hle ?_
  intro he
  subst he
  exact h2 (Rat.le_antisymm h1 (Rat.le_of_lt k))
theorem ratlt_asymm {p q : Rat} (h : p < q) (k : q < p) : False := Rat.lt_irrefl (ratlt_trans h k)
theorem cmpQ_swap (p q : Rat) : cmpQ q p = -cmpQ p q := by
  rcases cmpQ_vals p q with ⟨a, h⟩ | ⟨a, h⟩ | ⟨a, h⟩ <;> rcases cmpQ_vals q p with ⟨b, k⟩ | ⟨b, k⟩ | ⟨b, k⟩ <;> rw [a, b] <;> first | rfl | (exfalso; first | exact ratlt_asymm h k | (subst h; exact Rat.lt_irrefl k) | (subst k; exact Rat.lt_irrefl h))
theorem cmpQ_trans (p q r : Rat) (h : cmpQ p q ≤ 0) (k : cmpQ q r ≤ 0) : cmpQ p r ≤ 0 ∧ (cmpQ p r = 0 → cmpQ p q = 0 ∧ cmpQ q r = 0) := by
  rcases cmpQ_vals p q with ⟨a, h1⟩ | ⟨a, h1⟩ | ⟨a, h1⟩
  · rcases cmpQ_vals q r with ⟨b, k1⟩ | ⟨b, k1⟩ | ⟨b, k1⟩
    · have : cmpQ p r = -1 := by unfold cmpQ; rw [if_pos (ratlt_trans h1 k1)]
      omega
    · omega
    · subst k1
      omega
  · omega
  · subst h1
    have h0 : cmpQ p p = 0 := a
    omega
theorem cmpQ_add (p q r : Rat) : cmpQ (p + r) (q + r) = cmpQ p q := by
  unfold cmpQ
  simp only [Rat.add_lt_add_right]
theorem cmpI_rat {n d m e : Int} (h : vF n d) (k : vF m e) : cmpI (n * e) (m * d) = cmpQ (Rat.divInt n d) (Rat.divInt m e) := by
  unfold cmpI cmpQ
  simp only [Rat.lt_iff, vF_num h, vF_den h, vF_num k, vF_den k]
theorem rat_inj {n d m e : Int} (h : vF n d) (k : vF m e) (hq : Rat.divInt n d = Rat.divInt m e) : n = m ∧ d = e := by
  have h1 := vF_num h
  have h2 := vF_den h
  rw [hq] at h1 h2
  exact ⟨h1.symm.trans (vF_num k), h2.symm.trans (vF_den k)⟩
theorem cmpF_ok {n d m e : Int} (h : vF n d) (k : vF m e) : cmpF n d m e = (cmpQ (Rat.divInt n d) (Rat.divInt m e), 0) := by
  unfold cmpF
  rw [vldB_true.2 h, vldB_true.2 k, ← cmpI_rat h k]
  rfl

set_option maxHeartbeats 16000000 in
theorem ratioOrder_A (n d m e k f ab bc ac x1 y1 z1 x2 y2 z2 : Int) (w : World) (hp : Pw w) (v1 : vldB n d = true) (v2 : vldB m e = true) (v3 : vldB k f = true)
    (k1 : ∀ W, Calls Tryd.prog 25 #[.agg #[.int .i64 n, .int .i64 d], .agg #[.int .i64 m, .int .i64 e]] W fun r w' => r = .returned (.tuple #[.int .i64 ab, .int .i64 0]) ∧ Below W.heap.size W w')
    (k2 : ∀ W, Calls Tryd.prog 25 #[.agg #[.int .i64 m, .int .i64 e], .agg #[.int .i64 n, .int .i64 d]] W fun r w' => r = .returned (.tuple #[.int .i64 (-ab), .int .i64 0]) ∧ Below W.heap.size W w')
    (k3 : ∀ W, Calls Tryd.prog 25 #[.agg #[.int .i64 m, .int .i64 e], .agg #[.int .i64 k, .int .i64 f]] W fun r w' => r = .returned (.tuple #[.int .i64 bc, .int .i64 0]) ∧ Below W.heap.size W w')
    (k4 : ∀ W, Calls Tryd.prog 25 #[.agg #[.int .i64 n, .int .i64 d], .agg #[.int .i64 k, .int .i64 f]] W fun r w' => r = .returned (.tuple #[.int .i64 ac, .int .i64 0]) ∧ Below W.heap.size W w')
    (r1 : addR n d k f = (x1, y1, z1)) (r2 : addR m e k f = (x2, y2, z2))
    (k5 : z1 = 0 → z2 = 0 → ∀ W, Calls Tryd.prog 25 #[.agg #[.int .i64 x1, .int .i64 y1], .agg #[.int .i64 x2, .int .i64 y2]] W fun r w' => r = .returned (.tuple #[.int .i64 ab, .int .i64 0]) ∧ Below W.heap.size W w')
    (b1 : -1 ≤ ab) (b2 : ab ≤ 1) (ht : ab ≤ 0 → bc ≤ 0 → ac ≤ 0 ∧ (ac = 0 → ab = 0 ∧ bc = 0)) (hn : n = m) (hd : d = e) (h0 : ab = 0) :
    Calls Tryd.prog 8 #[.agg #[.int .i64 n, .int .i64 d], .agg #[.int .i64 m, .int .i64 e], .agg #[.int .i64 k, .int .i64 f]] w fun r w' => r = .returned (.bool true) ∧ Below w.heap.size w w' := by
  subst hn hd h0
  have V1 := Lib.hid (fun W => refValid_ok n d W v1)
  have V2 := Lib.hid (fun W => refValid_ok n d W v2)
  have V3 := Lib.hid (fun W => refValid_ok k f W v3)
  have C1 := Lib.hid k1
  have C2 := Lib.hid k2
  have C3 := Lib.hid k3
  have C4 := Lib.hid k4
  have A1 := Lib.hid (fun W => Add_is n d k f x1 y1 z1 W r1)
  have A2 := Lib.hid (fun W => Add_is n d k f x2 y2 z2 W r2)
  have C5 := Lib.hid k5
  have HT := Lib.hid ht
  clear v1 v2 v3 k1 k2 k3 k4 k5 r1 r2 ht
  have HP := Lib.hid (hp.on ((((Hd.nil w).add (.cells #[.int .i64 n, .int .i64 d] 24)).add (.cells #[.int .i64 n, .int .i64 d] 24)).add (.cells #[.int .i64 k, .int .i64 f] 24)).below)
  have H0 := Lib.hid ((((Hd.nil w).add (.cells #[.int .i64 n, .int .i64 d] 24)).add (.cells #[.int .i64 n, .int .i64 d] 24)).add (.cells #[.int .i64 k, .int .i64 f] 24))
  simp only [World.size_alloc] at H0
  clear hp
  go_enter Tryd.func8, Tryd.ntmps8
  go_wp2_with fail
  refine (awake04_any _ HP.out).mono ?_
  rintro r w0 ⟨rfl, hb⟩
  have G0 := Lib.hid (H0.out.on hb)
  clear hb
  obtain ⟨⟨o0, o1⟩, _⟩ := bk2 G0.out.tl.tl.h0
  have lo := bdLt G0.out.tl.tl.h0
  obtain ⟨⟨p0, p1⟩, _⟩ := bk2 G0.out.tl.h0
  have lp := bdLt G0.out.tl.h0
  obtain ⟨⟨q0, q1⟩, _⟩ := bk2 G0.out.h0
  have lq := bdLt G0.out.h0
  go_wp2_with fail
  clear o0 o1 p0 p1 q0 q1 lo lp lq
  refine (V1.out _).mono ?_
  rintro r w1 ⟨rfl, hb⟩
  have G1 := Lib.hid (G0.out.on hb)
  clear hb
  obtain ⟨⟨o0, o1⟩, _⟩ := bk2 G1.out.tl.tl.h0
  have lo := bdLt G1.out.tl.tl.h0
  obtain ⟨⟨p0, p1⟩, _⟩ := bk2 G1.out.tl.h0
  have lp := bdLt G1.out.tl.h0
  obtain ⟨⟨q0, q1⟩, _⟩ := bk2 G1.out.h0
  have lq := bdLt G1.out.h0
  go_wp2_with fail
  clear o0 o1 p0 p1 q0 q1 lo lp lq
  refine (V2.out _).mono ?_
  rintro r w2 ⟨rfl, hb⟩
  have G2 := Lib.hid (G1.out.on hb)
  clear hb
  obtain ⟨⟨o0, o1⟩, _⟩ := bk2 G2.out.tl.tl.h0
  have lo := bdLt G2.out.tl.tl.h0
  obtain ⟨⟨p0, p1⟩, _⟩ := bk2 G2.out.tl.h0
  have lp := bdLt G2.out.tl.h0
  obtain ⟨⟨q0, q1⟩, _⟩ := bk2 G2.out.h0
  have lq := bdLt G2.out.h0
  go_wp2_with fail
  clear o0 o1 p0 p1 q0 q1 lo lp lq
  refine (V3.out _).mono ?_
  rintro r w3 ⟨rfl, hb⟩
  have G3 := Lib.hid (G2.out.on hb)
  clear hb
  obtain ⟨⟨o0, o1⟩, _⟩ := bk2 G3.out.tl.tl.h0
  have lo := bdLt G3.out.tl.tl.h0
  obtain ⟨⟨p0, p1⟩, _⟩ := bk2 G3.out.tl.h0
  have lp := bdLt G3.out.tl.h0
  obtain ⟨⟨q0, q1⟩, _⟩ := bk2 G3.out.h0
  have lq := bdLt G3.out.h0
  go_wp2_with fail
  clear o0 o1 p0 p1 q0 q1 lo lp lq
  refine (C1.out _).mono ?_
  rintro r w4 ⟨rfl, hb⟩
  have G4 := Lib.hid (G3.out.on hb)
  clear hb
  obtain ⟨⟨o0, o1⟩, _⟩ := bk2 G4.out.tl.tl.h0
  have lo := bdLt G4.out.tl.tl.h0
  obtain ⟨⟨p0, p1⟩, _⟩ := bk2 G4.out.tl.h0
  have lp := bdLt G4.out.tl.h0
  obtain ⟨⟨q0, q1⟩, _⟩ := bk2 G4.out.h0
  have lq := bdLt G4.out.h0
  go_wp2_with fail
  clear o0 o1 p0 p1 q0 q1 lo lp lq
  refine (C2.out _).mono ?_
  rintro r w5 ⟨rfl, hb⟩
  have G5 := Lib.hid (G4.out.on hb)
  clear hb
  obtain ⟨⟨o0, o1⟩, _⟩ := bk2 G5.out.tl.tl.h0
  have lo := bdLt G5.out.tl.tl.h0
  obtain ⟨⟨p0, p1⟩, _⟩ := bk2 G5.out.tl.h0
  have lp := bdLt G5.out.tl.h0
  obtain ⟨⟨q0, q1⟩, _⟩ := bk2 G5.out.h0
  have lq := bdLt G5.out.h0
  go_wp2_with fail
  clear o0 o1 p0 p1 q0 q1 lo lp lq
  refine (C3.out _).mono ?_
  rintro r w6 ⟨rfl, hb⟩
  have G6 := Lib.hid (G5.out.on hb)
  clear hb
  obtain ⟨⟨o0, o1⟩, _⟩ := bk2 G6.out.tl.tl.h0
  have lo := bdLt G6.out.tl.tl.h0
  obtain ⟨⟨p0, p1⟩, _⟩ := bk2 G6.out.tl.h0
  have lp := bdLt G6.out.tl.h0
  obtain ⟨⟨q0, q1⟩, _⟩ := bk2 G6.out.h0
  have lq := bdLt G6.out.h0
  go_wp2_with fail
  clear o0 o1 p0 p1 q0 q1 lo lp lq
  refine (C4.out _).mono ?_
  rintro r w7 ⟨rfl, hb⟩
  have G7 := Lib.hid (G6.out.on hb)
  clear hb
  obtain ⟨⟨o0, o1⟩, _⟩ := bk2 G7.out.tl.tl.h0
  have lo := bdLt G7.out.tl.tl.h0
  obtain ⟨⟨p0, p1⟩, _⟩ := bk2 G7.out.tl.h0
  have lp := bdLt G7.out.tl.h0
  obtain ⟨⟨q0, q1⟩, _⟩ := bk2 G7.out.h0
  have lq := bdLt G7.out.h0
  go_wp2_with fail
  all_goals (try (exfalso; have hh := HT.out; omega))
  all_goals
    clear o0 o1 p0 p1 q0 q1 lo lp lq
    refine (A1.out _).mono ?_
    rintro r w8 ⟨rfl, hb⟩
    have K8 := Lib.hid (G7.out.on hb)
    have G8 := Lib.hid (K8.out.add (.cells #[.int .i64 x1, .int .i64 y1] 24))
    clear hb
    obtain ⟨⟨o0, o1⟩, _⟩ := bk2 K8.out.tl.tl.h0
    have lo := bdLt K8.out.tl.tl.h0
    obtain ⟨⟨p0, p1⟩, _⟩ := bk2 K8.out.tl.h0
    have lp := bdLt K8.out.tl.h0
    obtain ⟨⟨q0, q1⟩, _⟩ := bk2 K8.out.h0
    have lq := bdLt K8.out.h0
    go_wp2_with fail
    clear o0 o1 p0 p1 q0 q1 lo lp lq
    refine (A2.out _).mono ?_
    rintro r w9 ⟨rfl, hb⟩
    have K9 := Lib.hid (G8.out.on hb)
    have G9 := Lib.hid (K9.out.add (.cells #[.int .i64 x2, .int .i64 y2] 24))
    clear hb
    obtain ⟨⟨o0, o1⟩, _⟩ := bk2 K9.out.h0
    have lo := bdLt K9.out.h0
    go_wp2_with fail
    all_goals
      first
        | (go_ret; exact ⟨rfl, G9.out.below⟩)
        | (refine (C5.out (by simp_all) (by simp_all) _).mono ?_
           rintro r wz ⟨rfl, hb⟩
           have GZ := Lib.hid (G9.out.on hb)
           clear hb
           go_wp2_with fail
           go_ret
           exact ⟨rfl, GZ.out.below⟩)

set_option maxHeartbeats 16000000 in
theorem ratioOrder_B (n d m e k f ab bc ac x1 y1 z1 x2 y2 z2 : Int) (w : World) (hp : Pw w) (v1 : vldB n d = true) (v2 : vldB m e = true) (v3 : vldB k f = true)
    (k1 : ∀ W, Calls Tryd.prog 25 #[.agg #[.int .i64 n, .int .i64 d], .agg #[.int .i64 m, .int .i64 e]] W fun r w' => r = .returned (.tuple #[.int .i64 ab, .int .i64 0]) ∧ Below W.heap.size W w')
    (k2 : ∀ W, Calls Tryd.prog 25 #[.agg #[.int .i64 m, .int .i64 e], .agg #[.int .i64 n, .int .i64 d]] W fun r w' => r = .returned (.tuple #[.int .i64 (-ab), .int .i64 0]) ∧ Below W.heap.size W w')
    (k3 : ∀ W, Calls Tryd.prog 25 #[.agg #[.int .i64 m, .int .i64 e], .agg #[.int .i64 k, .int .i64 f]] W fun r w' => r = .returned (.tuple #[.int .i64 bc, .int .i64 0]) ∧ Below W.heap.size W w')
    (k4 : ∀ W, Calls Tryd.prog 25 #[.agg #[.int .i64 n, .int .i64 d], .agg #[.int .i64 k, .int .i64 f]] W fun r w' => r = .returned (.tuple #[.int .i64 ac, .int .i64 0]) ∧ Below W.heap.size W w')
    (r1 : addR n d k f = (x1, y1, z1)) (r2 : addR m e k f = (x2, y2, z2))
    (k5 : z1 = 0 → z2 = 0 → ∀ W, Calls Tryd.prog 25 #[.agg #[.int .i64 x1, .int .i64 y1], .agg #[.int .i64 x2, .int .i64 y2]] W fun r w' => r = .returned (.tuple #[.int .i64 ab, .int .i64 0]) ∧ Below W.heap.size W w')
    (b1 : -1 ≤ ab) (b2 : ab ≤ 1) (ht : ab ≤ 0 → bc ≤ 0 → ac ≤ 0 ∧ (ac = 0 → ab = 0 ∧ bc = 0)) (hn : n ≠ m) (h0 : ab ≠ 0) :
    Calls Tryd.prog 8 #[.agg #[.int .i64 n, .int .i64 d], .agg #[.int .i64 m, .int .i64 e], .agg #[.int .i64 k, .int .i64 f]] w fun r w' => r = .returned (.bool true) ∧ Below w.heap.size w w' := by
  have f0 : (ab == 0) = false := by simpa using h0
  have V1 := Lib.hid (fun W => refValid_ok n d W v1)
  have V2 := Lib.hid (fun W => refValid_ok m e W v2)
  have V3 := Lib.hid (fun W => refValid_ok k f W v3)
  have C1 := Lib.hid k1
  have C2 := Lib.hid k2
  have C3 := Lib.hid k3
  have C4 := Lib.hid k4
  have A1 := Lib.hid (fun W => Add_is n d k f x1 y1 z1 W r1)
  have A2 := Lib.hid (fun W => Add_is m e k f x2 y2 z2 W r2)
  have C5 := Lib.hid k5
  have HT := Lib.hid ht
  clear v1 v2 v3 k1 k2 k3 k4 k5 r1 r2 ht h0
  have HP := Lib.hid (hp.on ((((Hd.nil w).add (.cells #[.int .i64 n, .int .i64 d] 24)).add (.cells #[.int .i64 m, .int .i64 e] 24)).add (.cells #[.int .i64 k, .int .i64 f] 24)).below)
  have H0 := Lib.hid ((((Hd.nil w).add (.cells #[.int .i64 n, .int .i64 d] 24)).add (.cells #[.int .i64 m, .int .i64 e] 24)).add (.cells #[.int .i64 k, .int .i64 f] 24))
  simp only [World.size_alloc] at H0
  clear hp
  go_enter Tryd.func8, Tryd.ntmps8
  go_wp2_with fail
  refine (awake04_any _ HP.out).mono ?_
  rintro r w0 ⟨rfl, hb⟩
  have G0 := Lib.hid (H0.out.on hb)
  clear hb
  obtain ⟨⟨o0, o1⟩, _⟩ := bk2 G0.out.tl.tl.h0
  have lo := bdLt G0.out.tl.tl.h0
  obtain ⟨⟨p0, p1⟩, _⟩ := bk2 G0.out.tl.h0
  have lp := bdLt G0.out.tl.h0
  obtain ⟨⟨q0, q1⟩, _⟩ := bk2 G0.out.h0
  have lq := bdLt G0.out.h0
  go_wp2_with fail
  clear o0 o1 p0 p1 q0 q1 lo lp lq
  refine (V1.out _).mono ?_
  rintro r w1 ⟨rfl, hb⟩
  have G1 := Lib.hid (G0.out.on hb)
  clear hb
  obtain ⟨⟨o0, o1⟩, _⟩ := bk2 G1.out.tl.tl.h0
  have lo := bdLt G1.out.tl.tl.h0
  obtain ⟨⟨p0, p1⟩, _⟩ := bk2 G1.out.tl.h0
  have lp := bdLt G1.out.tl.h0
  obtain ⟨⟨q0, q1⟩, _⟩ := bk2 G1.out.h0
  have lq := bdLt G1.out.h0
  go_wp2_with fail
  clear o0 o1 p0 p1 q0 q1 lo lp lq
  refine (V2.out _).mono ?_
  rintro r w2 ⟨rfl, hb⟩
  have G2 := Lib.hid (G1.out.on hb)
  clear hb
  obtain ⟨⟨o0, o1⟩, _⟩ := bk2 G2.out.tl.tl.h0
  have lo := bdLt G2.out.tl.tl.h0
  obtain ⟨⟨p0, p1⟩, _⟩ := bk2 G2.out.tl.h0
  have lp := bdLt G2.out.tl.h0
  obtain ⟨⟨q0, q1⟩, _⟩ := bk2 G2.out.h0
  have lq := bdLt G2.out.h0
  go_wp2_with fail
  clear o0 o1 p0 p1 q0 q1 lo lp lq
  refine (V3.out _).mono ?_
  rintro r w3 ⟨rfl, hb⟩
  have G3 := Lib.hid (G2.out.on hb)
  clear hb
  obtain ⟨⟨o0, o1⟩, _⟩ := bk2 G3.out.tl.tl.h0
  have lo := bdLt G3.out.tl.tl.h0
  obtain ⟨⟨p0, p1⟩, _⟩ := bk2 G3.out.tl.h0
  have lp := bdLt G3.out.tl.h0
  obtain ⟨⟨q0, q1⟩, _⟩ := bk2 G3.out.h0
  have lq := bdLt G3.out.h0
  go_wp2_with fail
  clear o0 o1 p0 p1 q0 q1 lo lp lq
  refine (C1.out _).mono ?_
  rintro r w4 ⟨rfl, hb⟩
  have G4 := Lib.hid (G3.out.on hb)
  clear hb
  obtain ⟨⟨o0, o1⟩, _⟩ := bk2 G4.out.tl.tl.h0
  have lo := bdLt G4.out.tl.tl.h0
  obtain ⟨⟨p0, p1⟩, _⟩ := bk2 G4.out.tl.h0
  have lp := bdLt G4.out.tl.h0
  obtain ⟨⟨q0, q1⟩, _⟩ := bk2 G4.out.h0
  have lq := bdLt G4.out.h0
  go_wp2_with fail
  clear o0 o1 p0 p1 q0 q1 lo lp lq
  refine (C2.out _).mono ?_
  rintro r w5 ⟨rfl, hb⟩
  have G5 := Lib.hid (G4.out.on hb)
  clear hb
  obtain ⟨⟨o0, o1⟩, _⟩ := bk2 G5.out.tl.tl.h0
  have lo := bdLt G5.out.tl.tl.h0
  obtain ⟨⟨p0, p1⟩, _⟩ := bk2 G5.out.tl.h0
  have lp := bdLt G5.out.tl.h0
  obtain ⟨⟨q0, q1⟩, _⟩ := bk2 G5.out.h0
  have lq := bdLt G5.out.h0
  go_wp2_with fail
  clear o0 o1 p0 p1 q0 q1 lo lp lq
  refine (C3.out _).mono ?_
  rintro r w6 ⟨rfl, hb⟩
  have G6 := Lib.hid (G5.out.on hb)
  clear hb
  obtain ⟨⟨o0, o1⟩, _⟩ := bk2 G6.out.tl.tl.h0
  have lo := bdLt G6.out.tl.tl.h0
  obtain ⟨⟨p0, p1⟩, _⟩ := bk2 G6.out.tl.h0
  have lp := bdLt G6.out.tl.h0
  obtain ⟨⟨q0, q1⟩, _⟩ := bk2 G6.out.h0
  have lq := bdLt G6.out.h0
  go_wp2_with fail
  clear o0 o1 p0 p1 q0 q1 lo lp lq
  refine (C4.out _).mono ?_
  rintro r w7 ⟨rfl, hb⟩
  have G7 := Lib.hid (G6.out.on hb)
  clear hb
  obtain ⟨⟨o0, o1⟩, _⟩ := bk2 G7.out.tl.tl.h0
  have lo := bdLt G7.out.tl.tl.h0
  obtain ⟨⟨p0, p1⟩, _⟩ := bk2 G7.out.tl.h0
  have lp := bdLt G7.out.tl.h0
  obtain ⟨⟨q0, q1⟩, _⟩ := bk2 G7.out.h0
  have lq := bdLt G7.out.h0
  go_wp2_with fail
  all_goals (try (exfalso; have hh := HT.out; omega))
  all_goals
    clear o0 o1 p0 p1 q0 q1 lo lp lq
    refine (A1.out _).mono ?_
    rintro r w8 ⟨rfl, hb⟩
    have K8 := Lib.hid (G7.out.on hb)
    have G8 := Lib.hid (K8.out.add (.cells #[.int .i64 x1, .int .i64 y1] 24))
    clear hb
    obtain ⟨⟨o0, o1⟩, _⟩ := bk2 K8.out.tl.tl.h0
    have lo := bdLt K8.out.tl.tl.h0
    obtain ⟨⟨p0, p1⟩, _⟩ := bk2 K8.out.tl.h0
    have lp := bdLt K8.out.tl.h0
    obtain ⟨⟨q0, q1⟩, _⟩ := bk2 K8.out.h0
    have lq := bdLt K8.out.h0
    go_wp2_with fail
    clear o0 o1 p0 p1 q0 q1 lo lp lq
    refine (A2.out _).mono ?_
    rintro r w9 ⟨rfl, hb⟩
    have K9 := Lib.hid (G8.out.on hb)
    have G9 := Lib.hid (K9.out.add (.cells #[.int .i64 x2, .int .i64 y2] 24))
    clear hb
    obtain ⟨⟨o0, o1⟩, _⟩ := bk2 K9.out.h0
    have lo := bdLt K9.out.h0
    go_wp2_with fail
    all_goals
      first
        | (go_ret; exact ⟨rfl, G9.out.below⟩)
        | (refine (C5.out (by simp_all) (by simp_all) _).mono ?_
           rintro r wz ⟨rfl, hb⟩
           have GZ := Lib.hid (G9.out.on hb)
           clear hb
           go_wp2_with fail
           go_ret
           exact ⟨rfl, GZ.out.below⟩)

set_option maxHeartbeats 16000000 in
theorem ratioOrder_C (n d m e k f ab bc ac x1 y1 z1 x2 y2 z2 : Int) (w : World) (hp : Pw w) (v1 : vldB n d = true) (v2 : vldB m e = true) (v3 : vldB k f = true)
    (k1 : ∀ W, Calls Tryd.prog 25 #[.agg #[.int .i64 n, .int .i64 d], .agg #[.int .i64 m, .int .i64 e]] W fun r w' => r = .returned (.tuple #[.int .i64 ab, .int .i64 0]) ∧ Below W.heap.size W w')
    (k2 : ∀ W, Calls Tryd.prog 25 #[.agg #[.int .i64 m, .int .i64 e], .agg #[.int .i64 n, .int .i64 d]] W fun r w' => r = .returned (.tuple #[.int .i64 (-ab), .int .i64 0]) ∧ Below W.heap.size W w')
    (k3 : ∀ W, Calls Tryd.prog 25 #[.agg #[.int .i64 m, .int .i64 e], .agg #[.int .i64 k, .int .i64 f]] W fun r w' => r = .returned (.tuple #[.int .i64 bc, .int .i64 0]) ∧ Below W.heap.size W w')
    (k4 : ∀ W, Calls Tryd.prog 25 #[.agg #[.int .i64 n, .int .i64 d], .agg #[.int .i64 k, .int .i64 f]] W fun r w' => r = .returned (.tuple #[.int .i64 ac, .int .i64 0]) ∧ Below W.heap.size W w')
    (r1 : addR n d k f = (x1, y1, z1)) (r2 : addR m e k f = (x2, y2, z2))
    (k5 : z1 = 0 → z2 = 0 → ∀ W, Calls Tryd.prog 25 #[.agg #[.int .i64 x1, .int .i64 y1], .agg #[.int .i64 x2, .int .i64 y2]] W fun r w' => r = .returned (.tuple #[.int .i64 ab, .int .i64 0]) ∧ Below W.heap.size W w')
    (b1 : -1 ≤ ab) (b2 : ab ≤ 1) (ht : ab ≤ 0 → bc ≤ 0 → ac ≤ 0 ∧ (ac = 0 → ab = 0 ∧ bc = 0)) (hn : n = m) (hd : d ≠ e) (h0 : ab ≠ 0) :
    Calls Tryd.prog 8 #[.agg #[.int .i64 n, .int .i64 d], .agg #[.int .i64 m, .int .i64 e], .agg #[.int .i64 k, .int .i64 f]] w fun r w' => r = .returned (.bool true) ∧ Below w.heap.size w w' := by
  subst hn
  have f0 : (ab == 0) = false := by simpa using h0
  have V1 := Lib.hid (fun W => refValid_ok n d W v1)
  have V2 := Lib.hid (fun W => refValid_ok n e W v2)
  have V3 := Lib.hid (fun W => refValid_ok k f W v3)
  have C1 := Lib.hid k1
  have C2 := Lib.hid k2
  have C3 := Lib.hid k3
  have C4 := Lib.hid k4
  have A1 := Lib.hid (fun W => Add_is n d k f x1 y1 z1 W r1)
  have A2 := Lib.hid (fun W => Add_is n e k f x2 y2 z2 W r2)
  have C5 := Lib.hid k5
  have HT := Lib.hid ht
  clear v1 v2 v3 k1 k2 k3 k4 k5 r1 r2 ht h0
  have HP := Lib.hid (hp.on ((((Hd.nil w).add (.cells #[.int .i64 n, .int .i64 d] 24)).add (.cells #[.int .i64 n, .int .i64 e] 24)).add (.cells #[.int .i64 k, .int .i64 f] 24)).below)
  have H0 := Lib.hid ((((Hd.nil w).add (.cells #[.int .i64 n, .int .i64 d] 24)).add (.cells #[.int .i64 n, .int .i64 e] 24)).add (.cells #[.int .i64 k, .int .i64 f] 24))
  simp only [World.size_alloc] at H0
  clear hp
  go_enter Tryd.func8, Tryd.ntmps8
  go_wp2_with fail
  refine (awake04_any _ HP.out).mono ?_
  rintro r w0 ⟨rfl, hb⟩
  have G0 := Lib.hid (H0.out.on hb)
  clear hb
  obtain ⟨⟨o0, o1⟩, _⟩ := bk2 G0.out.tl.tl.h0
  have lo := bdLt G0.out.tl.tl.h0
  obtain ⟨⟨p0, p1⟩, _⟩ := bk2 G0.out.tl.h0
  have lp := bdLt G0.out.tl.h0
  obtain ⟨⟨q0, q1⟩, _⟩ := bk2 G0.out.h0
  have lq := bdLt G0.out.h0
  go_wp2_with fail
  clear o0 o1 p0 p1 q0 q1 lo lp lq
  refine (V1.out _).mono ?_
  rintro r w1 ⟨rfl, hb⟩
  have G1 := Lib.hid (G0.out.on hb)
  clear hb
  obtain ⟨⟨o0, o1⟩, _⟩ := bk2 G1.out.tl.tl.h0
  have lo := bdLt G1.out.tl.tl.h0
  obtain ⟨⟨p0, p1⟩, _⟩ := bk2 G1.out.tl.h0
  have lp := bdLt G1.out.tl.h0
  obtain ⟨⟨q0, q1⟩, _⟩ := bk2 G1.out.h0
  have lq := bdLt G1.out.h0
  go_wp2_with fail
  clear o0 o1 p0 p1 q0 q1 lo lp lq
  refine (V2.out _).mono ?_
  rintro r w2 ⟨rfl, hb⟩
  have G2 := Lib.hid (G1.out.on hb)
  clear hb
  obtain ⟨⟨o0, o1⟩, _⟩ := bk2 G2.out.tl.tl.h0
  have lo := bdLt G2.out.tl.tl.h0
  obtain ⟨⟨p0, p1⟩, _⟩ := bk2 G2.out.tl.h0
  have lp := bdLt G2.out.tl.h0
  obtain ⟨⟨q0, q1⟩, _⟩ := bk2 G2.out.h0
  have lq := bdLt G2.out.h0
  go_wp2_with fail
  clear o0 o1 p0 p1 q0 q1 lo lp lq
  refine (V3.out _).mono ?_
  rintro r w3 ⟨rfl, hb⟩
  have G3 := Lib.hid (G2.out.on hb)
  clear hb
  obtain ⟨⟨o0, o1⟩, _⟩ := bk2 G3.out.tl.tl.h0
  have lo := bdLt G3.out.tl.tl.h0
  obtain ⟨⟨p0, p1⟩, _⟩ := bk2 G3.out.tl.h0
  have lp := bdLt G3.out.tl.h0
  obtain ⟨⟨q0, q1⟩, _⟩ := bk2 G3.out.h0
  have lq := bdLt G3.out.h0
  go_wp2_with fail
  clear o0 o1 p0 p1 q0 q1 lo lp lq
  refine (C1.out _).mono ?_
  rintro r w4 ⟨rfl, hb⟩
  have G4 := Lib.hid (G3.out.on hb)
  clear hb
  obtain ⟨⟨o0, o1⟩, _⟩ := bk2 G4.out.tl.tl.h0
  have lo := bdLt G4.out.tl.tl.h0
  obtain ⟨⟨p0, p1⟩, _⟩ := bk2 G4.out.tl.h0
  have lp := bdLt G4.out.tl.h0
  obtain ⟨⟨q0, q1⟩, _⟩ := bk2 G4.out.h0
  have lq := bdLt G4.out.h0
  go_wp2_with fail
  clear o0 o1 p0 p1 q0 q1 lo lp lq
  refine (C2.out _).mono ?_
  rintro r w5 ⟨rfl, hb⟩
  have G5 := Lib.hid (G4.out.on hb)
  clear hb
  obtain ⟨⟨o0, o1⟩, _⟩ := bk2 G5.out.tl.tl.h0
  have lo := bdLt G5.out.tl.tl.h0
  obtain ⟨⟨p0, p1⟩, _⟩ := bk2 G5.out.tl.h0
  have lp := bdLt G5.out.tl.h0
  obtain ⟨⟨q0, q1⟩, _⟩ := bk2 G5.out.h0
  have lq := bdLt G5.out.h0
  go_wp2_with fail
  clear o0 o1 p0 p1 q0 q1 lo lp lq
  refine (C3.out _).mono ?_
  rintro r w6 ⟨rfl, hb⟩
  have G6 := Lib.hid (G5.out.on hb)
  clear hb
  obtain ⟨⟨o0, o1⟩, _⟩ := bk2 G6.out.tl.tl.h0
  have lo := bdLt G6.out.tl.tl.h0
  obtain ⟨⟨p0, p1⟩, _⟩ := bk2 G6.out.tl.h0
  have lp := bdLt G6.out.tl.h0
  obtain ⟨⟨q0, q1⟩, _⟩ := bk2 G6.out.h0
  have lq := bdLt G6.out.h0
  go_wp2_with fail
  clear o0 o1 p0 p1 q0 q1 lo lp lq
  refine (C4.out _).mono ?_
  rintro r w7 ⟨rfl, hb⟩
  have G7 := Lib.hid (G6.out.on hb)
  clear hb
  obtain ⟨⟨o0, o1⟩, _⟩ := bk2 G7.out.tl.tl.h0
  have lo := bdLt G7.out.tl.tl.h0
  obtain ⟨⟨p0, p1⟩, _⟩ := bk2 G7.out.tl.h0
  have lp := bdLt G7.out.tl.h0
  obtain ⟨⟨q0, q1⟩, _⟩ := bk2 G7.out.h0
  have lq := bdLt G7.out.h0
  go_wp2_with fail
  all_goals (try (exfalso; have hh := HT.out; omega))
  all_goals
    clear o0 o1 p0 p1 q0 q1 lo lp lq
    refine (A1.out _).mono ?_
    rintro r w8 ⟨rfl, hb⟩
    have K8 := Lib.hid (G7.out.on hb)
    have G8 := Lib.hid (K8.out.add (.cells #[.int .i64 x1, .int .i64 y1] 24))
    clear hb
    obtain ⟨⟨o0, o1⟩, _⟩ := bk2 K8.out.tl.tl.h0
    have lo := bdLt K8.out.tl.tl.h0
    obtain ⟨⟨p0, p1⟩, _⟩ := bk2 K8.out.tl.h0
    have lp := bdLt K8.out.tl.h0
    obtain ⟨⟨q0, q1⟩, _⟩ := bk2 K8.out.h0
    have lq := bdLt K8.out.h0
    go_wp2_with fail
    clear o0 o1 p0 p1 q0 q1 lo lp lq
    refine (A2.out _).mono ?_
    rintro r w9 ⟨rfl, hb⟩
    have K9 := Lib.hid (G8.out.on hb)
    have G9 := Lib.hid (K9.out.add (.cells #[.int .i64 x2, .int .i64 y2] 24))
    clear hb
    obtain ⟨⟨o0, o1⟩, _⟩ := bk2 K9.out.h0
    have lo := bdLt K9.out.h0
    go_wp2_with fail
    all_goals
      first
        | (go_ret; exact ⟨rfl, G9.out.below⟩)
        | (refine (C5.out (by simp_all) (by simp_all) _).mono ?_
           rintro r wz ⟨rfl, hb⟩
           have GZ := Lib.hid (G9.out.on hb)
           clear hb
           go_wp2_with fail
           go_ret
           exact ⟨rfl, GZ.out.below⟩)

set_option maxHeartbeats 8000000 in
theorem ratioOrder_no1 (n d m e k f : Int) (w : World) (hp : Pw w) (v1 : vldB n d = false) :
    Calls Tryd.prog 8 #[.agg #[.int .i64 n, .int .i64 d], .agg #[.int .i64 m, .int .i64 e], .agg #[.int .i64 k, .int .i64 f]] w fun r w' => r = .returned (.bool true) ∧ Below w.heap.size w w' := by
  have V1 := Lib.hid (fun W => refValid_no n d W v1)
  clear v1
  have HP := Lib.hid (hp.on ((((Hd.nil w).add (.cells #[.int .i64 n, .int .i64 d] 24)).add (.cells #[.int .i64 m, .int .i64 e] 24)).add (.cells #[.int .i64 k, .int .i64 f] 24)).below)
  have H0 := Lib.hid ((((Hd.nil w).add (.cells #[.int .i64 n, .int .i64 d] 24)).add (.cells #[.int .i64 m, .int .i64 e] 24)).add (.cells #[.int .i64 k, .int .i64 f] 24))
  simp only [World.size_alloc] at H0
  clear hp
  go_enter Tryd.func8, Tryd.ntmps8
  go_wp2_with fail
  refine (awake04_any _ HP.out).mono ?_
  rintro r w0 ⟨rfl, hb⟩
  have G0 := Lib.hid (H0.out.on hb)
  clear hb
  obtain ⟨⟨o0, o1⟩, _⟩ := bk2 G0.out.tl.tl.h0
  have lo := bdLt G0.out.tl.tl.h0
  obtain ⟨⟨p0, p1⟩, _⟩ := bk2 G0.out.tl.h0
  have lp := bdLt G0.out.tl.h0
  obtain ⟨⟨q0, q1⟩, _⟩ := bk2 G0.out.h0
  have lq := bdLt G0.out.h0
  go_wp2_with fail
  clear o0 o1 p0 p1 q0 q1 lo lp lq
  refine (V1.out _).mono ?_
  rintro r w1 ⟨rfl, hb⟩
  have G1 := Lib.hid (G0.out.on hb)
  clear hb
  go_wp2_with fail
  go_ret
  exact ⟨rfl, G1.out.below⟩

set_option maxHeartbeats 8000000 in
theorem ratioOrder_no2 (n d m e k f : Int) (w : World) (hp : Pw w) (v1 : vldB n d = true) (v2 : vldB m e = false) :
    Calls Tryd.prog 8 #[.agg #[.int .i64 n, .int .i64 d], .agg #[.int .i64 m, .int .i64 e], .agg #[.int .i64 k, .int .i64 f]] w fun r w' => r = .returned (.bool true) ∧ Below w.heap.size w w' := by
  have V1 := Lib.hid (fun W => refValid_ok n d W v1)
  have V2 := Lib.hid (fun W => refValid_no m e W v2)
  clear v1 v2
  have HP := Lib.hid (hp.on ((((Hd.nil w).add (.cells #[.int .i64 n, .int .i64 d] 24)).add (.cells #[.int .i64 m, .int .i64 e] 24)).add (.cells #[.int .i64 k, .int .i64 f] 24)).below)
  have H0 := Lib.hid ((((Hd.nil w).add (.cells #[.int .i64 n, .int .i64 d] 24)).add (.cells #[.int .i64 m, .int .i64 e] 24)).add (.cells #[.int .i64 k, .int .i64 f] 24))
  simp only [World.size_alloc] at H0
  clear hp
  go_enter Tryd.func8, Tryd.ntmps8
  go_wp2_with fail
  refine (awake04_any _ HP.out).mono ?_
  rintro r w0 ⟨rfl, hb⟩
  have G0 := Lib.hid (H0.out.on hb)
  clear hb
  obtain ⟨⟨o0, o1⟩, _⟩ := bk2 G0.out.tl.tl.h0
  have lo := bdLt G0.out.tl.tl.h0
  obtain ⟨⟨p0, p1⟩, _⟩ := bk2 G0.out.tl.h0
  have lp := bdLt G0.out.tl.h0
  obtain ⟨⟨q0, q1⟩, _⟩ := bk2 G0.out.h0
  have lq := bdLt G0.out.h0
  go_wp2_with fail
  clear o0 o1 p0 p1 q0 q1 lo lp lq
  refine (V1.out _).mono ?_
  rintro r w1 ⟨rfl, hb⟩
  have G1 := Lib.hid (G0.out.on hb)
  clear hb
  obtain ⟨⟨o0, o1⟩, _⟩ := bk2 G1.out.tl.tl.h0
  have lo := bdLt G1.out.tl.tl.h0
  obtain ⟨⟨p0, p1⟩, _⟩ := bk2 G1.out.tl.h0
  have lp := bdLt G1.out.tl.h0
  obtain ⟨⟨q0, q1⟩, _⟩ := bk2 G1.out.h0
  have lq := bdLt G1.out.h0
  go_wp2_with fail
  clear o0 o1 p0 p1 q0 q1 lo lp lq
  refine (V2.out _).mono ?_
  rintro r w2 ⟨rfl, hb⟩
  have G2 := Lib.hid (G1.out.on hb)
  clear hb
  go_wp2_with fail
  go_ret
  exact ⟨rfl, G2.out.below⟩

set_option maxHeartbeats 8000000 in
theorem ratioOrder_no3 (n d m e k f : Int) (w : World) (hp : Pw w) (v1 : vldB n d = true) (v2 : vldB m e = true) (v3 : vldB k f = false) :
    Calls Tryd.prog 8 #[.agg #[.int .i64 n, .int .i64 d], .agg #[.int .i64 m, .int .i64 e], .agg #[.int .i64 k, .int .i64 f]] w fun r w' => r = .returned (.bool true) ∧ Below w.heap.size w w' := by
  have V1 := Lib.hid (fun W => refValid_ok n d W v1)
  have V2 := Lib.hid (fun W => refValid_ok m e W v2)
  have V3 := Lib.hid (fun W => refValid_no k f W v3)
  clear v1 v2 v3
  have HP := Lib.hid (hp.on ((((Hd.nil w).add (.cells #[.int .i64 n, .int .i64 d] 24)).add (.cells #[.int .i64 m, .int .i64 e] 24)).add (.cells #[.int .i64 k, .int .i64 f] 24)).below)
  have H0 := Lib.hid ((((Hd.nil w).add (.cells #[.int .i64 n, .int .i64 d] 24)).add (.cells #[.int .i64 m, .int .i64 e] 24)).add (.cells #[.int .i64 k, .int .i64 f] 24))
  simp only [World.size_alloc] at H0
  clear hp
  go_enter Tryd.func8, Tryd.ntmps8
  go_wp2_with fail
  refine (awake04_any _ HP.out).mono ?_
  rintro r w0 ⟨rfl, hb⟩
  have G0 := Lib.hid (H0.out.on hb)
  clear hb
  obtain ⟨⟨o0, o1⟩, _⟩ := bk2 G0.out.tl.tl.h0
  have lo := bdLt G0.out.tl.tl.h0
  obtain ⟨⟨p0, p1⟩, _⟩ := bk2 G0.out.tl.h0
  have lp := bdLt G0.out.tl.h0
  obtain ⟨⟨q0, q1⟩, _⟩ := bk2 G0.out.h0
  have lq := bdLt G0.out.h0
  go_wp2_with fail
  clear o0 o1 p0 p1 q0 q1 lo lp lq
  refine (V1.out _).mono ?_
  rintro r w1 ⟨rfl, hb⟩
  have G1 := Lib.hid (G0.out.on hb)
  clear hb
  obtain ⟨⟨o0, o1⟩, _⟩ := bk2 G1.out.tl.tl.h0
  have lo := bdLt G1.out.tl.tl.h0
  obtain ⟨⟨p0, p1⟩, _⟩ := bk2 G1.out.tl.h0
  have lp := bdLt G1.out.tl.h0
  obtain ⟨⟨q0, q1⟩, _⟩ := bk2 G1.out.h0
  have lq := bdLt G1.out.h0
  go_wp2_with fail
  clear o0 o1 p0 p1 q0 q1 lo lp lq
  refine (V2.out _).mono ?_
  rintro r w2 ⟨rfl, hb⟩
  have G2 := Lib.hid (G1.out.on hb)
  clear hb
  obtain ⟨⟨o0, o1⟩, _⟩ := bk2 G2.out.tl.tl.h0
  have lo := bdLt G2.out.tl.tl.h0
  obtain ⟨⟨p0, p1⟩, _⟩ := bk2 G2.out.tl.h0
  have lp := bdLt G2.out.tl.h0
  obtain ⟨⟨q0, q1⟩, _⟩ := bk2 G2.out.h0
  have lq := bdLt G2.out.h0
  go_wp2_with fail
  clear o0 o1 p0 p1 q0 q1 lo lp lq
  refine (V3.out _).mono ?_
  rintro r w3 ⟨rfl, hb⟩
  have G3 := Lib.hid (G2.out.on hb)
  clear hb
  go_wp2_with fail
  go_ret
  exact ⟨rfl, G3.out.below⟩
theorem Cmp_is {n d m e c : Int} (h : cmpF n d m e = (c, 0)) (w : World) : Calls Tryd.prog 25 #[.agg #[.int .i64 n, .int .i64 d], .agg #[.int .i64 m, .int .i64 e]] w fun r w' => r = .returned (.tuple #[.int .i64 c, .int .i64 0]) ∧ Below w.heap.size w w' := by
  have := Cmp_any n d m e w
  rw [h] at this
  exact this
/-- A sum that fits is valid, with its value. -/
theorem addR_val {n d m e x y z : Int} (h : vF n d) (k : vF m e) (hr : addR n d m e = (x, y, z)) (hz : z = 0) : vF x y ∧ Rat.divInt x y = Rat.divInt n d + Rat.divInt m e := by
  rw [addR_q h k] at hr
  rcases mkQ_or (Rat.divInt n d + Rat.divInt m e) with ⟨x', y', e1, v, hq⟩ | e1
  · rw [e1] at hr
    injection hr with h1 h2
    injection h2 with h2 h3
    subst h1 h2
    exact ⟨v, hq⟩
  · rw [e1] at hr
    injection hr with h1 h2
    injection h2 with h2 h3
    omega
theorem ratioOrder_any (n d m e k f : Int) (w : World) (hp : Pw w) :
    Calls Tryd.prog 8 #[.agg #[.int .i64 n, .int .i64 d], .agg #[.int .i64 m, .int .i64 e], .agg #[.int .i64 k, .int .i64 f]] w fun r w' => r = .returned (.bool true) ∧ Below w.heap.size w w' := by
  cases v1 : vldB n d with
  | false => exact ratioOrder_no1 n d m e k f w hp v1
  | true =>
    cases v2 : vldB m e with
    | false => exact ratioOrder_no2 n d m e k f w hp v1 v2
    | true =>
      cases v3 : vldB k f with
      | false => exact ratioOrder_no3 n d m e k f w hp v1 v2 v3
      | true =>
        have u1 := vldB_true.1 v1
        have u2 := vldB_true.1 v2
        have u3 := vldB_true.1 v3
        obtain ⟨x1, y1, z1, r1⟩ : ∃ x y z, addR n d k f = (x, y, z) := ⟨_, _, _, rfl⟩
        obtain ⟨x2, y2, z2, r2⟩ : ∃ x y z, addR m e k f = (x, y, z) := ⟨_, _, _, rfl⟩
        have k1 := cmpF_ok u1 u2
        have k2 := cmpF_ok u2 u1
        rw [cmpQ_swap] at k2
        have k3 := cmpF_ok u2 u3
        have k4 := cmpF_ok u1 u3
        have k5 : z1 = 0 → z2 = 0 → cmpF x1 y1 x2 y2 = (cmpQ (Rat.divInt n d) (Rat.divInt m e), 0) := fun h1 h2 => by
          obtain ⟨a1, a2⟩ := addR_val u1 u3 r1 h1
          obtain ⟨b1, b2⟩ := addR_val u2 u3 r2 h2
          rw [cmpF_ok a1 b1, a2, b2, cmpQ_add]
        have ht := cmpQ_trans (Rat.divInt n d) (Rat.divInt m e) (Rat.divInt k f)
        have hv := cmpQ_vals (Rat.divInt n d) (Rat.divInt m e)
        have h0 : (n = m ∧ d = e) ↔ cmpQ (Rat.divInt n d) (Rat.divInt m e) = 0 := by
          constructor
          · rintro ⟨rfl, rfl⟩
            rcases cmpQ_vals (Rat.divInt n d) (Rat.divInt n d) with ⟨_, h⟩ | ⟨_, h⟩ | ⟨h, _⟩
            · exact absurd h Rat.lt_irrefl
            · exact absurd h Rat.lt_irrefl
            · exact h
          · intro h
            rcases hv with ⟨a, _⟩ | ⟨a, _⟩ | ⟨_, hq⟩
            · omega
            · omega
            · exact rat_inj u1 u2 hq
        have hb : -1 ≤ cmpQ (Rat.divInt n d) (Rat.divInt m e) ∧ cmpQ (Rat.divInt n d) (Rat.divInt m e) ≤ 1 := by
          rcases hv with ⟨a, _⟩ | ⟨a, _⟩ | ⟨a, _⟩ <;> omega
        clear hv
        generalize cmpQ (Rat.divInt n d) (Rat.divInt m e) = ab at *
        generalize cmpQ (Rat.divInt m e) (Rat.divInt k f) = bc at *
        generalize cmpQ (Rat.divInt n d) (Rat.divInt k f) = ac at *
        have c5 := fun h1 h2 => Cmp_is (k5 h1 h2)
        by_cases hn : n = m
        · by_cases hd : d = e
          · exact ratioOrder_A n d m e k f ab bc ac x1 y1 z1 x2 y2 z2 w hp v1 v2 v3 (Cmp_is k1) (Cmp_is k2) (Cmp_is k3) (Cmp_is k4) r1 r2 c5 hb.1 hb.2 ht hn hd (h0.1 ⟨hn, hd⟩)
          · exact ratioOrder_C n d m e k f ab bc ac x1 y1 z1 x2 y2 z2 w hp v1 v2 v3 (Cmp_is k1) (Cmp_is k2) (Cmp_is k3) (Cmp_is k4) r1 r2 c5 hb.1 hb.2 ht hn hd (fun h => hd (h0.2 h).2)
        · exact ratioOrder_B n d m e k f ab bc ac x1 y1 z1 x2 y2 z2 w hp v1 v2 v3 (Cmp_is k1) (Cmp_is k2) (Cmp_is k3) (Cmp_is k4) r1 r2 c5 hb.1 hb.2 ht hn (fun h => hn (h0.2 h).1)
end Go.Proofs.YtmebdieflllgcaaDoor
