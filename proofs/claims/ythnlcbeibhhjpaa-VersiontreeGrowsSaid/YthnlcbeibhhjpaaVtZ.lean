/- Trees of versions that are not valid, and numbers that are none; the reference's Valid, Children. -/
import Derived.Test.YthnlcbeibhhjpaaVtV
namespace Go.Proofs.Ythnlcbeibhhjpaa
open Go.RowKit
set_option maxRecDepth 100000
/-- A tree that came in. -/
structure Tr (w : World) (A : Option Addr) (cap n : Nat) (P : List Int) : Prop where
  len : P.length = n
  cap' : n ≤ cap
  cm : cap ≤ maxLen
  at' : IntsAt (· < w.heap.size) w A P
theorem Tr.below {w w' : World} {A : Option Addr} {cap n : Nat} {P : List Int} (h : Tr w A cap n P) (hb : Below w.heap.size w w') : Tr w' A cap n P := ⟨h.len, h.cap', h.cm, (h.at'.below hb).more fun b hx => by have := hb.size; omega⟩
theorem Tr.get {w : World} {A : Option Addr} {cap n : Nat} {P : List Int} (h : Tr w A cap n P) {k : Nat} (hk : k < n) : ∃ x b off, P[k]? = some x ∧ A = some ⟨b, off, none⟩ ∧ b < w.heap.size ∧ w.cell? ⟨b, off + k, none⟩ = some (.int .i64 x) := by
  obtain ⟨x, hx⟩ : ∃ x, P[k]? = some x := ⟨P[k]'(by rw [h.len]; exact hk), List.getElem?_eq_getElem _⟩
  obtain ⟨b, off, h1, h2, h3⟩ := h.at'.get hx
  exact ⟨x, b, off, hx, h1, h2, h3⟩
/-- What makes a tree not valid, where its length and its root are right. -/
theorem vp_of {P : List Int} (h1 : 1 ≤ P.length) (h2 : P.length ≤ 1000) (h3 : P[0]? = some (-1)) (h4 : ∀ (i : Nat) (x : Int), i < P.length - 1 → P[i + 1]? = some x → 0 ≤ x ∧ x ≤ (i : Int)) : VP P :=
  ⟨h1, h2, h3, fun i x hx => h4 i x (by have := (List.getElem?_eq_some_iff.1 hx).1; omega) hx⟩
set_option maxHeartbeats 4000000 in
theorem valid_no (A : Option Addr) (cap n : Nat) (P : List Int) (w : World) (h : Tr w A cap n P) (hv : ¬ VP P) :
    Calls Try.prog 14 #[.agg #[.slice A n cap]] w fun e w' => e = .returned (.bool false) ∧ Below w.heap.size w w' := by
  have hcm := h.cm
  have hcap := h.cap'
  unfold maxLen at hcm
  have H := Lib.hid h
  have HV := Lib.hid hv
  have HB : Hid (Below w.heap.size w (w.alloc (.cells #[.slice A n cap] 24))) := Lib.hid ((Below.refl _ _).alloc (Nat.le_refl _) _)
  clear h hv
  by_cases h0 : n < 1
  · have d1 : decide ((n : Int) < 1) = true := decide_eq_true (by omega)
    clear h0
    go_enter Try.func14, Try.ntmps14
    go_wp2_with fail
    go_ret
    exact ⟨rfl, HB.out⟩
  have d1 : decide ((n : Int) < 1) = false := decide_eq_false (by omega)
  by_cases h1 : 1000 < n
  · have d2 : decide ((1000 : Int) < (n : Int)) = true := decide_eq_true (by omega)
    clear h0 h1
    go_enter Try.func14, Try.ntmps14
    go_wp2_with fail
    go_ret
    exact ⟨rfl, HB.out⟩
  have d2 : decide ((1000 : Int) < (n : Int)) = false := decide_eq_false (by omega)
  obtain ⟨x0, b, off, hx0, hA, hb, y0⟩ := H.out.get (show 0 < n by omega)
  subst hA
  rw [Nat.add_zero] at y0
  have hn1I : (1 : Int) ≤ (n : Int) := by omega
  have hc1 : (1 : Int) ≤ (cap : Int) := by omega
  have hbn : b ≠ w.heap.size := by omega
  by_cases h2 : x0 = -1
  case neg =>
    have d3 : (x0 != -1) = true := by simpa using h2
    clear h0 h1 h2 hx0
    go_enter Try.func14, Try.ntmps14
    go_wp2_with fail
    go_ret
    exact ⟨rfl, HB.out⟩
  subst h2
  have hn2 : 2 ≤ n := by
    rcases Nat.lt_or_ge n 2 with hlt | hge
    · exact absurd (vp_of (by rw [H.out.len]; omega) (by rw [H.out.len]; omega) hx0 (fun i x hi _ => by rw [H.out.len] at hi; omega)) HV.out
    · exact hge
  have HX0 := Lib.hid hx0
  have hcap2 : (cap == 1) = false := by simp; omega
  have hcap3 : ¬ cap = 1 := by omega
  clear hx0
  go_enter Try.func14, Try.ntmps14
  go_wp2_with fail
  go_loop [26] (fun i => ∃ k : Nat, k ≤ n - 1 ∧ i = .int .i64 k ∧ ∀ (j : Nat) (x : Int), j < k → P[j + 1]? = some x → 0 ≤ x ∧ x ≤ (j : Int)) (fun i => n - (intOf i).toNat)
  case atStart => exact ⟨0, by omega, rfl, fun j x hj => absurd hj (by omega)⟩
  case round =>
    obtain ⟨k, hk, rfl, hall⟩ := hrel
    have HALL := Lib.hid hall
    clear hall
    by_cases hlt : k < n - 1
    · have hltI : (k : Int) < (n : Int) - 1 := by omega
      obtain ⟨x, b', off', hx, hA', _, y1⟩ := H.out.get (show k + 1 < n by omega)
      have hA2 : off' = off ∧ b' = b := by injection hA' with hA'; injection hA' with h1 h2; exact ⟨h2.symm, h1.symm⟩
      obtain ⟨rfl, rfl⟩ := hA2
      rw [show off' + (k + 1) = off' + 1 + k by omega] at y1
      have HX := Lib.hid hx
      clear hx hA'
      by_cases h3 : x < 0
      · have d3 : decide (x < 0) = true := decide_eq_true h3
        clear h3
        go_wp2_with fail
        go_ret
        exact ⟨rfl, HB.out⟩
      have d3 : decide (x < 0) = false := decide_eq_false h3
      by_cases h4 : (k : Int) < x
      · have d4 : decide ((k : Int) < x) = true := decide_eq_true h4
        clear h3 h4
        go_wp2_with fail
        go_ret
        exact ⟨rfl, HB.out⟩
      have d4 : decide ((k : Int) < x) = false := decide_eq_false h4
      have HXX : Hid (0 ≤ x ∧ x ≤ (k : Int)) := Lib.hid ⟨by omega, by omega⟩
      clear h3 h4
      go_wp2_with fail
      go_round
      case rel =>
        refine ⟨k + 1, by omega, by go_num, fun j x' hj hx' => ?_⟩
        by_cases hjk : j = k
        · subst hjk
          rw [HX.out] at hx'
          rw [← Option.some.inj hx']; exact HXX.out
        · exact HALL.out j x' (by omega) hx'
      case measure => simp [intOf]; omega
    · exact absurd (vp_of (by rw [H.out.len]; omega) (by rw [H.out.len]; omega) HX0.out (fun i x hi hx => by rw [H.out.len] at hi; exact HALL.out i x (by omega) hx)) HV.out
set_option maxHeartbeats 4000000 in
theorem refValid_any (A : Option Addr) (cap n : Nat) (P : List Int) (w : World) (h : Tr w A cap n P) (bb : Bool) (hbb : bb = true ↔ VP P) :
    Calls Try.prog 15 #[.agg #[.slice A n cap]] w fun e w' => e = .returned (.bool bb) ∧ Below w.heap.size w w' := by
  have hcm := h.cm
  have hcap := h.cap'
  unfold maxLen at hcm
  have H := Lib.hid h
  have HV := Lib.hid hbb
  have HB : Hid (Below w.heap.size w (w.alloc (.cells #[.slice A n cap] 24))) := Lib.hid ((Below.refl _ _).alloc (Nat.le_refl _) _)
  have no : ¬ VP P → bb = false := fun hn => by
    cases hb : bb
    · rfl
    · exact absurd (hbb.1 hb) hn
  have NO := Lib.hid no
  clear h hbb no
  by_cases h0 : n < 1
  · have d1 : decide ((n : Int) < 1) = true := decide_eq_true (by omega)
    have hf : bb = false := NO.out (fun hv => by have := hv.pos; rw [H.out.len] at this; omega)
    subst hf
    clear h0
    go_enter Try.func15, Try.ntmps15
    go_wp2_with fail
    go_ret
    exact ⟨rfl, HB.out⟩
  have d1 : decide ((n : Int) < 1) = false := decide_eq_false (by omega)
  by_cases h1 : 1000 < n
  · have d2 : decide ((1000 : Int) < (n : Int)) = true := decide_eq_true (by omega)
    have hf : bb = false := NO.out (fun hv => by have := hv.le; rw [H.out.len] at this; omega)
    subst hf
    clear h0 h1
    go_enter Try.func15, Try.ntmps15
    go_wp2_with fail
    go_ret
    exact ⟨rfl, HB.out⟩
  have d2 : decide ((1000 : Int) < (n : Int)) = false := decide_eq_false (by omega)
  obtain ⟨x0, b, off, hx0, hA, hb, y0⟩ := H.out.get (show 0 < n by omega)
  subst hA
  rw [Nat.add_zero] at y0
  have hn1I : (1 : Int) ≤ (n : Int) := by omega
  have hbn : b ≠ w.heap.size := by omega
  by_cases h2 : x0 = -1
  case neg =>
    have d3 : (x0 != -1) = true := by simpa using h2
    have hf : bb = false := NO.out (fun hv => by have := hv.root; rw [hx0] at this; exact h2 (Option.some.inj this))
    subst hf
    clear h0 h1 h2 hx0
    go_enter Try.func15, Try.ntmps15
    go_wp2_with fail
    go_ret
    exact ⟨rfl, HB.out⟩
  subst h2
  have HX0 := Lib.hid hx0
  clear hx0
  go_enter Try.func15, Try.ntmps15
  go_wp2_with fail
  go_loop [3] (fun i => ∃ k : Nat, k + 1 ≤ n ∧ i = .int .i64 ((k + 1 : Nat) : Int) ∧ ∀ (j : Nat) (x : Int), j < k → P[j + 1]? = some x → 0 ≤ x ∧ x ≤ (j : Int)) (fun i => n - (intOf i).toNat)
  case atStart => exact ⟨0, by omega, rfl, fun j x hj => absurd hj (by omega)⟩
  case round =>
    obtain ⟨k, hk, rfl, hall⟩ := hrel
    have HALL := Lib.hid hall
    clear hall
    obtain ⟨q, hq⟩ : ∃ q, q = k + 1 := ⟨_, rfl⟩
    rw [← hq]
    have HQ := Lib.hid hq
    by_cases hlt : q < n
    · have hltI : (q : Int) < (n : Int) := by omega
      have hq0 : (0 : Int) ≤ (q : Int) := by omega
      obtain ⟨x, b', off', hx, hA', _, y1⟩ := H.out.get hlt
      have hA2 : off' = off ∧ b' = b := by injection hA' with hA'; injection hA' with h1 h2; exact ⟨h2.symm, h1.symm⟩
      obtain ⟨rfl, rfl⟩ := hA2
      have HX := Lib.hid hx
      rw [hq] at HX
      have hql : q ≤ 1000 := by omega
      by_cases h3 : x < 0
      · have d3 : decide (x < 0) = true := decide_eq_true h3
        have hf : bb = false := NO.out (fun hv => by have := (hv.par k x HX.out).1; omega)
        subst hf
        clear h3 hx hA' hq
        go_wp2_with fail
        go_ret
        exact ⟨rfl, HB.out⟩
      have d3 : decide (x < 0) = false := decide_eq_false h3
      by_cases h4 : (q : Int) ≤ x
      · have d4 : decide ((q : Int) ≤ x) = true := decide_eq_true h4
        have hf : bb = false := NO.out (fun hv => by have := (hv.par k x HX.out).2; omega)
        subst hf
        clear h3 h4 hx hA' hq
        go_wp2_with fail
        go_ret
        exact ⟨rfl, HB.out⟩
      have d4 : decide ((q : Int) ≤ x) = false := decide_eq_false h4
      have HXX : Hid (0 ≤ x ∧ x ≤ (k : Int)) := Lib.hid ⟨by omega, by omega⟩
      clear h3 h4 hx hA' hq
      go_wp2_with fail
      go_round
      case rel =>
        refine ⟨k + 1, by have := HQ.out; omega, by have := HQ.out; exact congrArg (Value.int .i64) (by omega), fun j x' hj hx' => ?_⟩
        by_cases hjk : j = k
        · subst hjk
          rw [HX.out] at hx'
          rw [← Option.some.inj hx']; exact HXX.out
        · exact HALL.out j x' (by omega) hx'
      case measure => have := HQ.out; simp [intOf]; omega
    · have hv : VP P := vp_of (by rw [H.out.len]; omega) (by rw [H.out.len]; omega) HX0.out (fun i x hi hx => by rw [H.out.len] at hi; exact HALL.out i x (by omega) hx)
      have ht : bb = true := HV.out.2 hv
      subst ht
      clear hv hq
      go_wp2_with fail
      go_ret
      exact ⟨rfl, HB.out⟩
theorem valid_any (A : Option Addr) (cap n : Nat) (P : List Int) (w : World) (h : Tr w A cap n P) (bb : Bool) (hbb : bb = true ↔ VP P) :
    Calls Try.prog 14 #[.agg #[.slice A n cap]] w fun e w' => e = .returned (.bool bb) ∧ Below w.heap.size w w' := by
  by_cases hv : VP P
  · rw [hbb.2 hv]
    exact (valid_yes A cap n P w h.len h.cap' h.cm h.at' hv).mono fun e w' ⟨h1, h2⟩ => ⟨h1, h2 ▸ (Below.refl _ _).alloc (Nat.le_refl _) _⟩
  · have : bb = false := by
      cases hb : bb
      · rfl
      · exact absurd (hbb.1 hb) hv
    rw [this]
    exact valid_no A cap n P w h hv
set_option maxHeartbeats 2000000 in
/-- check: 1 for a tree that is not valid, 24 for a number that is no version, else 0. -/
theorem check_any (A : Option Addr) (cap n : Nat) (k : Int) (P : List Int) (w : World) (h : Tr w A cap n P) (er : Int) (her : (¬ VP P ∧ er = 1) ∨ (VP P ∧ ¬ (0 ≤ k ∧ k < (n : Int)) ∧ er = 24)) :
    Calls Try.prog 35 #[.agg #[.slice A n cap], .int .i64 k] w fun e w' => e = .returned (.int .i64 er) ∧ Below w.heap.size w w' := by
  have hcm := h.cm
  have hcap := h.cap'
  unfold maxLen at hcm
  have HB : Hid (Below w.heap.size w (w.alloc (.cells #[.slice A n cap] 24))) := Lib.hid ((Below.refl _ _).alloc (Nat.le_refl _) _)
  have HV := Lib.hid (fun bb hbb => valid_any A cap n P (w.alloc (.cells #[.slice A n cap] 24)) (h.below HB.out) bb hbb)
  have HX := Lib.hid (bdNew w (.cells #[.slice A n cap] 24))
  clear h
  rcases her with ⟨hv, rfl⟩ | ⟨hv, hk, rfl⟩
  · have HV' := Lib.hid (HV.out false (by simp [hv]))
    clear hv HV
    go_enter Try.func35, Try.ntmps35
    go_wp2_with fail
    refine HV'.out.mono ?_
    rintro er w1 ⟨rfl, hb1⟩
    go_wp2_with fail
    go_ret
    exact ⟨rfl, HB.out.trans (hb1.mono (by simp))⟩
  · have HV' := Lib.hid (HV.out true (by simp [hv]))
    clear hv HV
    by_cases h1 : k < 0
    · have d1 : decide (k < 0) = true := decide_eq_true h1
      clear h1 hk
      go_enter Try.func35, Try.ntmps35
      go_wp2_with fail
      refine HV'.out.mono ?_
      rintro er w1 ⟨rfl, hb1⟩
      have HB1 := Lib.hid hb1
      clear hb1
      go_wp2_with fail
      go_ret
      exact ⟨rfl, HB.out.trans (HB1.out.mono (by simp))⟩
    · have d1 : decide (k < 0) = false := decide_eq_false h1
      have d2 : decide ((n : Int) ≤ k) = true := decide_eq_true (by omega)
      clear h1 hk
      go_enter Try.func35, Try.ntmps35
      go_wp2_with fail
      refine HV'.out.mono ?_
      rintro er w1 ⟨rfl, hb1⟩
      have HB1 := Lib.hid hb1
      obtain ⟨x0, _⟩ := bk1 (bdAt HX.out hb1)
      clear hb1
      go_wp2_with fail
      go_ret
      exact ⟨rfl, HB.out.trans (HB1.out.mono (by simp))⟩
set_option maxHeartbeats 2000000 in
theorem path_no (A : Option Addr) (cap n : Nat) (k : Int) (P : List Int) (w : World) (h : Tr w A cap n P) (er : Int) (her0 : er = 1 ∨ er = 24) (her : (¬ VP P ∧ er = 1) ∨ (VP P ∧ ¬ (0 ≤ k ∧ k < (n : Int)) ∧ er = 24)) :
    Calls Try.prog 11 #[.agg #[.slice A n cap], .int .i64 k] w fun e w' => e = .returned (.tuple #[.slice none 0 0, .int .i64 er]) ∧ Below w.heap.size w w' := by
  have HB : Hid (Below w.heap.size w (w.alloc (.cells #[.slice A n cap] 24))) := Lib.hid ((Below.refl _ _).alloc (Nat.le_refl _) _)
  have HC := Lib.hid (check_any A cap n k P _ (h.below HB.out) er her)
  have hne : (er != 0) = true := by rcases her0 with rfl | rfl <;> rfl
  clear h her her0
  go_enter Try.func11, Try.ntmps11
  go_wp2_with fail
  refine HC.out.mono ?_
  rintro er w1 ⟨rfl, hb1⟩
  go_wp2_with fail
  go_ret2
  exact ⟨rfl, HB.out.trans (hb1.mono (by simp))⟩
set_option maxHeartbeats 2000000 in
theorem children_no (A : Option Addr) (cap n : Nat) (k : Int) (P : List Int) (w : World) (h : Tr w A cap n P) (er : Int) (her0 : er = 1 ∨ er = 24) (her : (¬ VP P ∧ er = 1) ∨ (VP P ∧ ¬ (0 ≤ k ∧ k < (n : Int)) ∧ er = 24)) :
    Calls Try.prog 12 #[.agg #[.slice A n cap], .int .i64 k] w fun e w' => e = .returned (.tuple #[.slice none 0 0, .int .i64 er]) ∧ Below w.heap.size w w' := by
  have HB : Hid (Below w.heap.size w (w.alloc (.cells #[.slice A n cap] 24))) := Lib.hid ((Below.refl _ _).alloc (Nat.le_refl _) _)
  have HC := Lib.hid (check_any A cap n k P _ (h.below HB.out) er her)
  have hne : (er != 0) = true := by rcases her0 with rfl | rfl <;> rfl
  clear h her her0
  go_enter Try.func12, Try.ntmps12
  go_wp2_with fail
  refine HC.out.mono ?_
  rintro er w1 ⟨rfl, hb1⟩
  go_wp2_with fail
  go_ret2
  exact ⟨rfl, HB.out.trans (hb1.mono (by simp))⟩
set_option maxHeartbeats 2000000 in
theorem euler_no (A : Option Addr) (cap n : Nat) (P : List Int) (w : World) (h : Tr w A cap n P) (hv : ¬ VP P) :
    Calls Try.prog 13 #[.agg #[.slice A n cap]] w fun e w' => e = .returned (.tuple #[.slice none 0 0, .int .i64 1]) ∧ Below w.heap.size w w' := by
  have HB : Hid (Below w.heap.size w (w.alloc (.cells #[.slice A n cap] 24))) := Lib.hid ((Below.refl _ _).alloc (Nat.le_refl _) _)
  have HC := Lib.hid (valid_no A cap n P _ (h.below HB.out) hv)
  clear h hv
  go_enter Try.func13, Try.ntmps13
  go_wp2_with fail
  refine HC.out.mono ?_
  rintro er w1 ⟨rfl, hb1⟩
  go_wp2_with fail
  go_ret2
  exact ⟨rfl, HB.out.trans (hb1.mono (by simp))⟩
set_option maxHeartbeats 4000000 in
theorem childrenOf_yes (A : Option Addr) (cap n k : Nat) (P : List Int) (w : World) (h : Tr w A cap n P) (hv : VP P) (hk : k < n) :
    Calls Try.prog 12 #[.agg #[.slice A n cap], .int .i64 (k : Int)] w fun e w' => (∃ A' cp, e = .returned (.tuple #[.slice A' (chI P n k).length cp, .int .i64 0]) ∧ ORow w.heap.size w' A' cp (chI P n k)) ∧ Below w.heap.size w w' := by
  have HB : Hid (Below w.heap.size w (w.alloc (.cells #[.slice A n cap] 24))) := Lib.hid ((Below.refl _ _).alloc (Nat.le_refl _) _)
  have HX := Lib.hid (bdNew w (.cells #[.slice A n cap] 24))
  have h1 := h.below HB.out
  have HC := Lib.hid (check_yes A cap n k P _ h1.len h1.cap' h1.cm h1.at' hv hk)
  have HCH := Lib.hid (fun W (hW : Below (w.alloc (.cells #[.slice A n cap] 24)).heap.size (w.alloc (.cells #[.slice A n cap] 24)) W) => children_any A cap n P W (h1.below hW).len (h1.below hW).cap' (h1.below hW).cm (h1.below hW).at' hv)
  have hnl : n ≤ 1000 := by have := hv.le; rw [h.len] at this; exact this
  have hkI : (k : Int) < (n : Int) := by omega
  have hk0 : (0 : Int) ≤ (k : Int) := by omega
  clear h h1 hv
  go_enter Try.func12, Try.ntmps12
  go_wp2_with fail
  refine HC.out.mono ?_
  rintro er w1 ⟨rfl, hb1⟩
  obtain ⟨x0, _⟩ := bk1 (bdAt HX.out hb1)
  have HB1 := Lib.hid hb1
  have HCH' := Lib.hid (HCH.out w1 hb1)
  have hz1 := hb1.size
  simp at hz1
  clear hb1 HCH HC
  go_wp2_with fail
  refine HCH'.out.mono ?_
  rintro er w2 ⟨rb, V, rfl, hch, hb2⟩
  obtain ⟨A', c', hVk, hrow⟩ := hch.row k hk
  have y0 : w2.cell? ⟨rb, k, none⟩ = some (V k) := (hch.out.cellAt k (by omega)).trans (by rw [List.getElem?_map, List.getElem?_range hk]; rfl)
  rw [hVk] at y0 hrow
  have HROW := Lib.hid hrow
  have HB2 := Lib.hid hb2
  clear hch hVk hrow hb2 x0
  go_wp2_with fail
  go_ret2
  refine ⟨⟨A', c', rfl, ?_⟩, (HB.out.trans (HB1.out.mono (by simp))).trans (HB2.out.mono (by omega))⟩
  exact (show ORow w1.heap.size w2 A' c' (chI P n k) from HROW.out).more (by omega)
end Go.Proofs.Ythnlcbeibhhjpaa
