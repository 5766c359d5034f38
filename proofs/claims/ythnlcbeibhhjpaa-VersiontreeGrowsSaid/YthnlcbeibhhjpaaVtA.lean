/- Trees of versions: Valid, check, slices.Reverse, Path. -/
import Derived.BigRegion
import Derived.Test.YthnlcbeibhhjpaaORow
import Derived.Test.YthnlcbeibhhjpaaOrdQ
namespace Go.Proofs.Ythnlcbeibhhjpaa
open Go.RowKit
set_option maxRecDepth 100000
/-- The parents of a valid tree of versions. -/
structure VP (P : List Int) : Prop where
  pos : 1 ≤ P.length
  le : P.length ≤ 1000
  root : P[0]? = some (-1)
  par : ∀ (i : Nat) (x : Int), P[i + 1]? = some x → 0 ≤ x ∧ x ≤ (i : Int)
/-- A version's way up. -/
inductive Up (P : List Int) : Nat → List Int → Prop
  | root : P[0]? = some (-1) → Up P 0 [0]
  | step {x p : Nat} {l : List Int} : P[x]? = some (p : Int) → 0 < x → Up P p l → Up P x ((x : Int) :: l)
theorem Up.len {P : List Int} (hP : VP P) {x : Nat} {l : List Int} (h : Up P x l) : l.length ≤ x + 1 := by
  induction h with
  | root _ => simp
  | @step x p l hp hx _ ih =>
    obtain ⟨y, rfl⟩ : ∃ y, x = y + 1 := ⟨x - 1, by omega⟩
    have := (hP.par y _ hp).2
    simp
    omega
/-- A []int that came in reads at an index. -/
theorem IntsAt.get {n0 : Nat} {w : World} {A : Option Addr} {L : List Int} (h : IntsAt (· < n0) w A L) {i : Nat} {x : Int} (hi : L[i]? = some x) : ∃ b off, A = some ⟨b, off, none⟩ ∧ b < n0 ∧ w.cell? ⟨b, off + i, none⟩ = some (.int .i64 x) := by
  obtain ⟨b, off, hA, hb, hc⟩ := h (by have := (List.getElem?_eq_some_iff.1 hi).1; omega)
  exact ⟨b, off, hA, hb, hc i x hi⟩
set_option maxHeartbeats 4000000 in
theorem valid_yes (A : Option Addr) (cap n : Nat) (P : List Int) (w : World) (hn : P.length = n) (hc : n ≤ cap) (hcm : cap ≤ maxLen) (h : IntsAt (· < w.heap.size) w A P) (hv : VP P) :
    Calls Try.prog 14 #[.agg #[.slice A n cap]] w fun e w' => e = .returned (.bool true) ∧ w' = w.alloc (.cells #[.slice A n cap] 24) := by
  unfold maxLen at hcm
  obtain ⟨b, off, hA, hb, y0⟩ := h.get hv.root
  subst hA
  rw [Nat.add_zero] at y0
  have hn1 : 1 ≤ n := by have := hv.pos; omega
  have hn2 : n ≤ 1000 := by have := hv.le; omega
  have H1 := Lib.hid h
  have HV := Lib.hid hv
  have HN := Lib.hid hn
  have hbn : b ≠ w.heap.size := by omega
  have d1 : decide ((n : Int) < 1) = false := decide_eq_false (by omega)
  have d2 : decide ((1000 : Int) < (n : Int)) = false := decide_eq_false (by omega)
  have hc1 : (1 : Int) ≤ (cap : Int) := by omega
  have hn1I : (1 : Int) ≤ (n : Int) := by omega
  clear h hv hn
  by_cases hcap : cap = 1
  · obtain rfl : n = 1 := by omega
    subst hcap
    go_enter Try.func14, Try.ntmps14
    go_wp2_with fail
    go_loop [26] (fun i => i = .int .i64 0) (fun _ => 0)
    case atStart => rfl
    case round =>
      obtain rfl := hrel
      go_wp2_with fail
      go_ret
      exact ⟨rfl, rfl⟩
  · have hcap2 : (cap == 1) = false := by simpa using hcap
    have hcap3 : ¬ cap = 1 := hcap
    go_enter Try.func14, Try.ntmps14
    go_wp2_with fail
    go_loop [26] (fun i => ∃ k : Nat, k ≤ n - 1 ∧ i = .int .i64 k) (fun i => n - (intOf i).toNat)
    case atStart => exact ⟨0, by omega, rfl⟩
    case round =>
      obtain ⟨k, hk, rfl⟩ := hrel
      by_cases hlt : k < n - 1
      · have hltI : (k : Int) < (n : Int) - 1 := by omega
        obtain ⟨x, hx⟩ : ∃ x, P[k + 1]? = some x := ⟨P[k + 1]'(by rw [HN.out]; omega), List.getElem?_eq_getElem _⟩
        have hp := HV.out.par k x hx
        obtain ⟨b', off', hA', _, y1⟩ := H1.out.get hx
        have hA2 : off' = off ∧ b' = b := by injection hA' with hA'; injection hA' with h1 h2; exact ⟨h2.symm, h1.symm⟩
        obtain ⟨rfl, rfl⟩ := hA2
        rw [show off' + (k + 1) = off' + 1 + k by omega] at y1
        have d3 : decide (x < 0) = false := decide_eq_false (by omega)
        have d4 : decide ((k : Int) < x) = false := decide_eq_false (by omega)
        clear hx hA' hp
        go_wp2_with fail
        go_round
        case rel => exact ⟨k + 1, by omega, by go_num⟩
        case measure => simp [intOf]; omega
      · have hkn : k = n - 1 := by omega
        have d5 : decide ((k : Int) < (n : Int) - 1) = false := decide_eq_false (by omega)
        have d6 : decide (k < n - 1) = false := decide_eq_false (by omega)
        clear hkn
        go_wp2_with fail
        go_ret
        exact ⟨rfl, rfl⟩
set_option maxHeartbeats 2000000 in
theorem check_yes (A : Option Addr) (cap n k : Nat) (P : List Int) (w : World) (hn : P.length = n) (hc : n ≤ cap) (hcm : cap ≤ maxLen) (h : IntsAt (· < w.heap.size) w A P) (hv : VP P) (hk : k < n) :
    Calls Try.prog 35 #[.agg #[.slice A n cap], .int .i64 (k : Int)] w fun e w' => e = .returned (.int .i64 0) ∧ Below w.heap.size w w' := by
  have HV := Lib.hid (valid_yes A cap n P (w.alloc (.cells #[.slice A n cap] 24)) hn hc hcm (((h.below ((Below.refl _ _).alloc (Nat.le_refl _) _)).more (Q := (· < (w.alloc (.cells #[.slice A n cap] 24)).heap.size)) fun b hb => by simp; omega)) hv)
  have hkI : (k : Int) < (n : Int) := by omega
  have d1 : decide ((k : Int) < 0) = false := decide_eq_false (by omega)
  have d2 : decide ((n : Int) ≤ (k : Int)) = false := decide_eq_false (by omega)
  have d3 : decide (n ≤ k) = false := decide_eq_false (by omega)
  clear hn hc hcm h hv
  go_enter Try.func35, Try.ntmps35
  go_wp2_with fail
  refine HV.out.mono ?_
  rintro er w1 ⟨rfl, rfl⟩
  go_wp2_with fail
  go_ret
  exact ⟨rfl, ((Below.refl _ _).alloc (Nat.le_refl _) _).alloc (by simp) _⟩
/-- A list with its first and last i elements exchanged. -/
def revK (L : List Value) (i : Nat) : List Value := (List.range L.length).map fun t => L.getD (if t < i ∨ L.length ≤ t + i then L.length - 1 - t else t) undef
theorem revK_zero (L : List Value) : revK L 0 = L := by
  apply List.ext_getElem?
  intro t
  unfold revK
  rw [List.getElem?_map]
  by_cases ht : t < L.length
  · rw [List.getElem?_range ht]
    simp only [Option.map_some]
    rw [if_neg (by omega), List.getD_eq_getElem?_getD, List.getElem?_eq_getElem ht]
    rfl
  · rw [List.getElem?_eq_none (by simp; omega), List.getElem?_eq_none (by omega)]; rfl
theorem revK_get {L : List Value} {i t : Nat} (ht : t < L.length) : (revK L i)[t]? = some (L.getD (if t < i ∨ L.length ≤ t + i then L.length - 1 - t else t) undef) := by
  unfold revK
  rw [List.getElem?_map, List.getElem?_range ht]
  rfl
theorem revK_len (L : List Value) (i : Nat) : (revK L i).length = L.length := by simp [revK]
theorem revK_swap {L : List Value} {i : Nat} (hi : i < L.length - 1 - i) : ((revK L i).set i (L.getD (L.length - 1 - i) undef)).set (L.length - 1 - i) (L.getD i undef) = revK L (i + 1) := by
  apply List.ext_getElem?
  intro t
  by_cases ht : t < L.length
  · rw [revK_get ht, List.getElem?_set, List.getElem?_set, revK_get ht, List.length_set, revK_len]
    by_cases h1 : L.length - 1 - i = t
    · rw [if_pos h1, if_pos (by omega), if_pos (by omega)]
      rw [show L.length - 1 - t = i by omega]
    · rw [if_neg h1]
      by_cases h2 : i = t
      · rw [if_pos h2, if_pos (by omega), if_pos (by omega), h2]
      · rw [if_neg h2]
        congr 2
        by_cases h3 : t < i ∨ L.length ≤ t + i
        · rw [if_pos h3, if_pos (by omega)]
        · rw [if_neg h3, if_neg (by omega)]
  · rw [List.getElem?_eq_none (by rw [List.length_set, List.length_set, revK_len]; omega), List.getElem?_eq_none (by rw [revK_len]; omega)]
theorem revK_end {L : List Value} {i : Nat} (hi : L.length ≤ 2 * i + 1) : revK L i = L.reverse := by
  apply List.ext_getElem?
  intro t
  by_cases ht : t < L.length
  · rw [revK_get ht, List.getElem?_reverse ht]
    rw [List.getD_eq_getElem?_getD]
    by_cases h3 : t < i ∨ L.length ≤ t + i
    · rw [if_pos h3, List.getElem?_eq_getElem (by omega)]; rfl
    · rw [if_neg h3, show L.length - 1 - t = t by omega, List.getElem?_eq_getElem ht]; rfl
  · rw [List.getElem?_eq_none (by rw [revK_len]; omega), List.getElem?_eq_none (by simp; omega)]
set_option maxHeartbeats 4000000 in
theorem reverse_any (B g n cap : Nat) (L : List Value) (M : List Int) (hM : L = M.map (Value.int .i64)) (w : World) (hl : n ≤ 1000000) (h : w.ownsRow B 3 1 (.slice (some ⟨g, 0, none⟩) n cap) n L) (hn0 : 0 < n) :
    Calls Try.prog 36 #[.slice (some ⟨g, 0, none⟩) n cap] w fun e w' => e = .returned (.tuple #[]) ∧ w'.ownsRow B 3 1 (.slice (some ⟨g, 0, none⟩) n cap) n L.reverse ∧ Below B w w' := by
  have hL : L.length = n := by have := h.1; omega
  have HL := Lib.hid hL
  have HG := Lib.hid (show ∀ t, t < n → ∃ a, L.getD t undef = .int .i64 a from fun t ht => by
    rw [List.getD_eq_getElem?_getD, hM, List.getElem?_map]
    have : t < M.length := by rw [hM, List.length_map] at hL; omega
    rw [List.getElem?_eq_getElem this]
    exact ⟨_, rfl⟩)
  clear hM
  have hgB := (h.lt g rfl).1
  have H1 := Lib.hid h
  have hn0I : (1 : Int) ≤ (n : Int) := by omega
  clear h hL
  go_enter Try.func36, Try.ntmps36
  go_wp2_with fail
  go_loopw [2, 3] (fun s2 s3 wr => ∃ i : Nat, i ≤ n ∧ s2 = .int .i64 i ∧ s3 = .int .i64 ((n : Int) - 1 - i) ∧ wr.ownsRow B 3 1 (.slice (some ⟨g, 0, none⟩) n cap) n (revK L i) ∧ Below B w wr) (fun s2 _ _ => n - (intOf s2).toNat)
  case atStart => exact ⟨0, by omega, rfl, by simp, by rw [revK_zero]; exact H1.out, Below.refl _ _⟩
  case round =>
    obtain ⟨i, hi, rfl, rfl, how, hb⟩ := hrel
    have HW := Lib.hid how
    have HB := Lib.hid hb
    by_cases hlt : i < n - 1 - i
    · obtain ⟨j, hj⟩ : ∃ j, j = n - 1 - i := ⟨_, rfl⟩
      have hjI : (n : Int) - 1 - (i : Int) = (j : Int) := by omega
      rw [hjI]
      have hij : i < j := by omega
      have hijI : (i : Int) < (j : Int) := by omega
      have hjn : j < n := by omega
      have hjnI : (j : Int) < (n : Int) := by omega
      have hinI : (i : Int) < (n : Int) := by omega
      have x0 := how.cellAt i (by omega)
      have x1 := how.cellAt j (by omega)
      rw [revK_get (by rw [HL.out]; omega), if_neg (by rw [HL.out]; omega)] at x0 x1
      have f0 := how.frozenAt i
      have f1 := how.frozenAt j
      have HS := Lib.hid ((how.stored i (L.getD j undef)).1.stored j (L.getD i undef)).1
      have HSW := Lib.hid (revK_swap (L := L) (i := i) (by rw [HL.out]; omega))
      rw [HL.out, ← hj] at HSW
      obtain ⟨vi, hvi⟩ := HG.out i (by omega)
      obtain ⟨vj, hvj⟩ := HG.out j (by omega)
      rw [hvi] at x0 HS HSW
      rw [hvj] at x1 HS HSW
      clear hvi hvj
      have HJ := Lib.hid hj
      have hne : i ≠ j := by omega
      have hne2 : j ≠ i := by omega
      clear how hb hj hjI hlt
      go_wp2_with fail
      go_region
      go_wp2_with fail
      go_roundw
      case rel => exact ⟨i + 1, by omega, by go_num, by have := HJ.out; exact congrArg (Value.int .i64) (by omega), by rw [← HSW.out]; exact HS.out, bdN ((HB.out.setCell (p := ⟨g, i, none⟩) hgB _).setCell (p := ⟨g, j, none⟩) hgB _) 1⟩
      case measure => simp [intOf]; omega
    · have HF := Lib.hid (revK_end (L := L) (i := i) (by rw [HL.out]; omega))
      have d1 : decide ((i : Int) < (n : Int) - 1 - (i : Int)) = false := decide_eq_false (by omega)
      clear how hb
      go_wp2_with fail
      go_end0
      exact ⟨rfl, by rw [← HF.out]; exact HW.out, HB.out⟩
end Go.Proofs.Ythnlcbeibhhjpaa
