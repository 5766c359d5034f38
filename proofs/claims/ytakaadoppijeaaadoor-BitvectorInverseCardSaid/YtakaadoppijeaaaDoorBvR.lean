/- Plain: runs; the code. -/
import Derived.Test.YtakaadoppijeaaaDoorBvS
namespace Go.Proofs.YtakaadoppijeaaaDoor
set_option maxRecDepth 100000
/-- One bit more of the runs: those that are over, the bit of the one under way, its length. -/
def runStep (s : List Int × Bool × Nat) (x : Bool) : List Int × Bool × Nat := if x = s.2.1 then (s.1, s.2.1, s.2.2 + 1) else (s.1 ++ [(s.2.2 : Int)], x, 1)
def runsK (l : List Bool) (k : Nat) : List Int × Bool × Nat := (l.take k).foldl runStep ([], false, 0)
theorem runsK_zero (l : List Bool) : runsK l 0 = ([], false, 0) := by simp [runsK]
theorem runsK_same {l : List Bool} {k : Nat} {x : Bool} {d : List Int} {n : Nat} (h : l[k]? = some x) (hs : runsK l k = (d, x, n)) : runsK l (k + 1) = (d, x, n + 1) := by
  unfold runsK at *
  rw [List.take_add_one, h, Option.toList_some, List.foldl_append, hs]
  simp [runStep]
theorem runsK_new {l : List Bool} {k : Nat} {x c : Bool} {d : List Int} {n : Nat} (h : l[k]? = some x) (hs : runsK l k = (d, c, n)) (hx : x ≠ c) : runsK l (k + 1) = (d ++ [(n : Int)], x, 1) := by
  unfold runsK at *
  rw [List.take_add_one, h, Option.toList_some, List.foldl_append, hs]
  simp [runStep, hx]
/-- The lengths of the runs. -/
def runsB (l : List Bool) : List Int := match l with | [] => [] | _ => (runsK l l.length).1 ++ [((runsK l l.length).2.2 : Int)]
theorem runsB_nil : runsB [] = [] := rfl
theorem runsB_pos {l : List Bool} (h : 0 < l.length) : runsB l = (runsK l l.length).1 ++ [((runsK l l.length).2.2 : Int)] := by
  cases l with
  | nil => simp at h
  | cons a l => rfl
theorem run_sum (s : List Int × Bool × Nat) (x : Bool) : (runStep s x).1.sum + ((runStep s x).2.2 : Int) = s.1.sum + (s.2.2 : Int) + 1 := by
  unfold runStep
  split <;> simp <;> omega
theorem runs_sum (m : List Bool) : ∀ s, (m.foldl runStep s).1.sum + ((m.foldl runStep s).2.2 : Int) = s.1.sum + (s.2.2 : Int) + (m.length : Int) := by
  induction m with
  | nil => intro s; simp
  | cons a m ih =>
    intro s
    rw [List.foldl_cons, ih, run_sum, List.length_cons]
    omega
theorem run_len (m : List Bool) : ∀ s, (m.foldl runStep s).1.length ≤ s.1.length + m.length := by
  induction m with
  | nil => intro s; simp
  | cons a m ih =>
    intro s
    rw [List.foldl_cons]
    have := ih (runStep s a)
    have h2 : (runStep s a).1.length ≤ s.1.length + 1 := by unfold runStep; split <;> simp
    rw [List.length_cons]; omega
theorem runsK_len (l : List Bool) (k : Nat) : (runsK l k).1.length ≤ k := by
  have := run_len (l.take k) ([], false, 0)
  rw [List.length_take] at this
  unfold runsK
  simp at this
  omega
theorem run_n (m : List Bool) : ∀ s, (m.foldl runStep s).2.2 ≤ s.2.2 + m.length := by
  induction m with
  | nil => intro s; simp
  | cons a m ih =>
    intro s
    rw [List.foldl_cons]
    have := ih (runStep s a)
    have h2 : (runStep s a).2.2 ≤ s.2.2 + 1 := by unfold runStep; split <;> simp
    rw [List.length_cons]; omega
theorem runsK_n (l : List Bool) (k : Nat) : (runsK l k).2.2 ≤ k := by
  have := run_n (l.take k) ([], false, 0)
  rw [List.length_take] at this
  unfold runsK
  simp at this
  omega
theorem runsB_sum (l : List Bool) : (runsB l).sum = (l.length : Int) := by
  cases l with
  | nil => rfl
  | cons a l =>
    rw [runsB_pos (by simp)]
    have := runs_sum ((a :: l).take (a :: l).length) ([], false, 0)
    unfold runsK
    rw [List.take_length] at *
    simp at this ⊢
    omega
theorem runsB_len (l : List Bool) : (runsB l).length ≤ l.length + 1 := by
  cases l with
  | nil => simp [runsB]
  | cons a l =>
    rw [runsB_pos (by simp)]
    have := runsK_len (a :: l) (a :: l).length
    simp at this ⊢
    omega
/-- A byte of the code after the first t bits. -/
def enB (l : List Bool) (t j : Nat) : Nat := wdN (fun i => decide (8 * j + (7 - i) < t) && l.getD (8 * j + (7 - i)) false) 8
theorem enB_lt (l : List Bool) (t j : Nat) : enB l t j < 256 := wdN_lt _ 8
theorem enB_bit (l : List Bool) (t j i : Nat) : (enB l t j).testBit i = (decide (i < 8) && (decide (8 * j + (7 - i) < t) && l.getD (8 * j + (7 - i)) false)) := wdN_bit _ _ _
theorem enB_zero (l : List Bool) (j : Nat) : enB l 0 j = 0 := by
  apply Nat.eq_of_testBit_eq
  intro i
  rw [enB_bit, Nat.zero_testBit, decide_eq_false (show ¬ 8 * j + (7 - i) < 0 by omega)]
  simp
theorem enB_on (l : List Bool) (t : Nat) (h : l[t]? = some true) : enB l t (t / 8) ||| 2 ^ (7 - t % 8) = enB l (t + 1) (t / 8) := by
  apply Nat.eq_of_testBit_eq
  intro i
  rw [Nat.testBit_or, enB_bit, enB_bit, Nat.testBit_two_pow]
  by_cases hi : 7 - t % 8 = i
  · have e : 8 * (t / 8) + (7 - i) = t := by omega
    rw [e, List.getD_eq_getElem?_getD, h, decide_eq_true hi, decide_eq_true (show i < 8 by omega), decide_eq_true (show t < t + 1 by omega)]
    simp
  · rw [decide_eq_false hi, Bool.or_false]
    by_cases h8 : i < 8
    · have : (8 * (t / 8) + (7 - i) < t) ↔ (8 * (t / 8) + (7 - i) < t + 1) := by omega
      rw [decide_eq_decide.2 this]
    · rw [decide_eq_false h8, Bool.false_and, Bool.false_and]
theorem enB_off (l : List Bool) (t j : Nat) (h : l[t]? = some false) : enB l (t + 1) j = enB l t j := by
  apply Nat.eq_of_testBit_eq
  intro i
  rw [enB_bit, enB_bit]
  by_cases hi : 8 * j + (7 - i) = t
  · rw [hi, List.getD_eq_getElem?_getD, h]; simp
  · have : (8 * j + (7 - i) < t) ↔ (8 * j + (7 - i) < t + 1) := by omega
    rw [decide_eq_decide.2 this]
theorem enB_other (l : List Bool) (t j : Nat) (h : j ≠ t / 8) : enB l (t + 1) j = enB l t j := by
  apply Nat.eq_of_testBit_eq
  intro i
  rw [enB_bit, enB_bit]
  by_cases hi : i < 8
  · have : (8 * j + (7 - i) < t) ↔ (8 * j + (7 - i) < t + 1) := by omega
    rw [decide_eq_decide.2 this]
  · rw [decide_eq_false hi, Bool.false_and, Bool.false_and]
/-- The code, as numbers. -/
def enc (l : List Bool) : List Nat := [l.length / 16777216 % 256, l.length / 65536 % 256, l.length / 256 % 256, l.length % 256] ++ (List.range ((l.length + 7) / 8)).map (enB l l.length)
theorem enc_len (l : List Bool) : (enc l).length = 4 + (l.length + 7) / 8 := by simp [enc]; omega
theorem enc_get (l : List Bool) {j : Nat} (h : j < (l.length + 7) / 8) : (enc l)[4 + j]? = some (enB l l.length j) := by
  unfold enc
  rw [List.getElem?_append_right (by simp), List.getElem?_map]
  simp [h]
/-- A byte, as the reference makes it: k bits of it. -/
def refB (f : Nat → Bool) : Nat → Nat
  | 0 => 0
  | k + 1 => refB f k * 2 + if f k then 1 else 0
theorem refB_lt (f : Nat → Bool) : ∀ k, refB f k < 2 ^ k
  | 0 => by simp [refB]
  | k + 1 => by
    have := refB_lt f k
    rw [refB, Nat.pow_succ]
    split <;> omega
theorem refB_wd (f : Nat → Bool) : refB f 8 = wdN (fun i => f (7 - i)) 8 := by
  simp only [refB, wdN]
  simp only [show 7 - 0 = 7 from rfl, show 7 - 1 = 6 from rfl, show 7 - 2 = 5 from rfl, show 7 - 3 = 4 from rfl, show 7 - 4 = 3 from rfl, show 7 - 5 = 2 from rfl, show 7 - 6 = 1 from rfl, show 7 - 7 = 0 from rfl]
  generalize f 0 = b0
  generalize f 1 = b1
  generalize f 2 = b2
  generalize f 3 = b3
  generalize f 4 = b4
  generalize f 5 = b5
  generalize f 6 = b6
  generalize f 7 = b7
  revert b0 b1 b2 b3 b4 b5 b6 b7
  decide +kernel
theorem refB_eight (l : List Bool) (n j : Nat) : refB (fun k => decide (8 * j + k < n) && l.getD (8 * j + k) false) 8 = enB l n j := refB_wd _
end Go.Proofs.YtakaadoppijeaaaDoor
