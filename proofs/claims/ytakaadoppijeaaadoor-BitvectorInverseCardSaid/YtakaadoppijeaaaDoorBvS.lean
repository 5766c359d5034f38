/- Plain: what Make stores; select; ranks word by word. -/
import Derived.Lib.TrailingZeros
import Derived.Test.YtakaadoppijeaaaDoorBvB
import Derived.Test.YtakaadoppijeaaaDoorBvC
namespace Go.Proofs.YtakaadoppijeaaaDoor
set_option maxRecDepth 100000
/-- A word after the first k bits have been read. -/
def wdK (l : List Bool) (k j : Nat) : Nat := wdN (fun i => decide (64 * j + i < k) && l.getD (64 * j + i) false) 64
theorem wdK_lt (l : List Bool) (k j : Nat) : wdK l k j < 18446744073709551616 := wdN_lt _ 64
theorem wdK_bit (l : List Bool) (k j i : Nat) : (wdK l k j).testBit i = (decide (i < 64) && (decide (64 * j + i < k) && l.getD (64 * j + i) false)) := wdN_bit _ _ _
theorem wdK_zero (l : List Bool) (j : Nat) : wdK l 0 j = 0 := by
  apply Nat.eq_of_testBit_eq
  intro i
  rw [wdK_bit, Nat.zero_testBit, decide_eq_false (show ¬ 64 * j + i < 0 by omega)]
  simp
theorem wdK_on (l : List Bool) (k : Nat) (h : l[k]? = some true) : wdK l k (k / 64) ||| 2 ^ (k % 64) = wdK l (k + 1) (k / 64) := by
  apply Nat.eq_of_testBit_eq
  intro i
  rw [Nat.testBit_or, wdK_bit, wdK_bit, Nat.testBit_two_pow]
  by_cases hi : k % 64 = i
  · have e : 64 * (k / 64) + i = k := by omega
    rw [e, List.getD_eq_getElem?_getD, h, decide_eq_true hi, decide_eq_true (show i < 64 by omega), decide_eq_true (show k < k + 1 by omega)]
    simp
  · rw [decide_eq_false hi, Bool.or_false]
    by_cases h64 : i < 64
    · have : (64 * (k / 64) + i < k) ↔ (64 * (k / 64) + i < k + 1) := by omega
      rw [decide_eq_decide.2 this]
    · rw [decide_eq_false h64, Bool.false_and, Bool.false_and]
theorem wdK_off (l : List Bool) (k j : Nat) (h : l[k]? = some false) : wdK l (k + 1) j = wdK l k j := by
  apply Nat.eq_of_testBit_eq
  intro i
  rw [wdK_bit, wdK_bit]
  by_cases hi : 64 * j + i = k
  · rw [hi, List.getD_eq_getElem?_getD, h]; simp
  · have : (64 * j + i < k) ↔ (64 * j + i < k + 1) := by omega
    rw [decide_eq_decide.2 this]
theorem wdK_other (l : List Bool) (k j : Nat) (h : j ≠ k / 64) : wdK l (k + 1) j = wdK l k j := by
  apply Nat.eq_of_testBit_eq
  intro i
  rw [wdK_bit, wdK_bit]
  by_cases hi : i < 64
  · have : (64 * j + i < k) ↔ (64 * j + i < k + 1) := by omega
    rw [decide_eq_decide.2 this]
  · rw [decide_eq_false hi, Bool.false_and, Bool.false_and]
theorem wdK_all (l : List Bool) (j : Nat) : wdK l l.length j = wd l j := by
  apply Nat.eq_of_testBit_eq
  intro i
  rw [wdK_bit]
  unfold wd
  rw [wdN_bit]
  by_cases hi : 64 * j + i < l.length
  · rw [decide_eq_true hi, Bool.true_and]
  · rw [List.getD_eq_getElem?_getD, List.getElem?_eq_none (by omega)]; simp
theorem bc_zero (l : List Bool) : bc l 0 = 0 := by simp [bc]
theorem bc_le (l : List Bool) (j : Nat) : bc l j ≤ 64 * j := by
  unfold bc
  exact Nat.le_trans List.countP_le_length (by rw [List.length_take]; omega)
theorem bc_len (l : List Bool) (j : Nat) : bc l j ≤ l.length := by
  unfold bc
  exact Nat.le_trans List.countP_le_length (by rw [List.length_take]; omega)
theorem countP_getD (l : List Bool) (s : Nat) : ∀ r, (List.range r).countP (fun k => l.getD (s + k) false) = ((l.drop s).take r).countP id
  | 0 => by simp
  | r + 1 => by
    rw [List.range_succ, List.countP_append, countP_getD l s r, List.take_add_one, List.countP_append, List.countP_singleton, List.getElem?_drop, List.getD_eq_getElem?_getD]
    cases hx : l[s + r]? with
    | none => simp
    | some x => simp
theorem bc_succ (l : List Bool) (j : Nat) : bc l (j + 1) = bc l j + popc (wd l j) := by
  rw [popc_bits]
  unfold wd bc
  rw [popN_wd _ (Nat.le_refl _), countP_getD l (64 * j) 64, show 64 * (j + 1) = 64 * j + 64 by omega, List.take_add, List.countP_append]
/-- The number of bits equal to b ahead of a word. -/
def bcB (l : List Bool) (b : Bool) (j : Nat) : Nat := if b then bc l j else 64 * j - bc l j
theorem popc_le (x : Nat) : popc x ≤ 64 := by
  rw [popc_bits]; exact Nat.le_trans List.countP_le_length (by simp)
theorem bc_mono (l : List Bool) {i j : Nat} (h : i ≤ j) : bc l i ≤ bc l j ∧ bc l j - bc l i ≤ 64 * (j - i) := by
  induction h with
  | refl => exact ⟨Nat.le_refl _, by omega⟩
  | @step m h ih =>
    have e := bc_succ l m
    have e2 := popc_le (wd l m)
    have h' : i ≤ m := h
    show bc l i ≤ bc l (m + 1) ∧ bc l (m + 1) - bc l i ≤ 64 * (m + 1 - i)
    omega
theorem bcB_mono (l : List Bool) (b : Bool) {i j : Nat} (h : i ≤ j) : bcB l b i ≤ bcB l b j := by
  have := bc_mono l h
  have := bc_le l i
  have := bc_le l j
  unfold bcB
  cases b <;> simp <;> omega
theorem rkB_le (l : List Bool) (b : Bool) (i : Nat) : rkB l b i ≤ i := by
  unfold rkB
  exact Nat.le_trans List.countP_le_length (by rw [List.length_take]; omega)
theorem rkB_mono (l : List Bool) (b : Bool) {i j : Nat} (h : i ≤ j) : rkB l b i ≤ rkB l b j := by
  unfold rkB
  have e : l.take i = (l.take j).take i := by rw [List.take_take, Nat.min_eq_left h]
  rw [e]
  exact (List.take_sublist _ _).countP_le
theorem rkB_len (l : List Bool) (b : Bool) (i : Nat) : rkB l b i ≤ rkB l b l.length := by
  unfold rkB
  rw [List.take_length]
  exact (List.take_sublist _ _).countP_le
/-- The index of the k-th bit that is b. -/
def IsSel (l : List Bool) (b : Bool) (k i : Nat) : Prop := l[i]? = some b ∧ rkB l b i = k
theorem rkB_next {l : List Bool} {k : Nat} {x b : Bool} (h : l[k]? = some x) : rkB l b (k + 1) = rkB l b k + if x == b then 1 else 0 := by
  unfold rkB
  rw [List.take_add_one, h, Option.toList_some, List.countP_append, List.countP_singleton]
theorem IsSel.one {l : List Bool} {b : Bool} {k i j : Nat} (hi : IsSel l b k i) (hj : IsSel l b k j) : i = j := by
  have h : ∀ {i j : Nat}, IsSel l b k i → IsSel l b k j → ¬ i < j := fun {i j} hi hj hlt => by
    have e := rkB_next (b := b) hi.1
    have m := rkB_mono l b (show i + 1 ≤ j by omega)
    have := hi.2; have := hj.2
    simp at e
    omega
  have := h hi hj
  have := h hj hi
  omega
theorem IsSel.lt {l : List Bool} {b : Bool} {k i : Nat} (h : IsSel l b k i) : i < l.length := (List.getElem?_eq_some_iff.1 h.1).1
theorem IsSel.count {l : List Bool} {b : Bool} {k i : Nat} (h : IsSel l b k i) : k < rkB l b l.length := by
  have e := rkB_next (b := b) h.1
  have m := rkB_mono l b (show i + 1 ≤ l.length from h.lt)
  have := h.2
  simp at e
  omega

/-- The word with the lowest k ones taken away. -/
theorem and_pred (x m : Nat) (h0 : x.testBit m = true) (hl : ∀ i, i < m → x.testBit i = false) : ∀ i, (x &&& (x - 1)).testBit i = (x.testBit i && !decide (i = m)) := by
  have hd : x % 2 ^ m = 0 := by
    apply Nat.eq_of_testBit_eq
    intro i
    rw [Nat.testBit_mod_two_pow, Nat.zero_testBit]
    by_cases hi : i < m
    · rw [hl i hi, Bool.and_false]
    · rw [decide_eq_false hi, Bool.false_and]
  have hq : (x / 2 ^ m) % 2 = 1 := by
    have := h0
    rw [Nat.testBit_eq_decide_div_mod_eq] at this
    exact of_decide_eq_true this
  obtain ⟨q, hqe⟩ : ∃ q, x / 2 ^ m = 2 * q + 1 := ⟨x / 2 ^ m / 2, by omega⟩
  have hx : x = 2 ^ (m + 1) * q + 2 ^ m := by
    have := Nat.div_add_mod x (2 ^ m)
    rw [hd, hqe, Nat.add_zero] at this
    rw [← this, Nat.pow_succ, Nat.mul_add, Nat.mul_one, Nat.mul_assoc]
  have hp : 0 < 2 ^ m := Nat.pow_pos (by decide)
  have hy : x - 1 = 2 ^ (m + 1) * q + (2 ^ m - 1) := by omega
  intro i
  rw [Nat.testBit_and, hy, hx]
  have hlt : 2 ^ m < 2 ^ (m + 1) := Nat.pow_lt_pow_right (by decide) (by omega)
  rw [Nat.testBit_two_pow_mul_add _ hlt, Nat.testBit_two_pow_mul_add _ (by omega)]
  by_cases hi : i < m + 1
  · rw [if_pos hi, if_pos hi, Nat.testBit_two_pow, Nat.testBit_two_pow_sub_one]
    by_cases e : i = m
    · subst e; simp
    · have : ¬ m = i := by omega
      simp [this, e]
  · rw [if_neg hi, if_neg hi, decide_eq_false (show ¬ i = m by omega)]
    simp
theorem wdN_not (f : Nat → Bool) : ∀ k, wdN (fun i => !f i) k = 2 ^ k - 1 - wdN f k
  | 0 => by simp [wdN]
  | k + 1 => by
    have h := wdN_lt f k
    have ih := wdN_not f k
    rw [wdN, wdN, ih, Nat.pow_succ]
    cases f k <;> simp <;> omega
/-- The word whose ones are the bits equal to b. -/
def xw (l : List Bool) (b : Bool) (w : Nat) : Nat := wdN (fun i => l.getD (64 * w + i) false == b) 64
theorem xw_lt (l : List Bool) (b : Bool) (w : Nat) : xw l b w < 18446744073709551616 := wdN_lt _ 64
theorem xw_true (l : List Bool) (w : Nat) : xw l true w = wd l w := by
  unfold xw wd
  congr 1
  funext i
  simp
theorem xw_false (l : List Bool) (w : Nat) : xw l false w = 18446744073709551615 - wd l w := by
  unfold xw wd
  have := wdN_not (fun i => l.getD (64 * w + i) false) 64
  rw [← show (2 : Nat) ^ 64 - 1 = 18446744073709551615 from rfl, ← this]
  congr 1
  funext i
  simp
theorem xw_bit (l : List Bool) (b : Bool) (w m : Nat) (h : m < 64) : (xw l b w).testBit m = (l.getD (64 * w + m) false == b) := by
  unfold xw
  rw [wdN_bit, decide_eq_true h, Bool.true_and]
theorem countP_not (f : Nat → Bool) (r : Nat) : (List.range r).countP f + (List.range r).countP (fun i => !f i) = r := by
  induction r with
  | zero => rfl
  | succ r ih =>
    rw [List.range_succ, List.countP_append, List.countP_append, List.countP_singleton, List.countP_singleton]
    cases f r <;> simp <;> omega
theorem bcB_succ (l : List Bool) (b : Bool) (w : Nat) : bcB l b (w + 1) = bcB l b w + popN (xw l b w) 64 := by
  have h1 := bc_succ l w
  have h2 := bc_le l w
  rw [popc_bits] at h1
  unfold bcB
  cases b
  · have e : popN (wd l w) 64 + popN (xw l false w) 64 = 64 := by
      unfold wd xw
      rw [popN_wd _ (Nat.le_refl _), popN_wd _ (Nat.le_refl _)]
      have := countP_not (fun i => l.getD (64 * w + i) false) 64
      simpa using this
    simp
    omega
  · rw [xw_true]
    simpa using h1
theorem rkB_two (l : List Bool) (i : Nat) (h : i ≤ l.length) : rkB l true i + rkB l false i = i := by
  unfold rkB
  have e : ∀ m : List Bool, m.countP (· == true) + m.countP (· == false) = m.length := fun m => by
    induction m with
    | nil => rfl
    | cons a m ih => cases a <;> simp_all <;> omega
  rw [e, List.length_take]
  omega
theorem rkB_w (l : List Bool) (b : Bool) (w m : Nat) (hm : m ≤ 64) (h : 64 * w + m ≤ l.length) : rkB l b (64 * w + m) = bcB l b w + popN (xw l b w) m := by
  have h1 : rkB l true (64 * w + m) = bc l w + popN (wd l w) m := by
    unfold rkB bc wd
    rw [popN_wd _ hm, countP_getD l (64 * w) m, List.take_add, List.countP_append]
    congr 1 <;> (apply List.countP_congr; intro x _; cases x <;> rfl)
  cases b
  · have e : popN (wd l w) m + popN (xw l false w) m = m := by
      unfold wd xw
      rw [popN_wd _ hm, popN_wd _ hm]
      have := countP_not (fun i => l.getD (64 * w + i) false) m
      simpa using this
    have := rkB_two l _ h
    have := bc_le l w
    unfold bcB
    simp
    omega
  · rw [h1, xw_true]
    simp [bcB]
theorem pop_find (x : Nat) {t : Nat} : ∀ {r : Nat}, t < popN x r → ∃ m, m < r ∧ x.testBit m = true ∧ popN x m = t
  | 0, h => by simp [popN] at h
  | r + 1, h => by
    rw [popN_succ] at h
    by_cases hr : t < popN x r
    · obtain ⟨m, h1, h2, h3⟩ := pop_find x hr
      exact ⟨m, by omega, h2, h3⟩
    · cases hb : x.testBit r with
      | false => rw [hb] at h; simp at h; omega
      | true => rw [hb] at h; simp at h; exact ⟨r, by omega, hb, by omega⟩
theorem popN_mono (x : Nat) {i j : Nat} (h : i ≤ j) : popN x i ≤ popN x j := by
  obtain ⟨d, rfl⟩ : ∃ d, j = i + d := ⟨j - i, by omega⟩
  rw [popN_add]; omega
/-- What is left of a word without its first t ones. -/
def remW (x t : Nat) : Nat := wdN (fun i => x.testBit i && decide (t ≤ popN x i)) 64
theorem remW_lt (x t : Nat) : remW x t < 18446744073709551616 := wdN_lt _ 64
theorem remW_bit (x t i : Nat) (hx : x < 18446744073709551616) : (remW x t).testBit i = (x.testBit i && decide (t ≤ popN x i)) := by
  unfold remW
  rw [wdN_bit]
  by_cases h : i < 64
  · rw [decide_eq_true h, Bool.true_and]
  · have : x.testBit i = false := Nat.testBit_lt_two_pow (Nat.lt_of_lt_of_le hx (by rw [show 18446744073709551616 = 2 ^ 64 from rfl]; exact Nat.pow_le_pow_right (by decide) (by omega)))
    rw [this, decide_eq_false h]; simp
theorem remW_zero (x : Nat) (hx : x < 18446744073709551616) : remW x 0 = x := by
  apply Nat.eq_of_testBit_eq
  intro i
  rw [remW_bit _ _ _ hx]; simp
/-- The first one that is left. -/
theorem remW_low (x t m : Nat) (hx : x < 18446744073709551616) (hb : x.testBit m = true) (hm : popN x m = t) : (remW x t).testBit m = true ∧ ∀ i, i < m → (remW x t).testBit i = false := by
  refine ⟨by rw [remW_bit _ _ _ hx, hb, hm]; simp, fun i hi => ?_⟩
  rw [remW_bit _ _ _ hx]
  cases hbi : x.testBit i with
  | false => rfl
  | true =>
    have h1 := popN_succ x i
    have h2 := popN_mono x (show i + 1 ≤ m by omega)
    rw [hbi] at h1
    simp at h1 ⊢
    omega
theorem remW_step (x t : Nat) (hx : x < 18446744073709551616) (h : t < popN x 64) : remW x t &&& (remW x t - 1) = remW x (t + 1) := by
  obtain ⟨m, hm, hb, hp⟩ := pop_find x h
  obtain ⟨h1, h2⟩ := remW_low x t m hx hb hp
  apply Nat.eq_of_testBit_eq
  intro i
  rw [and_pred _ m h1 h2, remW_bit _ _ _ hx, remW_bit _ _ _ hx]
  cases hbi : x.testBit i with
  | false => simp
  | true =>
    by_cases hi : i = m
    · subst hi
      simp; omega
    · rw [decide_eq_false hi]
      simp only [Bool.true_and, Bool.not_false, Bool.and_true]
      apply decide_eq_decide.2
      constructor
      · intro hle
        rcases Nat.lt_or_ge i m with hlt | hge
        · have h1 := popN_succ x i
          have h2 := popN_mono x (show i + 1 ≤ m by omega)
          rw [hbi] at h1
          simp at h1
          omega
        · have h1 := popN_succ x m
          have h2 := popN_mono x (show m + 1 ≤ i by omega)
          rw [hb] at h1
          simp at h1
          omega
      · intro h; omega
theorem remW_pos (x t : Nat) (hx : x < 18446744073709551616) (h : t < popN x 64) : 0 < remW x t := by
  obtain ⟨m, hm, hb, hp⟩ := pop_find x h
  obtain ⟨h1, h2⟩ := remW_low x t m hx hb hp
  apply Nat.pos_of_ne_zero
  intro h0
  rw [h0, Nat.zero_testBit] at h1
  exact Bool.false_ne_true h1
theorem ctz_low (y m : Nat) (hy : y < 18446744073709551616) (h1 : y.testBit m = true) (h2 : ∀ i, i < m → y.testBit i = false) : Go.Lib.ctz 64 y = m := by
  have h0 : y ≠ 0 := by rintro rfl; rw [Nat.zero_testBit] at h1; exact Bool.false_ne_true h1
  obtain ⟨q, hq, hk⟩ := Go.Lib.ctzFrom_spec 64 y (by omega) hy
  have e : Go.Lib.ctz 64 y = Go.Lib.ctzFrom 64 y := by simp [Go.Lib.ctz, h0]
  rw [e]
  generalize Go.Lib.ctzFrom 64 y = c at hq hk ⊢
  have hb : ∀ i, y.testBit i = (decide (c ≤ i) && (2 * q + 1).testBit (i - c)) := fun i => by
    rw [hq, Nat.mul_comm, Nat.testBit_mul_two_pow]
  rcases Nat.lt_trichotomy c m with h | h | h
  · have := h2 c h
    rw [hb] at this
    simp at this
  · exact h
  · have := h1
    rw [hb, decide_eq_false (by omega)] at this
    simp at this
/-- What the search for a word finds, and what is found in it. -/
theorem sel_word (l : List Bool) (b : Bool) (k w : Nat) (hk : k < rkB l b l.length) (hw : w < nwd l) (h1 : bcB l b w ≤ k) (h2 : k < bcB l b (w + 1)) :
    k - bcB l b w < popN (xw l b w) 64 ∧ IsSel l b k (64 * w + Go.Lib.ctz 64 (remW (xw l b w) (k - bcB l b w))) := by
  have hs := bcB_succ l b w
  have hx := xw_lt l b w
  have ht : k - bcB l b w < popN (xw l b w) 64 := by omega
  refine ⟨ht, ?_⟩
  obtain ⟨m, hm, hb, hp⟩ := pop_find _ ht
  obtain ⟨g1, g2⟩ := remW_low _ _ m hx hb hp
  rw [ctz_low _ m (remW_lt _ _) g1 g2]
  have hwl : 64 * w < l.length := by unfold nwd at hw; omega
  have hin : 64 * w + m < l.length := by
    apply Nat.lt_of_not_le
    intro hge
    have e := rkB_w l b w (l.length - 64 * w) (by omega) (by omega)
    rw [show 64 * w + (l.length - 64 * w) = l.length by omega] at e
    have := popN_mono (xw l b w) (show l.length - 64 * w ≤ m by omega)
    omega
  have hr := rkB_w l b w m (by omega) (by omega)
  rw [xw_bit _ _ _ _ hm] at hb
  refine ⟨?_, by rw [hr, hp]; omega⟩
  rw [List.getD_eq_getElem?_getD, List.getElem?_eq_getElem hin, Option.getD_some] at hb
  rw [List.getElem?_eq_getElem hin, eq_of_beq hb]
/-- The last word has as many. -/
theorem sel_last (l : List Bool) (b : Bool) : rkB l b l.length ≤ bcB l b (nwd l) := by
  have hb := bc_le l (nwd l)
  have e : bc l (nwd l) = rkB l true l.length := by
    unfold bc rkB
    rw [List.take_of_length_le (by unfold nwd; omega), List.take_length]
    apply List.countP_congr; intro x _; cases x <;> rfl
  have := rkB_two l _ (Nat.le_refl _)
  unfold bcB
  cases b <;> simp
  · unfold nwd at *; omega
  · omega
end Go.Proofs.YtakaadoppijeaaaDoor
