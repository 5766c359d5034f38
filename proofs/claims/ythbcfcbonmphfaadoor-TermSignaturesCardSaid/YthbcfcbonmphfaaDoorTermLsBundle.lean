/- The parser: keywords, lists of names. -/
import Derived.Test.YthbcfcbonmphfaaDoorTermBkBundle
import Derived.Test.YthbcfcbonmphfaaDoorTermUBundle
import Derived.Test.YthbcfcbonmphfaaDoorTermRBundle
/- A signature as it is parsed, and its text read again: plain. -/
namespace Go.Proofs.YthbcfcbonmphfaaDoor
set_option maxRecDepth 100000

def kw (t : Tk) (s : List UInt8) : Prop := t.k = 3 ∧ t.t = s
instance (t : Tk) (s : List UInt8) : Decidable (kw t s) := inferInstanceAs (Decidable (_ ∧ _))
/-- Names with commas between them, up to a closing parenthesis, and what is left. -/
def namesL : List Tk → Option (List ByteArray) × List Tk
  | x :: y :: l =>
    if x.k ≠ 1 then (none, x :: y :: l)
    else if sym y [41] then (some [nmOf x], l)
    else if sym y [44] then ((namesL l).1.map (nmOf x :: ·), (namesL l).2)
    else (none, y :: l)
  | l => (none, l)
theorem namesL_bad {x : Tk} {l : List Tk} (h : x.k ≠ 1) : namesL (x :: l) = (none, x :: l) := by
  cases l with
  | nil => rfl
  | cons y l => rw [namesL, if_pos h]
theorem namesL_last {x y : Tk} {l : List Tk} (h : x.k = 1) (h2 : sym y [41]) : namesL (x :: y :: l) = (some [nmOf x], l) := by
  rw [namesL, if_neg (fun e => e h), if_pos h2]
theorem namesL_more {x y : Tk} {l : List Tk} (h : x.k = 1) (h2 : ¬ sym y [41]) (h3 : sym y [44]) : namesL (x :: y :: l) = ((namesL l).1.map (nmOf x :: ·), (namesL l).2) := by
  rw [namesL, if_neg (fun e => e h), if_neg h2, if_pos h3]
theorem namesL_stop {x y : Tk} {l : List Tk} (h : x.k = 1) (h2 : ¬ sym y [41]) (h3 : ¬ sym y [44]) : namesL (x :: y :: l) = (none, y :: l) := by
  rw [namesL, if_neg (fun e => e h), if_neg h2, if_neg h3]
/-- Names, or at once the closing parenthesis. -/
def names0 : List Tk → Option (List ByteArray) × List Tk
  | z :: l => if sym z [41] then (some [], l) else namesL (z :: l)
  | [] => (none, [])
/-- What stands in parentheses. -/
def argsL : List Tk → Option (List ByteArray) × List Tk
  | y :: l => if sym y [40] then names0 l else (none, y :: l)
  | [] => (none, [])
/-- What follows the arguments of a declaration. -/
def tailL (nm : ByteArray) : Option (List ByteArray) × List Tk → Option Dc × List Tk
  | (some ns, y :: z :: l) => if sym y [45, 62] then (if z.k = 1 then (some ⟨nm, ns, nmOf z⟩, l) else (none, z :: l)) else (none, y :: z :: l)
  | (_, l) => (none, l)
/-- A declaration after its keyword. -/
def declL : List Tk → Option Dc × List Tk
  | x :: l => if x.k = 1 then tailL (nmOf x) (argsL l) else (none, x :: l)
  | [] => (none, [])
/-- The sorts: whether all went well, the names, what is left. -/
def sortsL : List Tk → Bool × List ByteArray × List Tk
  | x :: z :: l =>
    if kw x [115, 111, 114, 116] then (if z.k = 1 then ((sortsL l).1, nmOf z :: (sortsL l).2.1, (sortsL l).2.2) else (false, [], z :: l)) else (true, [], x :: z :: l)
  | l => (true, [], l)
theorem sortsL_no {x : Tk} {l : List Tk} (h : ¬ kw x [115, 111, 114, 116]) : sortsL (x :: l) = (true, [], x :: l) := by
  cases l with
  | nil => rfl
  | cons y l => rw [sortsL, if_neg h]
theorem sortsL_bad {x z : Tk} {l : List Tk} (h : kw x [115, 111, 114, 116]) (h2 : z.k ≠ 1) : sortsL (x :: z :: l) = (false, [], z :: l) := by
  rw [sortsL, if_pos h, if_neg h2]
theorem sortsL_yes {x z : Tk} {l : List Tk} (h : kw x [115, 111, 114, 116]) (h2 : z.k = 1) : sortsL (x :: z :: l) = ((sortsL l).1, nmOf z :: (sortsL l).2.1, (sortsL l).2.2) := by
  rw [sortsL, if_pos h, if_pos h2]
/-- The declarations, at most so many. -/
def opsL : Nat → List Tk → Bool × List Dc × List Tk
  | n + 1, x :: l =>
    if kw x [111, 112] then (match declL l with
      | (none, l') => (false, [], l')
      | (some d, l') => ((opsL n l').1, d :: (opsL n l').2.1, (opsL n l').2.2)) else (true, [], x :: l)
  | _, l => (true, [], l)
theorem opsL_no {x : Tk} {l : List Tk} (n : Nat) (h : ¬ kw x [111, 112]) : opsL n (x :: l) = (true, [], x :: l) := by
  cases n with
  | zero => rfl
  | succ n => rw [opsL, if_neg h]
theorem opsL_bad {x : Tk} {l l' : List Tk} (n : Nat) (h : kw x [111, 112]) (h2 : declL l = (none, l')) : opsL (n + 1) (x :: l) = (false, [], l') := by
  rw [opsL, if_pos h, h2]
theorem opsL_yes {x : Tk} {l l' : List Tk} {d : Dc} (n : Nat) (h : kw x [111, 112]) (h2 : declL l = (some d, l')) : opsL (n + 1) (x :: l) = ((opsL n l').1, d :: (opsL n l').2.1, (opsL n l').2.2) := by
  rw [opsL, if_pos h, h2]
/-- A signature, and what is left. -/
def sigL (l : List Tk) : Option Sg × List Tk :=
  if (sortsL l).1 = true then
    (if (opsL (sortsL l).2.2.length (sortsL l).2.2).1 = true then (some ⟨(sortsL l).2.1, (opsL (sortsL l).2.2.length (sortsL l).2.2).2.1⟩, (opsL (sortsL l).2.2.length (sortsL l).2.2).2.2)
      else (none, (opsL (sortsL l).2.2.length (sortsL l).2.2).2.2))
  else (none, (sortsL l).2.2)

/-! ### how much is read -/
theorem namesL_ok {M : Nat} : ∀ (l : List Tk), (∀ x, x ∈ l → x.t.length ≤ M) → (namesL l).2 <:+ l ∧ ∀ ns, (namesL l).1 = some ns → ns.length + (namesL l).2.length ≤ l.length ∧ ∀ a, a ∈ ns → a.size ≤ M
  | [], _ => ⟨List.suffix_refl _, fun _ h => by cases h⟩
  | [x], _ => ⟨List.suffix_refl _, fun _ h => by cases h⟩
  | x :: y :: l, hM => by
    have hx : (nmOf x).size ≤ M := by show x.t.toArray.size ≤ _; rw [List.size_toArray]; exact hM x (by simp)
    by_cases h1 : x.k = 1
    · by_cases h2 : sym y [41]
      · rw [namesL_last h1 h2]
        exact ⟨⟨[x, y], rfl⟩, fun ns h => by injection h with h; subst h; exact ⟨by simp; omega, fun a ha => by rw [List.mem_singleton.1 ha]; exact hx⟩⟩
      · by_cases h3 : sym y [44]
        · rw [namesL_more h1 h2 h3]
          obtain ⟨h4, h5⟩ := namesL_ok l (fun z hz => hM z (by simp [hz]))
          refine ⟨h4.trans ⟨[x, y], rfl⟩, fun ns h => ?_⟩
          cases hn : (namesL l).1 with
          | none => rw [hn] at h; cases h
          | some bs =>
            rw [hn] at h
            injection h with h
            subst h
            obtain ⟨h6, h7⟩ := h5 bs hn
            refine ⟨by simp only [List.length_cons]; omega, fun a ha => ?_⟩
            rcases List.mem_cons.1 ha with rfl | ha
            · exact hx
            · exact h7 a ha
        · rw [namesL_stop h1 h2 h3]
          exact ⟨⟨[x], rfl⟩, fun _ h => by cases h⟩
    · rw [namesL_bad h1]
      exact ⟨List.suffix_refl _, fun _ h => by cases h⟩
theorem names0_ok {M : Nat} (l : List Tk) (hM : ∀ x, x ∈ l → x.t.length ≤ M) : (names0 l).2 <:+ l ∧ ∀ ns, (names0 l).1 = some ns → ns.length + (names0 l).2.length ≤ l.length ∧ ∀ a, a ∈ ns → a.size ≤ M := by
  cases l with
  | nil => exact ⟨List.suffix_refl _, fun _ h => by cases h⟩
  | cons z l =>
    rw [names0]
    split
    · exact ⟨⟨[z], rfl⟩, fun ns h => by injection h with h; subst h; exact ⟨by simp, fun a ha => by cases ha⟩⟩
    · exact namesL_ok _ hM
theorem argsL_ok {M : Nat} (l : List Tk) (hM : ∀ x, x ∈ l → x.t.length ≤ M) : (argsL l).2 <:+ l ∧ ∀ ns, (argsL l).1 = some ns → ns.length + (argsL l).2.length ≤ l.length ∧ ∀ a, a ∈ ns → a.size ≤ M := by
  cases l with
  | nil => exact ⟨List.suffix_refl _, fun _ h => by cases h⟩
  | cons z l =>
    rw [argsL]
    split
    · obtain ⟨h1, h2⟩ := names0_ok (M := M) l (fun x hx => hM x (by simp [hx]))
      exact ⟨h1.trans ⟨[z], rfl⟩, fun ns h => ⟨by have := (h2 ns h).1; simp only [List.length_cons]; omega, (h2 ns h).2⟩⟩
    · exact ⟨List.suffix_refl _, fun _ h => by cases h⟩
def okDM (M : Nat) (d : Dc) : Prop := d.nm.size ≤ M ∧ d.res.size ≤ M ∧ d.args.length ≤ M ∧ ∀ a, a ∈ d.args → a.size ≤ M
theorem declL_ok {M : Nat} (l : List Tk) (hM : ∀ x, x ∈ l → x.t.length ≤ M) (hl : l.length ≤ M) : (declL l).2 <:+ l ∧ ∀ d, (declL l).1 = some d → (declL l).2.length < l.length ∧ okDM M d := by
  have hsz : ∀ x, x ∈ l → (nmOf x).size ≤ M := fun x hx => by show x.t.toArray.size ≤ _; rw [List.size_toArray]; exact hM x hx
  cases l with
  | nil => exact ⟨List.suffix_refl _, fun _ h => by cases h⟩
  | cons x l =>
    rw [declL]
    split
    · obtain ⟨h1, h2⟩ := argsL_ok (M := M) l (fun z hz => hM z (by simp [hz]))
      generalize argsL l = r at h1 h2
      obtain ⟨r1, r2⟩ := r
      have h3 : r2 <:+ x :: l := h1.trans ⟨[x], rfl⟩
      match r1, r2 with
      | none, r2 => exact ⟨h3, fun _ h => by cases h⟩
      | some ns, [] => exact ⟨h3, fun _ h => by cases h⟩
      | some ns, [y] => exact ⟨h3, fun _ h => by cases h⟩
      | some ns, y :: z :: r =>
        rw [tailL]
        split
        · split
          · refine ⟨(show r <:+ y :: z :: r from ⟨[y, z], rfl⟩).trans h3, fun d h => ?_⟩
            injection h with h
            subst h
            obtain ⟨h4, h5⟩ := h2 ns rfl
            simp only [List.length_cons] at h4 hl
            exact ⟨by simp only [List.length_cons]; omega, hsz x (by simp), hsz z (h3.subset (by simp)), by simp only; omega, h5⟩
          · exact ⟨(show z :: r <:+ y :: z :: r from ⟨[y], rfl⟩).trans h3, fun _ h => by cases h⟩
        · exact ⟨h3, fun _ h => by cases h⟩
    · exact ⟨List.suffix_refl _, fun _ h => by cases h⟩
theorem sortsL_ok {M : Nat} : ∀ (l : List Tk), (∀ x, x ∈ l → x.t.length ≤ M) → (sortsL l).2.2 <:+ l ∧ (sortsL l).2.1.length + (sortsL l).2.2.length ≤ l.length ∧ ∀ a, a ∈ (sortsL l).2.1 → a.size ≤ M
  | [], _ => ⟨List.suffix_refl _, by simp [sortsL], fun _ h => by cases h⟩
  | [x], _ => ⟨List.suffix_refl _, by simp [sortsL], fun _ h => by cases h⟩
  | x :: z :: l, hM => by
    by_cases h1 : kw x [115, 111, 114, 116]
    · by_cases h2 : z.k = 1
      · rw [sortsL_yes h1 h2]
        obtain ⟨h4, h5, h6⟩ := sortsL_ok l (fun y hy => hM y (by simp [hy]))
        refine ⟨h4.trans ⟨[x, z], rfl⟩, by simp only [List.length_cons]; omega, fun a ha => ?_⟩
        rcases List.mem_cons.1 ha with rfl | ha
        · show z.t.toArray.size ≤ _; rw [List.size_toArray]; exact hM z (by simp)
        · exact h6 a ha
      · rw [sortsL_bad h1 h2]
        exact ⟨⟨[x], rfl⟩, by simp, fun _ h => by cases h⟩
    · rw [sortsL_no h1]
      exact ⟨List.suffix_refl _, by simp, fun _ h => by cases h⟩
theorem opsL_ok {M : Nat} : ∀ (n : Nat) (l : List Tk), (∀ x, x ∈ l → x.t.length ≤ M) → l.length ≤ M → (opsL n l).2.2 <:+ l ∧ (opsL n l).2.1.length + (opsL n l).2.2.length ≤ l.length ∧ ∀ d, d ∈ (opsL n l).2.1 → okDM M d
  | 0, l, _, _ => by
    have e : opsL 0 l = (true, [], l) := by cases l <;> rfl
    rw [e]; exact ⟨List.suffix_refl _, by simp, fun _ h => by cases h⟩
  | n + 1, [], _, _ => ⟨List.suffix_refl _, by simp [opsL], fun _ h => by cases h⟩
  | n + 1, x :: l, hM, hl => by
    by_cases h1 : kw x [111, 112]
    · obtain ⟨h2, h3⟩ := declL_ok (M := M) l (fun z hz => hM z (by simp [hz])) (by simp at hl; omega)
      generalize hd : declL l = r at h2 h3
      obtain ⟨r1, r2⟩ := r
      have h4 : r2 <:+ x :: l := h2.trans ⟨[x], rfl⟩
      cases r1 with
      | none => rw [opsL_bad n h1 hd]; exact ⟨h4, by have := h4.length_le; simpa using this, fun _ h => by cases h⟩
      | some d =>
        rw [opsL_yes n h1 hd]
        obtain ⟨h5, h6⟩ := h3 d rfl
        obtain ⟨h7, h8, h9⟩ := opsL_ok n r2 (suf_mem h4 hM) (Nat.le_trans h4.length_le hl)
        refine ⟨h7.trans h4, by simp only [List.length_cons] at h5 ⊢; omega, fun e he => ?_⟩
        rcases List.mem_cons.1 he with rfl | he
        · exact h6
        · exact h9 e he
    · rw [opsL_no _ h1]; exact ⟨List.suffix_refl _, by simp, fun _ h => by cases h⟩
theorem sigL_ok {M : Nat} (hMM : M ≤ maxLen) (l : List Tk) (hM : ∀ x, x ∈ l → x.t.length ≤ M) (hl : l.length ≤ M) : (sigL l).2 <:+ l ∧ ∀ g, (sigL l).1 = some g → okG g ∧ g.sorts.length ≤ M ∧ g.ops.length ≤ M ∧ ∀ d, d ∈ g.ops → okDM M d := by
  obtain ⟨h1, h2, h3⟩ := sortsL_ok (M := M) l hM
  obtain ⟨h4, h5, h6⟩ := opsL_ok (M := M) (sortsL l).2.2.length (sortsL l).2.2 (suf_mem h1 hM) (Nat.le_trans h1.length_le hl)
  unfold sigL
  split
  · split
    · refine ⟨h4.trans h1, fun g h => ?_⟩
      injection h with h
      subst h
      refine ⟨⟨⟨by simp only; omega, fun s hs => Nat.le_trans (h3 s hs) hMM⟩, by simp only; omega, fun d hd => ?_⟩, by simp only; omega, by simp only; omega, h6⟩
      obtain ⟨d1, d2, d3, d4⟩ := h6 d hd
      exact ⟨Nat.le_trans d1 hMM, Nat.le_trans d2 hMM, Nat.le_trans d3 hMM, fun a ha => Nat.le_trans (d4 a ha) hMM⟩
    · exact ⟨h4.trans h1, fun _ h => by cases h⟩
  · exact ⟨h1, fun _ h => by cases h⟩

/-! ### the text is read again -/
theorem toks_kw (s l : List UInt8) (a b : Int) (h : isKw s = true) (h1 : s.all isW = true) (h2 : 0 < s.length) (h3 : (s[0]?.any fun c => decide (cls c.toNat = 4)) = true) (hl : NoW l) : toks (s ++ l) a b = joinT [⟨3, s, 0, a, b⟩] (toks l a (b + s.length)) := by
  have hw : wl (s ++ l) = s.length := by unfold wl; rw [takeWhile_all_app isW s l h1 hl]
  have ht : tokOf (s ++ l) = some (3, s, 0, s.length) := by
    unfold tokOf
    rw [if_neg, hw, if_pos h2, List.take_left]
    · unfold wordTok
      rw [if_pos h]; rfl
    · intro e
      have := congrArg List.length e
      simp at this
      rw [this.1] at h2
      exact absurd h2 (by decide)
  obtain ⟨c, r, rfl⟩ : ∃ c r, s = c :: r := by
    cases s with
    | nil => simp at h3
    | cons c r => exact ⟨c, r, rfl⟩
  have hc : cls (c.toNat : Int) = 4 := by simpa using h3
  have hs := skip_0 c (r ++ l) a b (by omega) (by omega) (by omega)
  rw [← List.cons_append] at hs
  have := toks_step _ a b _ _ _ hs 3 (c :: r) 0 _ (by decide) ht
  rw [List.drop_left] at this
  exact this
theorem w32 : isW 32 = false := by decide
theorem w10 : isW 10 = false := by decide
theorem w45 : isW 45 = false := by decide
theorem toks_sort (l : List UInt8) (a b : Int) : toks (115 :: 111 :: 114 :: 116 :: 32 :: l) a b = joinT [⟨3, [115, 111, 114, 116], 0, a, b⟩] (toks l a (b + 4 + 1)) := by
  have := toks_kw [115, 111, 114, 116] (32 :: l) a b (by decide) (by decide) (by decide) (by decide) (NoW.cons _ w32)
  rw [toks_sp] at this
  exact this
theorem toks_op (l : List UInt8) (a b : Int) : toks (111 :: 112 :: 32 :: l) a b = joinT [⟨3, [111, 112], 0, a, b⟩] (toks l a (b + 2 + 1)) := by
  have := toks_kw [111, 112] (32 :: l) a b (by decide) (by decide) (by decide) (by decide) (NoW.cons _ w32)
  rw [toks_sp] at this
  exact this
theorem toks_nl (l : List UInt8) (a b : Int) : toks (10 :: l) a b = toks l (a + 1) 1 := toks_2 10 l a b (by decide)
theorem toks_arrow (l : List UInt8) (a b : Int) : toks (45 :: 62 :: l) a b = joinT [⟨4, [45, 62], 0, a, b⟩] (toks l a (b + 2)) := by
  have ht : tokOf (45 :: 62 :: l) = some (4, [45, 62], 0, 2) := by
    unfold tokOf; rw [if_neg (by simp)]; simp [wl, symLen, pairsL, w45]
  have hs : skip (45 :: 62 :: l) a b = (45 :: 62 :: l, a, b) := skip_0 _ _ _ _ (by decide) (by decide) (by decide)
  have := toks_step _ a b _ _ _ hs 4 [45, 62] 0 2 (by decide) ht
  simpa using this

theorem rd_names : ∀ (ns : List ByteArray), ns ≠ [] → (∀ a, a ∈ ns → isName a.data.toList = true) → ∀ (rest : List UInt8) (a b : Int), ∃ (T : List Tk) (a' b' : Int),
    toks (joinC ns ++ 41 :: rest) a b = joinT T (toks rest a' b') ∧ ∀ l, namesL (T ++ l) = (some ns, l) ∧ ∃ x r, T ++ l = x :: r ∧ x.k = 1
  | [], h, _ => absurd rfl h
  | [s], _, hn => by
    intro rest a b
    have e1 := toks_nm s.data.toList (41 :: rest) a b (hn s (by simp)) (NoW.cons _ w41)
    have e2 := toks_sym 41 rest a (b + s.data.toList.length) (.inr (.inl rfl))
    refine ⟨[⟨1, s.data.toList, 0, a, b⟩, ⟨4, [41], 0, a, b + s.data.toList.length⟩], a, b + s.data.toList.length + 1, ?_, fun l => ⟨?_, _, _, rfl, rfl⟩⟩
    · rw [joinC, e1, e2, joinT_join]; rfl
    · show namesL (⟨1, s.data.toList, 0, a, b⟩ :: ⟨4, [41], 0, a, b + s.data.toList.length⟩ :: l) = _
      rw [namesL_last rfl ⟨rfl, rfl⟩, nmOf_eq]
  | s :: t :: ns, _, hn => by
    intro rest a b
    have e1 := toks_nm s.data.toList (44 :: 32 :: (joinC (t :: ns) ++ 41 :: rest)) a b (hn s (by simp)) (NoW.cons _ w44)
    have e2 := toks_sym 44 (32 :: (joinC (t :: ns) ++ 41 :: rest)) a (b + s.data.toList.length) (.inr (.inr (.inl rfl)))
    obtain ⟨T, a', b', e3, hP⟩ := rd_names (t :: ns) (by simp) (fun x hx => hn x (by simp at hx ⊢; exact .inr hx)) rest a (b + s.data.toList.length + 1 + 1)
    refine ⟨⟨1, s.data.toList, 0, a, b⟩ :: ⟨4, [44], 0, a, b + s.data.toList.length⟩ :: T, a', b', ?_, fun l => ⟨?_, _, _, rfl, rfl⟩⟩
    · have e0 : joinC (s :: t :: ns) ++ 41 :: rest = s.data.toList ++ 44 :: 32 :: (joinC (t :: ns) ++ 41 :: rest) := by simp [joinC]
      rw [e0, e1, e2, toks_sp, e3, joinT_join, joinT_join]; rfl
    · show namesL (⟨1, s.data.toList, 0, a, b⟩ :: ⟨4, [44], 0, a, b + s.data.toList.length⟩ :: (T ++ l)) = _
      rw [namesL_more rfl (fun h => absurd h.2 (by simp)) ⟨rfl, rfl⟩, (hP l).1, nmOf_eq]; rfl
theorem rd_names0 (ns : List ByteArray) (hn : ∀ a, a ∈ ns → isName a.data.toList = true) (rest : List UInt8) (a b : Int) : ∃ (T : List Tk) (a' b' : Int),
    toks (joinC ns ++ 41 :: rest) a b = joinT T (toks rest a' b') ∧ ∀ l, names0 (T ++ l) = (some ns, l) := by
  cases ns with
  | nil =>
    refine ⟨[⟨4, [41], 0, a, b⟩], a, b + 1, toks_sym 41 rest a b (.inr (.inl rfl)), fun l => ?_⟩
    show names0 (⟨4, [41], 0, a, b⟩ :: l) = _
    rw [names0, if_pos ⟨rfl, rfl⟩]
  | cons s ns =>
    obtain ⟨T, a', b', e, hP⟩ := rd_names (s :: ns) (by simp) hn rest a b
    refine ⟨T, a', b', e, fun l => ?_⟩
    obtain ⟨h1, x, r, h2, h3⟩ := hP l
    rw [h2] at h1 ⊢
    rw [names0, if_neg (fun h => by rw [h.1] at h3; cases h3), h1]
/-- What the reader makes of a declaration. -/
theorem rd_op (d : Dc) (h1 : isName d.nm.data.toList = true) (h2 : ∀ a, a ∈ d.args → isName a.data.toList = true) (h3 : isName d.res.data.toList = true) (rest : List UInt8) (a b : Int) : ∃ (x : Tk) (T : List Tk) (a' b' : Int),
    toks (opTxt d ++ rest) a b = joinT (x :: T) (toks rest a' b') ∧ kw x [111, 112] ∧ ∀ l, declL (T ++ l) = (some d, l) := by
  have e0 : opTxt d ++ rest = 111 :: 112 :: 32 :: (d.nm.data.toList ++ 40 :: (joinC d.args ++ 41 :: 32 :: 45 :: 62 :: 32 :: (d.res.data.toList ++ 10 :: rest))) := by simp [opTxt]
  have e1 := toks_op (d.nm.data.toList ++ 40 :: (joinC d.args ++ 41 :: 32 :: 45 :: 62 :: 32 :: (d.res.data.toList ++ 10 :: rest))) a b
  have e2 := toks_nm d.nm.data.toList (40 :: (joinC d.args ++ 41 :: 32 :: 45 :: 62 :: 32 :: (d.res.data.toList ++ 10 :: rest))) a (b + 2 + 1) h1 (NoW.cons _ w40)
  have e3 := toks_sym 40 (joinC d.args ++ 41 :: 32 :: 45 :: 62 :: 32 :: (d.res.data.toList ++ 10 :: rest)) a (b + 2 + 1 + d.nm.data.toList.length) (.inl rfl)
  obtain ⟨T, a', b', e4, hP⟩ := rd_names0 d.args h2 (32 :: 45 :: 62 :: 32 :: (d.res.data.toList ++ 10 :: rest)) a (b + 2 + 1 + d.nm.data.toList.length + 1)
  have e5 := toks_sp (45 :: 62 :: 32 :: (d.res.data.toList ++ 10 :: rest)) a' b'
  have e6 := toks_arrow (32 :: (d.res.data.toList ++ 10 :: rest)) a' (b' + 1)
  have e7 := toks_sp (d.res.data.toList ++ 10 :: rest) a' (b' + 1 + 2)
  have e8 := toks_nm d.res.data.toList (10 :: rest) a' (b' + 1 + 2 + 1) h3 (NoW.cons _ w10)
  have e9 := toks_nl rest a' (b' + 1 + 2 + 1 + d.res.data.toList.length)
  refine ⟨⟨3, [111, 112], 0, a, b⟩, ⟨1, d.nm.data.toList, 0, a, b + 2 + 1⟩ :: ⟨4, [40], 0, a, b + 2 + 1 + d.nm.data.toList.length⟩ :: (T ++ [⟨4, [45, 62], 0, a', b' + 1⟩, ⟨1, d.res.data.toList, 0, a', b' + 1 + 2 + 1⟩]), a' + 1, 1, ?_, ⟨rfl, rfl⟩, fun l => ?_⟩
  · rw [e0, e1, e2, e3, e4, e5, e6, e7, e8, e9]
    simp only [joinT_join]
    simp
  · show declL (⟨1, d.nm.data.toList, 0, a, b + 2 + 1⟩ :: ⟨4, [40], 0, a, b + 2 + 1 + d.nm.data.toList.length⟩ :: (T ++ [⟨4, [45, 62], 0, a', b' + 1⟩, ⟨1, d.res.data.toList, 0, a', b' + 1 + 2 + 1⟩] ++ l)) = _
    rw [declL, if_pos rfl, argsL, if_pos ⟨rfl, rfl⟩, List.append_assoc, hP]
    show tailL _ (some d.args, ⟨4, [45, 62], 0, a', b' + 1⟩ :: ⟨1, d.res.data.toList, 0, a', b' + 1 + 2 + 1⟩ :: l) = _
    rw [tailL, if_pos ⟨rfl, rfl⟩, if_pos rfl, nmOf_eq, nmOf_eq]
theorem rd_ops : ∀ (ds : List Dc), (∀ d, d ∈ ds → isName d.nm.data.toList = true ∧ (∀ a, a ∈ d.args → isName a.data.toList = true) ∧ isName d.res.data.toList = true) → ∀ (a b : Int), ∃ (T : List Tk) (e : Tk),
    toks (ds.flatMap opTxt) a b = .ok (T ++ [e]) ∧ e.k = 5 ∧ (∀ n, ds.length ≤ n → opsL n (T ++ [e]) = (true, ds, [e])) ∧ ds.length ≤ T.length ∧ ∃ x r, T ++ [e] = x :: r ∧ ¬ kw x [115, 111, 114, 116]
  | [], _, a, b => by
    refine ⟨[], ⟨5, [], 0, a, b⟩, toks_end [] a b [] a b (skip_nil a b) [] 0 0 rfl, rfl, fun n _ => ?_, Nat.le_refl _, _, _, rfl, fun h => by cases h.1⟩
    exact opsL_no n (fun h => by cases h.1)
  | d :: ds, hn, a, b => by
    obtain ⟨n1, n2, n3⟩ := hn d (by simp)
    obtain ⟨x, T, a', b', e1, hx, hd⟩ := rd_op d n1 n2 n3 (ds.flatMap opTxt) a b
    obtain ⟨T2, e, e2, he, h2, h3, _⟩ := rd_ops ds (fun y hy => hn y (by simp [hy])) a' b'
    refine ⟨x :: T ++ T2, e, ?_, he, fun n hle => ?_, by simp; omega, x, T ++ T2 ++ [e], by simp, fun h => ?_⟩
    · rw [List.flatMap_cons, e1, e2]
      show Except.ok (x :: T ++ (T2 ++ [e])) = _
      rw [List.append_assoc]
    · cases n with
      | zero => simp at hle
      | succ n =>
        have e3 : x :: T ++ T2 ++ [e] = x :: (T ++ (T2 ++ [e])) := by simp
        rw [e3, opsL_yes n hx (hd _), h2 n (by simpa using hle)]
    · have := hx.2.symm.trans h.2
      simp at this
theorem rd_sorts : ∀ (ss : List ByteArray) (ds : List Dc), (∀ s, s ∈ ss → isName s.data.toList = true) → (∀ d, d ∈ ds → isName d.nm.data.toList = true ∧ (∀ a, a ∈ d.args → isName a.data.toList = true) ∧ isName d.res.data.toList = true) → ∀ (a b : Int), ∃ (T : List Tk) (T2 : List Tk) (e : Tk),
    toks (ss.flatMap sortTxt ++ ds.flatMap opTxt) a b = .ok (T ++ (T2 ++ [e])) ∧ e.k = 5 ∧ sortsL (T ++ (T2 ++ [e])) = (true, ss, T2 ++ [e]) ∧ opsL (T2 ++ [e]).length (T2 ++ [e]) = (true, ds, [e])
  | [], ds, _, hd, a, b => by
    obtain ⟨T, e, h1, h2, h3, h4, x, r, h5, h6⟩ := rd_ops ds hd a b
    refine ⟨[], T, e, by simpa using h1, h2, ?_, h3 _ (by simp; omega)⟩
    show sortsL (T ++ [e]) = _
    rw [h5, sortsL_no h6]
  | s :: ss, ds, hn, hd, a, b => by
    have e0 : (s :: ss).flatMap sortTxt ++ ds.flatMap opTxt = 115 :: 111 :: 114 :: 116 :: 32 :: (s.data.toList ++ 10 :: (ss.flatMap sortTxt ++ ds.flatMap opTxt)) := by simp [sortTxt]
    have e1 := toks_sort (s.data.toList ++ 10 :: (ss.flatMap sortTxt ++ ds.flatMap opTxt)) a b
    have e2 := toks_nm s.data.toList (10 :: (ss.flatMap sortTxt ++ ds.flatMap opTxt)) a (b + 4 + 1) (hn s (by simp)) (NoW.cons _ w10)
    have e3 := toks_nl (ss.flatMap sortTxt ++ ds.flatMap opTxt) a (b + 4 + 1 + s.data.toList.length)
    obtain ⟨T, T2, e, h1, h2, h3, h4⟩ := rd_sorts ss ds (fun x hx => hn x (by simp [hx])) hd (a + 1) 1
    refine ⟨⟨3, [115, 111, 114, 116], 0, a, b⟩ :: ⟨1, s.data.toList, 0, a, b + 4 + 1⟩ :: T, T2, e, ?_, h2, ?_, h4⟩
    · rw [e0, e1, e2, e3, h1]; rfl
    · show sortsL (⟨3, [115, 111, 114, 116], 0, a, b⟩ :: ⟨1, s.data.toList, 0, a, b + 4 + 1⟩ :: (T ++ (T2 ++ [e]))) = _
      rw [sortsL_yes ⟨rfl, rfl⟩ rfl, h3, nmOf_eq]
theorem valid_names {g : Sg} (h : validSg g = true) : (∀ s, s ∈ g.sorts → isName s.data.toList = true) ∧ ∀ d, d ∈ g.ops → isName d.nm.data.toList = true ∧ (∀ a, a ∈ d.args → isName a.data.toList = true) ∧ isName d.res.data.toList = true := by
  unfold validSg diffL at h
  simp only [Bool.and_eq_true, decide_eq_true_eq, List.all_eq_true] at h
  obtain ⟨⟨⟨⟨h1, h2⟩, h3, _⟩, h4⟩, h5, _⟩ := h
  have hs : ∀ s, s ∈ g.sorts → isName s.data.toList = true := fun s hs => by
    have := h3 s hs
    rwa [Lib.toList_data] at this
  refine ⟨hs, fun d hd => ?_⟩
  have hv := h4 d hd
  unfold validDc at hv
  simp only [Bool.and_eq_true, decide_eq_true_eq, List.all_eq_true] at hv
  obtain ⟨⟨v1, v2⟩, v3⟩ := hv
  refine ⟨?_, fun a ha => hs a ((memS_iff a g.sorts).1 (v2 a ha)), hs _ ((memS_iff _ g.sorts).1 v3)⟩
  have := h5 d.nm (List.mem_map.2 ⟨d, hd, rfl⟩)
  rwa [Lib.toList_data] at this
/-- A signature is read from its text. -/
theorem sig_back {g : Sg} (h : validSg g = true) : ∃ (L : List Tk) (e : Tk), toks (sigTxt g) 1 1 = .ok L ∧ sigL L = (some g, [e]) ∧ e.k = 5 := by
  obtain ⟨h1, h2⟩ := valid_names h
  obtain ⟨T, T2, e, h3, h4, h5, h6⟩ := rd_sorts g.sorts g.ops h1 h2 1 1
  refine ⟨_, e, h3, ?_, h4⟩
  unfold sigL
  rw [h5]
  simp only
  rw [h6]
  simp
theorem sigTxt_len {g : Sg} (h : validSg g = true) : (sigTxt g).length ≤ 36040 := by
  obtain ⟨h1, h2, h3, h4⟩ := valid_parts h
  have hxl1 : (g.sorts.flatMap sortTxt).length ≤ 46 * 40 := Nat.le_trans (fm_len sortTxt 46 _ (fun x hx => sortTxt_len (h3 x hx))) (Nat.mul_le_mul_left _ h1)
  have hxl2 : (g.ops.flatMap opTxt).length ≤ 342 * 100 := Nat.le_trans (fm_len opTxt 342 _ (fun x hx => by
    obtain ⟨p1, p2, p3, p4⟩ := h4 x hx
    exact opTxt_len p1 p2 p3 p4)) (Nat.mul_le_mul_left _ h2)
  unfold sigTxt
  rw [List.length_append]; omega
end Go.Proofs.YthbcfcbonmphfaaDoor
/- Lists of strings and declarations in memory, in blocks of a kind. -/
namespace Go.Proofs.YthbcfcbonmphfaaDoor
open Go.RowKit Go.Shelf
set_option maxRecDepth 100000

/-- A slice of strings in memory, in a block of a kind. -/
def SlX (S : Nat → Prop) (w : World) (A : Option Addr) (L : List ByteArray) : Prop :=
  0 < L.length → ∃ b off, A = some ⟨b, off, none⟩ ∧ S b ∧ ∀ (i : Nat) (s : ByteArray), L[i]? = some s → w.cell? ⟨b, off + i, none⟩ = some (.string s)
theorem SlX.nil (S : Nat → Prop) (w : World) (A : Option Addr) : SlX S w A [] := fun h => absurd h (by simp)
theorem SlX.keep {S : Nat → Prop} {w w' : World} {A : Option Addr} {L : List ByteArray} (h : SlX S w A L) (hk : ∀ b, S b → w'.heap[b]? = w.heap[b]?) : SlX S w' A L := fun hl => by
  obtain ⟨b, off, h1, h2, h3⟩ := h hl
  exact ⟨b, off, h1, h2, fun i s hi => (World.cell?_of_block (hk b h2)).trans (h3 i s hi)⟩
theorem SlX.imp {S S' : Nat → Prop} {w : World} {A : Option Addr} {L : List ByteArray} (h : SlX S w A L) (hs : ∀ b, S b → S' b) : SlX S' w A L := fun hl => by
  obtain ⟨b, off, h1, h2, h3⟩ := h hl
  exact ⟨b, off, h1, hs b h2, h3⟩
theorem SlX.rep {S : Nat → Prop} {w : World} {A : Option Addr} {L : List ByteArray} (h : SlX S w A L) {n₀ : Nat} (hs : ∀ b, S b → b < n₀) : SlS n₀ w A L := fun hl => by
  obtain ⟨b, off, h1, h2, h3⟩ := h hl
  exact ⟨b, off, h1, hs b h2, h3⟩
theorem slX_own {w : World} {base n : Nat} {v : Value} {L : List ByteArray} (h : w.ownsRow base 9 1 v n (strsC L)) (hn : n = L.length) : ∃ A cap, v = .slice A L.length cap ∧ L.length ≤ cap ∧ cap ≤ maxLen ∧ SlX (fun b => base ≤ b ∧ b < w.heap.size ∧ v.ownBlock = some b) w A L := by
  subst hn
  rcases h.2 with ⟨rfl, h0⟩ | ⟨g, cap, cur, rfl, _, hh, hc1, hc2, _⟩
  · exact ⟨none, 0, by rw [h0], by omega, Nat.zero_le _, fun hp => absurd hp (by omega)⟩
  · refine ⟨_, cap, rfl, hc1, hc2, fun hp => ⟨g, 0, rfl, ⟨(h.lt g rfl).1, (h.lt g rfl).2, rfl⟩, fun i t ht => ?_⟩⟩
    have hi : i < L.length := (List.getElem?_eq_some_iff.1 ht).1
    have c := h.cellAt i (by omega)
    rw [show 0 + i = i by omega, c, strsC, List.getElem?_map, ht]; rfl
/-- A declaration in memory: where its arguments lie. -/
abbrev DK := Dc × Option Addr × Nat
def dkC (x : DK) : List Value := [.string x.1.nm, .slice x.2.1 x.1.args.length x.2.2, .string x.1.res]
def dksC (L : List DK) : List Value := L.flatMap dkC
theorem dksC_len : ∀ L : List DK, (dksC L).length = L.length * 3
  | [] => rfl
  | x :: L => by
    have := dksC_len L
    unfold dksC at this ⊢
    rw [List.flatMap_cons, List.length_append, this]
    simp [dkC]; omega
theorem dksC_snoc (L : List DK) (x : DK) : dksC L ++ dkC x = dksC (L ++ [x]) := by simp [dksC]
theorem dksC_at : ∀ (L : List DK) (i : Nat) (x : DK) (r : Nat), L[i]? = some x → r < 3 → (dksC L)[i * 3 + r]? = (dkC x)[r]?
  | [], i, x, r, h, _ => by simp at h
  | y :: L, 0, x, r, h, hr => by
    simp at h
    subst h
    unfold dksC
    rw [List.flatMap_cons, List.getElem?_append_left (by simp [dkC]; omega), Nat.zero_mul, Nat.zero_add]
  | y :: L, i + 1, x, r, h, hr => by
    have ih := dksC_at L i x r (by simpa using h) hr
    unfold dksC at ih ⊢
    rw [List.flatMap_cons, List.getElem?_append_right (by simp [dkC]; omega)]
    have e : (i + 1) * 3 + r - (dkC y).length = i * 3 + r := by simp [dkC]; omega
    rw [e, ih]
/-- The declarations, all read; a world that keeps their blocks has them. -/
theorem dks_done {w w'' : World} {base n : Nat} {v : Value} {ks : List DK} (ho : w.ownsRow base 140 3 v n (dksC ks)) (hn : n = ks.length) (hk : ∀ x, x ∈ ks → SlX (fun b => base ≤ b ∧ b < w.heap.size ∧ some b ≠ v.ownBlock) w x.2.1 x.1.args)
    (hw : ∀ b, base ≤ b → b < w.heap.size → w''.heap[b]? = w.heap[b]?) {n₀ : Nat} (h0 : w.heap.size ≤ n₀) :
    ∃ A c, v = .slice A (ks.map (·.1)).length c ∧ SlD n₀ w'' A (ks.map (·.1)) := by
  subst hn
  rcases ho.2 with ⟨rfl, h0⟩ | ⟨g, cap, cur, rfl, _, hh, _⟩
  · have : ks = [] := List.eq_nil_of_length_eq_zero h0
    subst this
    exact ⟨none, 0, rfl, fun hp => absurd hp (by simp)⟩
  · have hg := ho.lt g rfl
    refine ⟨some ⟨g, 0, none⟩, cap, by rw [List.length_map], fun _ => ⟨g, 0, rfl, by omega, fun i d hi => ?_⟩⟩
    rw [List.getElem?_map] at hi
    cases hx : ks[i]? with
    | none => rw [hx] at hi; cases hi
    | some x =>
      rw [hx] at hi
      injection hi with hi
      subst hi
      have hil := (List.getElem?_eq_some_iff.1 hx).1
      have hc : ∀ r, r < 3 → w''.cell? ⟨g, i * 3 + r, none⟩ = (dkC x)[r]? := fun r hr => (World.cell?_of_block (hw g hg.1 hg.2)).trans ((ho.cellAt (i * 3 + r) (by omega)).trans (dksC_at ks i x r hx hr))
      refine ⟨x.2.1, x.2.2, ?_, ?_, ?_, (((hk x (List.mem_of_getElem? hx)).keep (fun b hb => hw b hb.1 hb.2.1)).rep (fun b hb => by have := hb.2.1; omega))⟩
      · have := hc 0 (by omega); simpa [dkC] using this
      · have := hc 1 (by omega); simpa [dkC] using this
      · have := hc 2 (by omega); simpa [dkC] using this
end Go.Proofs.YthbcfcbonmphfaaDoor
namespace Go.Proofs.YthbcfcbonmphfaaDoor
open Go.RowKit Go.Shelf
set_option maxRecDepth 100000

set_option maxHeartbeats 1000000 in
theorem keyword_no (P : Nat) (t : Tk) (r : List Tk) (s : ByteArray) (w : World) (h : PB w P (t :: r)) (hn : t.k ≠ 3 ∨ t.t ≠ s.toList) :
    Calls Tryd.prog 133 #[.pointer (some ⟨P, 0, none⟩), .string s] w fun e w' => e = .returned (.bool false) ∧ w' = w := by
  have H := Lib.hid (text_no P t r 3 s w h hn)
  clear h hn
  go_enter Tryd.func133, Tryd.ntmps133
  go_wp2_with fail
  refine H.out.mono ?_
  rintro e w' ⟨rfl, rfl⟩
  go_wp2_with fail
  go_ret
  exact ⟨rfl, rfl⟩
set_option maxHeartbeats 1000000 in
theorem keyword_yes (P : Nat) (t u : Tk) (r : List Tk) (s : ByteArray) (w : World) (h : PB w P (t :: u :: r)) (hk : t.k = 3) (ht : t.t = s.toList) :
    Calls Tryd.prog 133 #[.pointer (some ⟨P, 0, none⟩), .string s] w fun e w' => e = .returned (.bool true) ∧ PB w' P (u :: r) ∧ w.grownBy w' (some P) := by
  have H := Lib.hid (text_yes P t u r 3 s w h hk ht)
  clear h hk ht
  go_enter Tryd.func133, Tryd.ntmps133
  go_wp2_with fail
  refine H.out.mono ?_
  rintro e w' ⟨rfl, h1, h2⟩
  have H1 := Lib.hid h1
  have H2 := Lib.hid h2
  clear h1 h2
  go_wp2_with fail
  go_ret
  exact ⟨rfl, H1.out, H2.out⟩
theorem kw_yes {t : Tk} {s : List UInt8} (h : kw t s) {b : ByteArray} (hb : b.toList = s) : t.t = b.toList := h.2.trans hb.symm
theorem kw_no {t : Tk} {s : List UInt8} (h : ¬ kw t s) {b : ByteArray} (hb : b.toList = s) : t.k ≠ 3 ∨ t.t ≠ b.toList := by
  by_cases hk : t.k = 3
  · exact .inr (fun e => h ⟨hk, e.trans hb⟩)
  · exact .inl hk
theorem lSort : (⟨#[115, 111, 114, 116]⟩ : ByteArray).toList = [115, 111, 114, 116] := by rw [Lib.toList_data]
theorem lOp : (⟨#[111, 112]⟩ : ByteArray).toList = [111, 112] := by rw [Lib.toList_data]
theorem lArr : (⟨#[45, 62]⟩ : ByteArray).toList = [45, 62] := by rw [Lib.toList_data]

/-- What list hands back, for names. -/
def LsPost (P : Nat) (l : List Tk) (w : World) (e : Ending) (w' : World) : Prop :=
  ∃ l', PB w' P l' ∧ EndsK l' ∧ l'.length ≤ l.length ∧ w.grownBy w' (some P) ∧
    ((∃ ns A c, argsL l = (some ns, l') ∧ e = .returned (.tuple #[.slice A ns.length c, .bool true]) ∧ SlX (fun b => w.heap.size ≤ b ∧ b < w'.heap.size) w' A ns) ∨
     (argsL l = (none, l') ∧ e = .returned (.tuple #[.slice none 0 0, .bool false])))
/-- What holds at the head of its loop. -/
def LsInv (P : Nat) (L0 : List Tk) (w : World) (k : Nat) (v : Value) (wr : World) : Prop :=
  ∃ (lc : List Tk) (ss : List ByteArray), PB wr P lc ∧ EndsK lc ∧ lc.length ≤ k ∧ ss.length + lc.length ≤ L0.length ∧ w.grownBy wr (some P) ∧
    wr.ownsRow w.heap.size 9 1 v ss.length (strsC ss) ∧ namesL L0 = ((namesL lc).1.map (ss ++ ·), (namesL lc).2)
theorem map_nil_app {α : Type} (r : Option (List α)) : r.map (([] : List α) ++ ·) = r := by cases r <;> rfl
theorem strsC_snoc (L : List ByteArray) (x : ByteArray) : strsC L ++ [.string x] = strsC (L ++ [x]) := by simp [strsC]

set_option maxHeartbeats 4000000 in
theorem listS_any (P : Nat) (y : Tk) (l : List Tk) (w : World) (hp : PB w P (y :: l)) (he : EndsK (y :: l)) (hlen : (y :: l).length ≤ 100000) :
    Calls Tryd.prog 146 #[.pointer (some ⟨P, 0, none⟩), .func (.func 126) #[.pointer (some ⟨P, 0, none⟩)] #[]] w (LsPost P (y :: l) w) := by
  have HP := Lib.hid hp
  have HE := Lib.hid he
  have HLEN := Lib.hid hlen
  have hPw := hp.lt
  obtain ⟨i0, hi, hz0, hz1, hz2⟩ := info_parts Tryd.infoString
  clear hp he hlen
  by_cases h40 : sym y [40]
  · have hy5 : y.k ≠ 5 := by rw [h40.1]; decide
    obtain ⟨z, l2, rfl, he2⟩ := HE.out.tail hy5
    have HE2 := Lib.hid he2
    have HS := Lib.hid (symbol_yes P y z l2 ⟨#[40]⟩ w HP.out h40.1 (sym_yes h40 l40))
    have HA : Hid (argsL (y :: z :: l2) = names0 (z :: l2)) := Lib.hid (by rw [argsL, if_pos h40])
    clear h40 hy5 he2
    go_enter Tryd.func146, Tryd.ntmps146
    go_wp2_with fail
    refine HS.out.mono ?_
    rintro e w1 ⟨rfl, hp1, hg1⟩
    have HP1 := Lib.hid hp1
    have HG1 := Lib.hid hg1
    clear hp1 hg1
    by_cases h41 : sym z [41]
    · have hz5 : z.k ≠ 5 := by rw [h41.1]; decide
      obtain ⟨u, l3, rfl, he3⟩ := HE2.out.tail hz5
      have HE3 := Lib.hid he3
      have HS2 := Lib.hid (symbol_yes P z u l3 ⟨#[41]⟩ w1 HP1.out h41.1 (sym_yes h41 l41))
      have HA2 : Hid (argsL (y :: z :: u :: l3) = (some [], u :: l3)) := Lib.hid (by rw [HA.out, names0, if_pos h41])
      clear h41 hz5 he3
      go_wp2_with fail
      refine HS2.out.mono ?_
      rintro e w2 ⟨rfl, hp2, hg2⟩
      have HP2 := Lib.hid hp2
      have HG2 := Lib.hid hg2
      clear hp2 hg2
      go_wp2_with fail
      go_ret2
      exact ⟨_, HP2.out, HE3.out, by simp only [List.length_cons]; omega, only_trans HG1.out HG2.out, .inl ⟨[], none, 0, HA2.out, rfl, SlX.nil _ _ _⟩⟩
    · have HS2 := Lib.hid (symbol_no P z l2 ⟨#[41]⟩ w1 HP1.out (sym_no h41 l41))
      have HA2 : Hid (argsL (y :: z :: l2) = namesL (z :: l2)) := Lib.hid (by rw [HA.out, names0, if_neg h41])
      clear h41
      go_wp2_with fail
      refine HS2.out.mono ?_
      rintro e w2 ⟨rfl, rfl⟩
      go_wp2_with fail
      go_loopg [6] (l2.length + 1) (fun k v wr => LsInv P (z :: l2) w k v wr)
      case atStart => exact ⟨z :: l2, [], HP1.out, HE2.out, by simp, by simp, HG1.out, World.ownsRow_nil _ _ _ _, by rw [map_nil_app]⟩
      case round =>
        clear HP HP1 HE HE2 HS HS2 HG1
        obtain ⟨lc, ss, hpb, hek, hlk, hln, hgr, hown, hcont⟩ := hrel
        have HPB := Lib.hid hpb
        have HEK := Lib.hid hek
        have HGR := Lib.hid hgr
        have HOWN := Lib.hid hown
        have HCONT := Lib.hid hcont
        have hLEN := HLEN.out
        have hws := hgr.size
        simp only [List.length_cons] at hlk hln hLEN
        obtain ⟨x, lr, rfl⟩ := hek.ne
        clear hpb hek hgr hown hcont
        by_cases hx : x.k = 1
        · have hx5 : x.k ≠ 5 := by rw [hx]; decide
          obtain ⟨y', lt, rfl, he3⟩ := HEK.out.tail hx5
          have HN := Lib.hid (name_yes P x y' lt wr HPB.out hx)
          have HE3 := Lib.hid he3
          have HX := Lib.hid hx
          clear hx hx5 he3
          go_wp2_with fail
          refine HN.out.mono ?_
          rintro e w3 ⟨rfl, hp3, hg3⟩
          have HP3 := Lib.hid hp3
          have HG3 := Lib.hid hg3
          have hs3 := hg3.size
          have HO3 := Lib.hid ((HOWN.out.kept HG3.out (by
            cases hv : u6.ownBlock with
            | none => exact .inl rfl
            | some g => exact .inr (fun e => by injection e with e; have := (HOWN.out.lt g hv).1; omega))).alloc (.cells #[.string ⟨x.t.toArray⟩] 9))
          clear hp3 hg3 HN
          go_wp2_with (at_builtin; refine wpList_append_own _ rfl (.tmp 21) (.tmp 23) 51 rfl w.heap.size 9 i0 _ 1 16 Tryd.underlying51 hi hz0 hz1 hz2 rfl (by decide) _ ss.length _ rfl HO3.out ⟨w3.heap.size, 0, none⟩ 1 1 [.string ⟨x.t.toArray⟩] rfl rfl ?c1 ?c2 ?c3 ?c4 ?c5 ?_)
          case c1 =>
            intro j u hu
            have : j = 0 := by have := (List.getElem?_eq_some_iff.1 hu).1; simpa using this
            subst this
            simp at hu
            subst hu
            simp [Addr.add]
          case c2 => intro u hu; simp at hu; subst hu; rfl
          case c3 => unfold maxLen; omega
          case c4 => omega
          case c5 => simp; omega
          intro v' w4 ho4 hg4 _
          have hs4 := hg4.size
          simp at hs4
          have hvP : ∀ k, u6.ownBlock = some k → w.heap.size ≤ k ∧ k < wr.heap.size := fun k e => HOWN.out.lt k e
          have HP4 := Lib.hid ((HP3.out.below ((Below.refl _ _).alloc (Nat.le_refl _) (.cells #[.string ⟨x.t.toArray⟩] 9))).grown hg4 (fun k e => by have := (hvP k e).1; omega))
          have hgr4 : w.grownBy w4 (some P) := by
            have h0 := only_alloc (only_trans HGR.out HG3.out) (.cells #[.string ⟨x.t.toArray⟩] 9)
            exact ⟨hg4.os.trans h0.os, hg4.tape.trans h0.tape, hg4.output.trans h0.output, Nat.le_trans h0.size hg4.size, fun b hb hne => (hg4.block b (by have := h0.size; omega) (fun e => by have := (hvP b e.symm).1; omega)).trans (h0.block b hb hne)⟩
          have ho4' : w4.ownsRow w.heap.size 9 1 v' (ss ++ [nmOf x]).length (strsC (ss ++ [nmOf x])) := by
            rw [← strsC_snoc]; simpa [nmOf] using ho4
          have HO4 := Lib.hid ho4'
          have HGR4 := Lib.hid hgr4
          clear ho4 hg4 ho4' hgr4 hvP
          by_cases hc41 : sym y' [41]
          · have hz5 : y'.k ≠ 5 := by rw [hc41.1]; decide
            obtain ⟨u, l3, rfl, he4⟩ := HE3.out.tail hz5
            have HE4 := Lib.hid he4
            have HS4 := Lib.hid (symbol_yes P y' u l3 ⟨#[41]⟩ w4 HP4.out hc41.1 (sym_yes hc41 l41))
            have HR : Hid (argsL (y :: z :: l2) = (some (ss ++ [nmOf x]), u :: l3)) := Lib.hid (by rw [HA2.out, HCONT.out, namesL_last HX.out hc41]; rfl)
            clear hc41 hz5 he4
            go_wp2_with fail
            refine HS4.out.mono ?_
            rintro e w5 ⟨rfl, hp5, hg5⟩
            have HP5 := Lib.hid hp5
            have HG5 := Lib.hid hg5
            obtain ⟨A5, c5, rfl, _, _, hsl⟩ := slX_own HO4.out rfl
            have HSL := Lib.hid hsl
            clear hp5 hg5 hsl
            go_wp2_with fail
            go_ret2
            refine ⟨_, HP5.out, HE4.out, ?_, only_trans HGR4.out HG5.out, .inl ⟨ss ++ [nmOf x], A5, c5, HR.out, by rw [List.length_append]; rfl, ?_⟩⟩
            · simp only [List.length_cons] at hln ⊢; omega
            · have hs5 := HG5.out.size
              exact (HSL.out.keep (fun b hb => HG5.out.block b hb.2.1 (fun e => by injection e with e; have := hb.1; omega))).imp (fun b hb => ⟨hb.1, by have := hb.2.1; omega⟩)
          · have HS4 := Lib.hid (symbol_no P y' lt ⟨#[41]⟩ w4 HP4.out (sym_no hc41 l41))
            have H41b := Lib.hid hc41
            clear hc41
            go_wp2_with fail
            refine HS4.out.mono ?_
            rintro e w5 ⟨rfl, rfl⟩
            by_cases hc44 : sym y' [44]
            · have hz5 : y'.k ≠ 5 := by rw [hc44.1]; decide
              obtain ⟨u, l3, rfl, he4⟩ := HE3.out.tail hz5
              have HE4 := Lib.hid he4
              have HS5 := Lib.hid (symbol_yes P y' u l3 ⟨#[44]⟩ w5 HP4.out hc44.1 (sym_yes hc44 l44))
              have HR : Hid (namesL (z :: l2) = ((namesL (u :: l3)).1.map ((ss ++ [nmOf x]) ++ ·), (namesL (u :: l3)).2)) := Lib.hid (by
                rw [HCONT.out, namesL_more HX.out H41b.out hc44, Option.map_map]
                congr 2
                funext r; simp)
              clear hc44 hz5 he4
              go_wp2_with fail
              refine HS5.out.mono ?_
              rintro e w6 ⟨rfl, hp6, hg6⟩
              have HP6 := Lib.hid hp6
              have HG6 := Lib.hid hg6
              clear hp6 hg6
              go_wp2_with fail
              go_roundg (l3.length + 1)
              case rel =>
                refine ⟨u :: l3, ss ++ [nmOf x], HP6.out, HE4.out, by simp, ?_, only_trans HGR4.out HG6.out, HO4.out.kept HG6.out (by
                  cases hv : v'.ownBlock with
                  | none => exact .inl rfl
                  | some g => exact .inr (fun e => by injection e with e; have := (HO4.out.lt g hv).1; omega)), HR.out⟩
                simp only [List.length_append, List.length_cons, List.length_nil] at hln ⊢; omega
              case measure => simp only [List.length_cons] at hlk; omega
            · have HS5 := Lib.hid (symbol_no P y' lt ⟨#[44]⟩ w5 HP4.out (sym_no hc44 l44))
              have HR : Hid (argsL (y :: z :: l2) = (none, y' :: lt)) := Lib.hid (by rw [HA2.out, HCONT.out, namesL_stop HX.out H41b.out hc44]; rfl)
              clear hc44
              go_wp2_with fail
              refine HS5.out.mono ?_
              rintro e w6 ⟨rfl, rfl⟩
              go_wp2_with fail
              go_ret2
              refine ⟨_, HP4.out, HE3.out, ?_, HGR4.out, .inr ⟨HR.out, rfl⟩⟩
              simp only [List.length_cons] at hln ⊢; omega
        · have HN := Lib.hid (name_no P x lr wr HPB.out hx)
          have HR : Hid (argsL (y :: z :: l2) = (none, x :: lr)) := Lib.hid (by rw [HA2.out, HCONT.out, namesL_bad hx]; rfl)
          clear hx
          go_wp2_with fail
          refine HN.out.mono ?_
          rintro e w3 ⟨rfl, rfl⟩
          go_wp2_with fail
          go_ret2
          refine ⟨_, HPB.out, HEK.out, ?_, HGR.out, .inr ⟨HR.out, rfl⟩⟩
          simp only [List.length_cons] at hln ⊢; omega
  · have HS := Lib.hid (symbol_no P y l ⟨#[40]⟩ w HP.out (sym_no h40 l40))
    have HR : Hid (argsL (y :: l) = (none, y :: l)) := Lib.hid (by rw [argsL, if_neg h40])
    clear h40
    go_enter Tryd.func146, Tryd.ntmps146
    go_wp2_with fail
    refine HS.out.mono ?_
    rintro e w1 ⟨rfl, rfl⟩
    go_wp2_with fail
    go_ret2
    exact ⟨_, HP.out, HE.out, Nat.le_refl _, ⟨rfl, rfl, rfl, Nat.le_refl _, fun _ _ _ => rfl⟩, .inr ⟨HR.out, rfl⟩⟩
end Go.Proofs.YthbcfcbonmphfaaDoor
