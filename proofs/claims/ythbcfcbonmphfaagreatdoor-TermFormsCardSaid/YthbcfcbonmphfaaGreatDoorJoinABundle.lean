/- Walks: digits, and what is appended for a token. -/
import Derived.Test.YthbcfcbonmphfaaGreatDoorJoinSBundle
import Derived.Test.YthbcfcbonmphfaaGreatDoorLexGBundle
import Derived.OwnWalk
import Derived.Deep.Onto
import Derived.Deep.AppendLies
import Derived.Lib.AppendStr
/- Tokens that are joined are read again: plain functions, no program text. -/
namespace Go.Proofs.YthbcfcbonmphfaaGreatDoor
set_option maxRecDepth 100000

theorem toks_of_skip (l l' : List UInt8) (a b a' b' : Int) (h : skip l a b = skip l' a' b') (hle : l'.length ≤ l.length) : toks l a b = toks l' a' b' := by
  unfold toks
  rw [toksF, toksF, h]
  cases ht : tokOf (skip l' a' b').1 with
  | none => rfl
  | some x =>
    obtain ⟨k, t, n, len⟩ := x
    simp only
    split
    · rfl
    · rename_i hk
      have hl := tokOf_len _ _ _ _ _ ht
      have hs := skip_len l' a' b'
      have := hl.2 hk
      rw [toksF_fuel l.length l'.length _ _ _ (by simp; omega) (by simp; omega)]
theorem toks_sp (l : List UInt8) (a b : Int) : toks (32 :: l) a b = toks l a (b + 1) :=
  toks_of_skip _ _ _ _ _ _ (skip_1 32 l a b (by decide)) (by simp)

/-- Nothing, or a space. -/
def Sep (l : List UInt8) : Prop := l = [] ∨ ∃ l', l = 32 :: l'
theorem takeWhile_all_app (p : UInt8 → Bool) : ∀ (w l : List UInt8), w.all p = true → l.takeWhile p = [] → (w ++ l).takeWhile p = w
  | [], _, _, h => h
  | c :: w, l, h, h2 => by
    rw [List.all_cons, Bool.and_eq_true] at h
    rw [List.cons_append, List.takeWhile_cons_of_pos h.1, takeWhile_all_app p w l h.2 h2]
theorem sep_takeWhile (l : List UInt8) (h : Sep l) : l.takeWhile isW = [] := by
  rcases h with rfl | ⟨l', rfl⟩
  · rfl
  · exact List.takeWhile_cons_of_neg (by decide)
theorem wl_app (w l : List UInt8) (hw : w.all isW = true) (h : Sep l) : wl (w ++ l) = w.length := by
  unfold wl
  rw [takeWhile_all_app isW w l hw (sep_takeWhile l h)]
theorem tokOf_wordApp (w l : List UInt8) (hw : w.all isW = true) (h0 : 0 < w.length) (h : Sep l) : tokOf (w ++ l) = (wordTok w).map fun x => (x.1, x.2.1, x.2.2, w.length) := by
  unfold tokOf
  rw [if_neg, wl_app w l hw h, if_pos h0, List.take_left]
  intro e
  have := congrArg List.length e
  simp at this
  rw [this.1] at h0
  exact absurd h0 (by decide)
theorem kws_ok : kws.all (fun k => k.all isW && decide (0 < k.length) && (k[0]?.any fun c => decide (cls c.toNat = 4))) = true := by decide +kernel
theorem isKw_ok (s : List UInt8) (h : isKw s = true) : s.all isW = true ∧ 0 < s.length ∧ (s[0]?.any fun c => decide (cls c.toNat = 4)) = true := by
  obtain ⟨k, hk, he⟩ := List.any_eq_true.1 h
  have e : s = k := by simpa using he
  have := List.all_eq_true.1 kws_ok k hk
  rw [← e] at this
  simp only [Bool.and_eq_true, decide_eq_true_eq] at this
  exact ⟨this.1.1, this.1.2, this.2⟩
theorem isName_ok (s : List UInt8) (h : isName s = true) : s.all isW = true ∧ 0 < s.length ∧ (s[0]?.any fun c => decide (cls c.toNat = 4)) = true ∧ isKw s = false := by
  unfold isName at h
  simp only [Bool.and_eq_true, decide_eq_true_eq, Bool.not_eq_true'] at h
  exact ⟨h.1.2, h.1.1.1.1, h.1.1.2, h.2⟩
theorem tokOf_kwApp (s l : List UInt8) (h : isKw s = true) (hl : Sep l) : tokOf (s ++ l) = some (3, s, 0, s.length) := by
  have hk := isKw_ok s h
  rw [tokOf_wordApp s l hk.1 hk.2.1 hl]
  unfold wordTok
  rw [if_pos h]; rfl
theorem tokOf_nameApp (s l : List UInt8) (h : isName s = true) (hl : Sep l) : tokOf (s ++ l) = some (1, s, 0, s.length) := by
  have hk := isName_ok s h
  rw [tokOf_wordApp s l hk.1 hk.2.1 hl]
  unfold wordTok
  rw [if_neg (by rw [hk.2.2.2]; exact Bool.false_ne_true), if_pos h]; rfl
theorem tokOf_symApp (s l : List UInt8) (h : isSym s = true) (hl : Sep l) : tokOf (s ++ l) = some (4, s, 0, s.length) := by
  obtain ⟨k, hk, he⟩ := List.any_eq_true.1 h
  have e : s = k := by simpa using he
  subst e
  simp only [syms, List.mem_cons, List.not_mem_nil, or_false] at hk
  rcases hl with rfl | ⟨l', rfl⟩
  · rcases hk with rfl | rfl | rfl | rfl | rfl | rfl | rfl | rfl | rfl | rfl | rfl | rfl | rfl | rfl | rfl | rfl | rfl | rfl | rfl | rfl | rfl <;> rfl
  · rcases hk with rfl | rfl | rfl | rfl | rfl | rfl | rfl | rfl | rfl | rfl | rfl | rfl | rfl | rfl | rfl | rfl | rfl | rfl | rfl | rfl | rfl <;> rfl
theorem sym_head (s : List UInt8) (h : isSym s = true) : s[0]?.any (fun c => decide (cls c.toNat = 0)) = true ∧ 0 < s.length := by
  obtain ⟨k, hk, he⟩ := List.any_eq_true.1 h
  have e : s = k := by simpa using he
  subst e
  have ok : syms.all (fun k => k[0]?.any (fun c => decide (cls c.toNat = 0)) && decide (0 < k.length)) = true := by decide +kernel
  have := List.all_eq_true.1 ok s hk
  simpa using this

/-! Digits. -/
theorem numGo_app : ∀ (a b : List UInt8) (m : Nat), numGo (a ++ b) m = (numGo a m).bind (numGo b)
  | [], _, _ => rfl
  | c :: a, b, m => by
    rw [List.cons_append, numGo, numGo]
    split
    · split
      · exact numGo_app a b _
      · rfl
    · rfl
theorem digit_toNat (m : Nat) (h : m < 10) : (UInt8.ofNat (48 + m)).toNat = 48 + m := by rw [UInt8.toNat_ofNat']; omega
theorem digit_cls (m : Nat) (h : m < 10) : cls ((UInt8.ofNat (48 + m)).toNat : Int) = 5 := by rw [digit_toNat m h, cls_5]; omega
theorem numGo_one (m p : Nat) (h : m < 10) (hp : 10 * p + m ≤ 1099511627776) : numGo [UInt8.ofNat (48 + m)] p = some (10 * p + m) := by
  rw [numGo, if_pos (digit_cls m h), digit_toNat m h, if_pos (by omega), numGo]
  congr 1; omega
theorem numGo_dec : ∀ (k n : Nat), n < 10 ^ k → 0 < k → n ≤ 1099511627776 → numGo (decF k n) 0 = some n
  | 0, _, _, h, _ => absurd h (by decide)
  | k + 1, n, hn, _, hb => by
    unfold decF
    split
    · rename_i h
      rw [numGo_one n 0 h (by omega)]; congr 1; omega
    · rename_i h
      have hk : 0 < k := by
        rcases Nat.eq_zero_or_pos k with h0 | h0
        · subst h0; simp at hn; omega
        · exact h0
      rw [numGo_app, numGo_dec k (n / 10) (Nat.div_lt_of_lt_mul (by rw [Nat.pow_succ] at hn; omega)) hk (by omega)]
      show numGo [UInt8.ofNat (48 + n % 10)] (n / 10) = some n
      rw [numGo_one (n % 10) (n / 10) (by omega) (by omega)]; congr 1; omega
theorem dec_all : ∀ (k n : Nat), (decF k n).all (fun c => decide (cls c.toNat = 5)) = true
  | 0, _ => rfl
  | k + 1, n => by
    unfold decF
    split
    · rename_i h
      show (decide (cls ((UInt8.ofNat (48 + n)).toNat : Int) = 5) && true) = true
      rw [decide_eq_true (digit_cls n h)]; rfl
    · rw [List.all_append, dec_all k]
      show (true && (decide (cls ((UInt8.ofNat (48 + n % 10)).toNat : Int) = 5) && true)) = true
      rw [decide_eq_true (digit_cls (n % 10) (by omega))]; rfl
theorem dec_pos : ∀ (k n : Nat), 0 < k → 0 < (decF k n).length
  | 0, _, h => absurd h (by decide)
  | k + 1, n, _ => by unfold decF; split <;> simp
theorem dec_head : ∀ (k n : Nat), n < 10 ^ k → 0 < n → (decF k n)[0]? ≠ some 48
  | 0, n, h, h0 => by simp at h; omega
  | k + 1, n, hn, h0 => by
    unfold decF
    split
    · rename_i h
      simp only [List.getElem?_cons_zero]
      intro e
      have := congrArg UInt8.toNat (Option.some.inj e)
      rw [digit_toNat n h] at this
      have e48 : (48 : UInt8).toNat = 48 := rfl
      omega
    · rename_i h
      have hk : 0 < k := by
        rcases Nat.eq_zero_or_pos k with h0 | h0
        · subst h0; simp at hn; omega
        · exact h0
      rw [List.getElem?_append_left (dec_pos k _ hk)]
      exact dec_head k (n / 10) (Nat.div_lt_of_lt_mul (by rw [Nat.pow_succ] at hn; omega)) (by omega)
theorem dec_len1 (k n : Nat) (h : n < 10) : (decF (k + 1) n).length = 1 := by rw [decF, if_pos h]; rfl
theorem number_dec (n : Nat) (hb : n ≤ 1099511627776) : number (dec n) = some n := by
  have hn : n < 10 ^ 13 := Nat.lt_of_le_of_lt hb (by decide)
  unfold number dec
  rw [if_neg, numGo_dec 13 n hn (by decide) hb]
  rintro ⟨h1, h2⟩
  rcases Nat.eq_zero_or_pos n with h0 | h0
  · subst h0; rw [dec_len1 12 0 (by decide)] at h1; omega
  · exact dec_head 13 n hn h0 h2
theorem dec_word (n : Nat) : (dec n).all isW = true := by
  have h := dec_all 13 n
  unfold dec
  rw [List.all_eq_true] at h ⊢
  intro c hc
  have := h c hc
  unfold isW
  rw [isWI_iff]
  right; left
  simpa using this
theorem dec_cls0 (n : Nat) : (dec n)[0]?.any (fun c => decide (cls c.toNat = 5)) = true := by
  have h := dec_all 13 n
  have hp := dec_pos 13 n (by decide)
  unfold dec
  rw [List.getElem?_eq_getElem hp]
  exact List.all_eq_true.1 h _ (List.getElem_mem hp)
theorem dec_noKw (n : Nat) : isKw (dec n) = false := by
  rw [Bool.eq_false_iff]
  intro h
  have h4 := (isKw_ok _ h).2.2
  have h5 := dec_cls0 n
  cases hx : (dec n)[0]? with
  | none => rw [hx] at h5; simp at h5
  | some c => rw [hx] at h4 h5; simp at h4 h5; omega
theorem dec_noName (n : Nat) : isName (dec n) = false := by
  rw [Bool.eq_false_iff]
  intro h
  have h4 := (isName_ok _ h).2.2.1
  have h5 := dec_cls0 n
  cases hx : (dec n)[0]? with
  | none => rw [hx] at h5; simp at h5
  | some c => rw [hx] at h4 h5; simp at h4 h5; omega
theorem tokOf_intApp (n : Nat) (l : List UInt8) (hb : n ≤ 1099511627776) (hl : Sep l) : tokOf (dec n ++ l) = some (2, [], (n : Int), (dec n).length) := by
  rw [tokOf_wordApp (dec n) l (dec_word n) (dec_pos 13 n (by decide)) hl]
  unfold wordTok
  rw [if_neg (by rw [dec_noKw]; exact Bool.false_ne_true), if_neg (by rw [dec_noName]; exact Bool.false_ne_true), number_dec n hb]
  rfl

/-- A token's text is read as that token. -/
theorem tok_read (t : Tk) (l : List UInt8) (hv : validT t.k t.t t.n = true) (h5 : t.k ≠ 5) (hl : Sep l) :
    tokOf (tkText t ++ l) = some (t.k, t.t, t.n, (tkText t).length) ∧ ∃ c r, tkText t = c :: r ∧ cls (c.toNat : Int) ≠ 1 ∧ cls (c.toNat : Int) ≠ 2 ∧ cls (c.toNat : Int) ≠ 3 := by
  have head : ∀ (s : List UInt8) (v : Int), s[0]?.any (fun c => decide (cls c.toNat = v)) = true → (v = 0 ∨ v = 4 ∨ v = 5) → ∃ c r, s = c :: r ∧ cls (c.toNat : Int) ≠ 1 ∧ cls (c.toNat : Int) ≠ 2 ∧ cls (c.toNat : Int) ≠ 3 := by
    intro s v h hv
    cases s with
    | nil => simp at h
    | cons c r => simp at h; exact ⟨c, r, rfl, by omega, by omega, by omega⟩
  unfold validT at hv
  by_cases k1 : t.k = 1
  · rw [if_pos k1] at hv
    have hn : isName t.t = true ∧ t.n = 0 := by simpa using hv
    have e : tkText t = t.t := by unfold tkText; rw [if_neg (by omega)]
    rw [e, tokOf_nameApp t.t l hn.1 hl, k1, hn.2]
    exact ⟨rfl, head _ 4 (isName_ok _ hn.1).2.2.1 (by omega)⟩
  · rw [if_neg k1] at hv
    by_cases k3 : t.k = 3
    · rw [if_pos k3] at hv
      have hn : isKw t.t = true ∧ t.n = 0 := by simpa using hv
      have e : tkText t = t.t := by unfold tkText; rw [if_neg (by omega)]
      rw [e, tokOf_kwApp t.t l hn.1 hl, k3, hn.2]
      exact ⟨rfl, head _ 4 (isKw_ok _ hn.1).2.2 (by omega)⟩
    · rw [if_neg k3] at hv
      by_cases k4 : t.k = 4
      · rw [if_pos k4] at hv
        have hn : isSym t.t = true ∧ t.n = 0 := by simpa using hv
        have e : tkText t = t.t := by unfold tkText; rw [if_neg (by omega)]
        rw [e, tokOf_symApp t.t l hn.1 hl, k4, hn.2]
        exact ⟨rfl, head _ 0 (sym_head _ hn.1).1 (by omega)⟩
      · rw [if_neg k4] at hv
        by_cases k2 : t.k = 2
        · rw [if_pos k2] at hv
          have hn : (t.t = [] ∧ 0 ≤ t.n) ∧ t.n ≤ 1099511627776 := by simpa using hv
          obtain ⟨m, hm⟩ := Int.eq_ofNat_of_zero_le hn.1.2
          have e : tkText t = dec m := by unfold tkText; rw [if_pos k2, hm, Int.toNat_natCast]
          rw [e, tokOf_intApp m l (by omega) hl, k2, hn.1.1, hm]
          exact ⟨rfl, head _ 5 (dec_cls0 m) (by omega)⟩
        · rw [if_neg k2] at hv
          rw [if_neg h5] at hv
          cases hv

def txt : List Tk → Bool → List UInt8
  | [], _ => []
  | t :: L, f => if t.k = 5 then [] else (if f then [] else [32]) ++ (tkText t ++ txt L false)
theorem txt_sep : ∀ (L : List Tk), Sep (txt L false)
  | [] => .inl rfl
  | t :: L => by
    unfold txt
    split
    · exact .inl rfl
    · exact .inr ⟨_, rfl⟩
theorem jgo_txt : ∀ (L : List Tk) (f : Bool) (acc x : List UInt8), acc.length ≤ 65536 → jgo L f acc = some x → x = acc ++ txt L f ∧ x.length ≤ 65536
  | [], f, acc, x, ha, h => by unfold jgo at h; unfold txt; simp at h; subst h; simp; exact ha
  | t :: L, f, acc, x, ha, h => by
    unfold jgo at h
    unfold txt
    split at h
    · rename_i h5
      rw [if_pos h5]
      simp at h; subst h; simp; exact ha
    · rename_i h5
      rw [if_neg h5]
      by_cases hle : 65536 < ((acc ++ (if f then [] else [32])) ++ tkText t).length
      · rw [if_pos hle] at h; cases h
      · rw [if_neg hle] at h
        obtain ⟨e, hl⟩ := jgo_txt L false _ x (by omega) h
        refine ⟨?_, hl⟩
        rw [e]; simp
def kt (t : Tk) : Int × List UInt8 × Int := (t.k, t.t, t.n)
/-- The tokens, with an end behind them. -/
def endsL : List Tk → List (Int × List UInt8 × Int)
  | [] => [(5, [], 0)]
  | t :: L => if t.k = 5 then [(5, [], 0)] else kt t :: endsL L
theorem toks_txt : ∀ (L : List Tk) (f : Bool) (a b : Int), (∀ t ∈ L, validT t.k t.t t.n = true) → ∃ r, toks (txt L f) a b = .ok r ∧ r.map kt = endsL L
  | [], f, a, b, _ => ⟨[⟨5, [], 0, a, b⟩], rfl, rfl⟩
  | t :: L, f, a, b, hv => by
    unfold txt endsL
    by_cases h5 : t.k = 5
    · rw [if_pos h5, if_pos h5]
      exact ⟨[⟨5, [], 0, a, b⟩], rfl, rfl⟩
    · rw [if_neg h5, if_neg h5]
      obtain ⟨hr, c, r, hc, c1, c2, c3⟩ := tok_read t (txt L false) (hv t (List.mem_cons_self ..)) h5 (txt_sep L)
      have core : ∀ b, ∃ r, toks (tkText t ++ txt L false) a b = .ok r ∧ r.map kt = kt t :: endsL L := by
        intro b
        have hsk : skip (tkText t ++ txt L false) a b = (tkText t ++ txt L false, a, b) := by
          rw [hc, List.cons_append]; exact skip_0 _ _ _ _ c1 c2 c3
        obtain ⟨r', hr', hm⟩ := toks_txt L false a (b + (tkText t).length) (fun u hu => hv u (List.mem_cons_of_mem _ hu))
        rw [toks_step _ _ _ _ _ _ hsk t.k t.t t.n _ h5 hr, List.drop_left, hr']
        exact ⟨_, rfl, by simp [kt, hm]⟩
      cases f
      · show ∃ r, toks (32 :: (tkText t ++ txt L false)) a b = .ok r ∧ _
        rw [toks_sp]
        exact core _
      · exact core _
theorem jval_valid (L : List Tk) (h : jval L = true) : ∀ t ∈ L, validT t.k t.t t.n = true := by
  intro t ht
  obtain ⟨i, hi, rfl⟩ := List.mem_iff_getElem.1 ht
  have := List.all_eq_true.1 h i (List.mem_range.2 hi)
  rw [List.getElem?_eq_getElem hi] at this
  have h2 : tkOk L i L[i] = true := this
  unfold tkOk at h2
  rw [Bool.and_eq_true] at h2
  exact h2.1
/-- What is joined is read again, with an end behind it. -/
theorem back (L : List Tk) (x : List UInt8) (h : jval L = true) (hg : jgo L true [] = some x) : x.length ≤ 65536 ∧ ∃ r, toks x 1 1 = .ok r ∧ r.map kt = endsL L := by
  obtain ⟨e, hl⟩ := jgo_txt L true [] x (by simp) hg
  rw [List.nil_append] at e
  rw [e] at hl ⊢
  exact ⟨hl, toks_txt L true 1 1 (jval_valid L h)⟩
end Go.Proofs.YthbcfcbonmphfaaGreatDoor

/- The reference's way to the tokens, as plain functions: no program text. -/
namespace Go.Proofs.YthbcfcbonmphfaaGreatDoor
set_option maxRecDepth 100000

def pre (l s : List UInt8) : Bool := decide (l.length ≤ s.length) && (s.take l.length == l)
theorem syms_split : syms = pairsL ++ singles.map fun c => [c] := by rfl
theorem noPair_of (s : List UInt8) (h : ∀ (j : Nat) (l : List UInt8), j < 4 → syms[j]? = some l → pre l s = false) : (decide (2 ≤ s.length) && pairsL.any fun p => s.take 2 == p) = false := by
  cases hd : decide (2 ≤ s.length)
  · rfl
  · have h2 : 2 ≤ s.length := by simpa using hd
    rw [Bool.true_and, List.any_eq_false]
    intro p hp
    have a0 := h 0 [61, 61] (by omega) rfl
    have a1 := h 1 [33, 61] (by omega) rfl
    have a2 := h 2 [60, 61] (by omega) rfl
    have a3 := h 3 [45, 62] (by omega) rfl
    unfold pre at a0 a1 a2 a3
    simp only [List.length_cons, List.length_nil, Nat.zero_add, Nat.reduceAdd, hd, Bool.true_and] at a0 a1 a2 a3
    simp only [pairsL, List.mem_cons, List.not_mem_nil, or_false] at hp
    rcases hp with rfl | rfl | rfl | rfl
    · rw [a0]; exact Bool.false_ne_true
    · rw [a1]; exact Bool.false_ne_true
    · rw [a2]; exact Bool.false_ne_true
    · rw [a3]; exact Bool.false_ne_true
theorem sym_single (s : List UInt8) (k : Nat) (l : List UInt8) (hk : 4 ≤ k) (h : syms[k]? = some l) : ∃ c, l = [c] ∧ singles.contains c = true := by
  rw [syms_split, List.getElem?_append_right (by simpa [pairsL] using hk), List.getElem?_map] at h
  cases hx : singles[k - pairsL.length]? with
  | none => rw [hx] at h; cases h
  | some c =>
    rw [hx] at h
    exact ⟨c, by simpa using h.symm, by simpa using List.mem_of_getElem? hx⟩
theorem first_sym (s : List UInt8) (k : Nat) (l : List UInt8) (h : syms[k]? = some l) (hno : ∀ (j : Nat) (l' : List UInt8), j < k → syms[j]? = some l' → pre l' s = false) (hp : pre l s = true) : l = s.take (symLen s) ∧ 0 < symLen s := by
  unfold pre at hp
  rw [Bool.and_eq_true] at hp
  have hlen : l.length ≤ s.length := by simpa using hp.1
  have htake : s.take l.length = l := by simpa using hp.2
  rcases Nat.lt_or_ge k 4 with hk | hk
  · have hl : l ∈ pairsL ∧ l.length = 2 := by
      rw [syms_split, List.getElem?_append_left (by simpa [pairsL] using hk)] at h
      have hm := List.mem_of_getElem? h
      have ok : pairsL.all (fun p => decide (p.length = 2)) = true := by rfl
      exact ⟨hm, by simpa using List.all_eq_true.1 ok l hm⟩
    have hc : (decide (2 ≤ s.length) && pairsL.any fun p => s.take 2 == p) = true := by
      rw [Bool.and_eq_true]
      refine ⟨by simp; omega, List.any_eq_true.2 ⟨l, hl.1, ?_⟩⟩
      rw [hl.2] at htake
      simpa using htake
    unfold symLen
    rw [if_pos hc]
    rw [hl.2] at htake
    exact ⟨htake.symm, by omega⟩
  · obtain ⟨c, rfl, hc⟩ := sym_single s k l hk h
    have hn := noPair_of s (fun j l' hj hl' => hno j l' (by omega) hl')
    unfold symLen
    rw [if_neg (by rw [hn]; exact Bool.false_ne_true)]
    have h0 : s[0]? = some c := by
      cases s with
      | nil => simp at hlen
      | cons x r => simp at htake; rw [htake]; rfl
    rw [h0]
    rw [if_pos (show (some c).any (fun c => singles.contains c) = true from hc)]
    exact ⟨htake.symm, by omega⟩
theorem no_sym (s : List UInt8) (hno : ∀ (j : Nat) (l' : List UInt8), syms[j]? = some l' → pre l' s = false) : symLen s = 0 := by
  have hn := noPair_of s (fun j l' _ hl' => hno j l' hl')
  unfold symLen
  rw [if_neg (by rw [hn]; exact Bool.false_ne_true), if_neg]
  intro h
  cases hx : s[0]? with
  | none => rw [hx] at h; simp at h
  | some c =>
    rw [hx] at h
    have hc : singles.contains c = true := by simpa using h
    have hm : c ∈ singles := by simpa using hc
    obtain ⟨i, hi, rfl⟩ := List.mem_iff_getElem.1 hm
    have h4 : syms[4 + i]? = some [singles[i]] := by
      rw [syms_split, List.getElem?_append_right (by simp [pairsL]), List.getElem?_map]
      have e : 4 + i - pairsL.length = i := by simp [pairsL]
      rw [e, List.getElem?_eq_getElem hi]; rfl
    have := hno _ _ h4
    unfold pre at this
    cases s with
    | nil => simp at hx
    | cons x r =>
      simp at hx
      rw [hx] at this
      simp at this

theorem toks_1 (c : UInt8) (l : List UInt8) (a b : Int) (h : cls (c.toNat : Int) = 1) : toks (c :: l) a b = toks l a (b + 1) := toks_of_skip _ _ _ _ _ _ (skip_1 c l a b h) (by simp)
theorem toks_2 (c : UInt8) (l : List UInt8) (a b : Int) (h : cls (c.toNat : Int) = 2) : toks (c :: l) a b = toks l (a + 1) 1 := toks_of_skip _ _ _ _ _ _ (skip_2 c l a b h) (by simp)
theorem toks_3 (c : UInt8) (l : List UInt8) (a b : Int) (h : cls (c.toNat : Int) = 3) : toks (c :: l) a b = toks ((c :: l).drop (cl (c :: l))) a (b + cl (c :: l)) := toks_of_skip _ _ _ _ _ _ (skip_3 c l a b h) (by simp)
end Go.Proofs.YthbcfcbonmphfaaGreatDoor
/- Tokens with gaps between them are read again, and their places ascend: plain functions, no program text. -/
namespace Go.Proofs.YthbcfcbonmphfaaGreatDoor
set_option maxRecDepth 100000

/-- Nothing, or the first byte of a gap. -/
def Sep2 (l : List UInt8) : Prop := l = [] ∨ ∃ c l', l = c :: l' ∧ (c = 32 ∨ c = 10 ∨ c = 9 ∨ c = 35)
theorem sep2_takeWhile (l : List UInt8) (h : Sep2 l) : l.takeWhile isW = [] := by
  rcases h with rfl | ⟨c, l', rfl, hc⟩
  · rfl
  · rcases hc with rfl | rfl | rfl | rfl <;> exact List.takeWhile_cons_of_neg (by decide)
theorem wl_app2 (w l : List UInt8) (hw : w.all isW = true) (h : Sep2 l) : wl (w ++ l) = w.length := by
  unfold wl
  rw [takeWhile_all_app isW w l hw (sep2_takeWhile l h)]
theorem tokOf_wordApp2 (w l : List UInt8) (hw : w.all isW = true) (h0 : 0 < w.length) (h : Sep2 l) : tokOf (w ++ l) = (wordTok w).map fun x => (x.1, x.2.1, x.2.2, w.length) := by
  unfold tokOf
  rw [if_neg, wl_app2 w l hw h, if_pos h0, List.take_left]
  intro e
  have := congrArg List.length e
  simp at this
  rw [this.1] at h0
  exact absurd h0 (by decide)
theorem tokOf_kwApp2 (s l : List UInt8) (h : isKw s = true) (hl : Sep2 l) : tokOf (s ++ l) = some (3, s, 0, s.length) := by
  have hk := isKw_ok s h
  rw [tokOf_wordApp2 s l hk.1 hk.2.1 hl]
  unfold wordTok
  rw [if_pos h]; rfl
theorem tokOf_nameApp2 (s l : List UInt8) (h : isName s = true) (hl : Sep2 l) : tokOf (s ++ l) = some (1, s, 0, s.length) := by
  have hk := isName_ok s h
  rw [tokOf_wordApp2 s l hk.1 hk.2.1 hl]
  unfold wordTok
  rw [if_neg (by rw [hk.2.2.2]; exact Bool.false_ne_true), if_pos h]; rfl
theorem tokOf_symApp2 (s l : List UInt8) (h : isSym s = true) (hl : Sep2 l) : tokOf (s ++ l) = some (4, s, 0, s.length) := by
  obtain ⟨k, hk, he⟩ := List.any_eq_true.1 h
  have e : s = k := by simpa using he
  subst e
  simp only [syms, List.mem_cons, List.not_mem_nil, or_false] at hk
  rcases hl with rfl | ⟨c, l', rfl, hc⟩
  · rcases hk with rfl | rfl | rfl | rfl | rfl | rfl | rfl | rfl | rfl | rfl | rfl | rfl | rfl | rfl | rfl | rfl | rfl | rfl | rfl | rfl | rfl <;> rfl
  · rcases hc with rfl | rfl | rfl | rfl
    · rcases hk with rfl | rfl | rfl | rfl | rfl | rfl | rfl | rfl | rfl | rfl | rfl | rfl | rfl | rfl | rfl | rfl | rfl | rfl | rfl | rfl | rfl <;> rfl
    · rcases hk with rfl | rfl | rfl | rfl | rfl | rfl | rfl | rfl | rfl | rfl | rfl | rfl | rfl | rfl | rfl | rfl | rfl | rfl | rfl | rfl | rfl <;> rfl
    · rcases hk with rfl | rfl | rfl | rfl | rfl | rfl | rfl | rfl | rfl | rfl | rfl | rfl | rfl | rfl | rfl | rfl | rfl | rfl | rfl | rfl | rfl <;> rfl
    · rcases hk with rfl | rfl | rfl | rfl | rfl | rfl | rfl | rfl | rfl | rfl | rfl | rfl | rfl | rfl | rfl | rfl | rfl | rfl | rfl | rfl | rfl <;> rfl
theorem tokOf_intApp2 (n : Nat) (l : List UInt8) (hb : n ≤ 1099511627776) (hl : Sep2 l) : tokOf (dec n ++ l) = some (2, [], (n : Int), (dec n).length) := by
  rw [tokOf_wordApp2 (dec n) l (dec_word n) (dec_pos 13 n (by decide)) hl]
  unfold wordTok
  rw [if_neg (by rw [dec_noKw]; exact Bool.false_ne_true), if_neg (by rw [dec_noName]; exact Bool.false_ne_true), number_dec n hb]
  rfl

theorem tok_read2 (t : Tk) (l : List UInt8) (hv : validT t.k t.t t.n = true) (h5 : t.k ≠ 5) (hl : Sep2 l) :
    tokOf (tkText t ++ l) = some (t.k, t.t, t.n, (tkText t).length) ∧ ∃ c r, tkText t = c :: r ∧ cls (c.toNat : Int) ≠ 1 ∧ cls (c.toNat : Int) ≠ 2 ∧ cls (c.toNat : Int) ≠ 3 := by
  have head : ∀ (s : List UInt8) (v : Int), s[0]?.any (fun c => decide (cls c.toNat = v)) = true → (v = 0 ∨ v = 4 ∨ v = 5) → ∃ c r, s = c :: r ∧ cls (c.toNat : Int) ≠ 1 ∧ cls (c.toNat : Int) ≠ 2 ∧ cls (c.toNat : Int) ≠ 3 := by
    intro s v h hv
    cases s with
    | nil => simp at h
    | cons c r => simp at h; exact ⟨c, r, rfl, by omega, by omega, by omega⟩
  unfold validT at hv
  by_cases k1 : t.k = 1
  · rw [if_pos k1] at hv
    have hn : isName t.t = true ∧ t.n = 0 := by simpa using hv
    have e : tkText t = t.t := by unfold tkText; rw [if_neg (by omega)]
    rw [e, tokOf_nameApp2 t.t l hn.1 hl, k1, hn.2]
    exact ⟨rfl, head _ 4 (isName_ok _ hn.1).2.2.1 (by omega)⟩
  · rw [if_neg k1] at hv
    by_cases k3 : t.k = 3
    · rw [if_pos k3] at hv
      have hn : isKw t.t = true ∧ t.n = 0 := by simpa using hv
      have e : tkText t = t.t := by unfold tkText; rw [if_neg (by omega)]
      rw [e, tokOf_kwApp2 t.t l hn.1 hl, k3, hn.2]
      exact ⟨rfl, head _ 4 (isKw_ok _ hn.1).2.2 (by omega)⟩
    · rw [if_neg k3] at hv
      by_cases k4 : t.k = 4
      · rw [if_pos k4] at hv
        have hn : isSym t.t = true ∧ t.n = 0 := by simpa using hv
        have e : tkText t = t.t := by unfold tkText; rw [if_neg (by omega)]
        rw [e, tokOf_symApp2 t.t l hn.1 hl, k4, hn.2]
        exact ⟨rfl, head _ 0 (sym_head _ hn.1).1 (by omega)⟩
      · rw [if_neg k4] at hv
        by_cases k2 : t.k = 2
        · rw [if_pos k2] at hv
          have hn : (t.t = [] ∧ 0 ≤ t.n) ∧ t.n ≤ 1099511627776 := by simpa using hv
          obtain ⟨m, hm⟩ := Int.eq_ofNat_of_zero_le hn.1.2
          have e : tkText t = dec m := by unfold tkText; rw [if_pos k2, hm, Int.toNat_natCast]
          rw [e, tokOf_intApp2 m l (by omega) hl, k2, hn.1.1, hm]
          exact ⟨rfl, head _ 5 (dec_cls0 m) (by omega)⟩
        · rw [if_neg k2] at hv
          rw [if_neg h5] at hv
          cases hv


def gapL (j : Nat) : List UInt8 := if j = 0 then [32] else if j = 1 then [10] else if j = 2 then [9, 32, 13, 10] else if j = 3 then [32, 35, 32, 97, 32, 98, 10] else [35, 10, 35, 41, 32, 36, 10]
theorem gapL_cases (j : Nat) : gapL j = [32] ∨ gapL j = [10] ∨ gapL j = [9, 32, 13, 10] ∨ gapL j = [32, 35, 32, 97, 32, 98, 10] ∨ gapL j = [35, 10, 35, 41, 32, 36, 10] := by
  unfold gapL; (repeat' split) <;> simp
theorem gapL_sep (j : Nat) (l : List UInt8) : Sep2 (gapL j ++ l) := by
  rcases gapL_cases j with h | h | h | h | h <;> rw [h] <;> exact .inr ⟨_, _, rfl, by simp⟩
theorem gapL_len (j : Nat) : (gapL j).length ≤ 7 := by
  rcases gapL_cases j with h | h | h | h | h <;> rw [h] <;> decide
theorem toks_gap (j : Nat) (l : List UInt8) (a b : Int) : ∃ a' b', toks (gapL j ++ l) a b = toks l a' b' := by
  have c1 : ∀ (n : Nat) (l : List UInt8), n = 32 ∨ n = 9 ∨ n = 13 → ∀ a b, toks (UInt8.ofNat n :: l) a b = toks l a (b + 1) := fun n l hn a b => toks_1 _ l a b (by rcases hn with rfl | rfl | rfl <;> decide)
  have c2 : ∀ (l : List UInt8) a b, toks (10 :: l) a b = toks l (a + 1) 1 := fun l a b => toks_2 _ l a b (by decide)
  rcases gapL_cases j with h | h | h | h | h <;> rw [h]
  · exact ⟨_, _, toks_1 32 l a b (by decide)⟩
  · exact ⟨_, _, c2 l a b⟩
  · refine ⟨a + 1, 1, ?_⟩
    show toks (9 :: 32 :: 13 :: 10 :: l) a b = _
    rw [toks_1 9 _ a b (by decide), toks_1 32 _ a _ (by decide), toks_1 13 _ a _ (by decide), c2]
  · refine ⟨a + 1, 1, ?_⟩
    show toks (32 :: 35 :: 32 :: 97 :: 32 :: 98 :: 10 :: l) a b = _
    rw [toks_1 32 _ a b (by decide), toks_3 35 _ a _ (by decide)]
    have e : cl (35 :: 32 :: 97 :: 32 :: 98 :: 10 :: l) = 5 := by rfl
    rw [e]
    exact c2 l a _
  · refine ⟨a + 1 + 1, 1, ?_⟩
    show toks (35 :: 10 :: 35 :: 41 :: 32 :: 36 :: 10 :: l) a b = _
    rw [toks_3 35 _ a _ (by decide)]
    have e : cl (35 :: 10 :: 35 :: 41 :: 32 :: 36 :: 10 :: l) = 1 := by rfl
    rw [e]
    show toks (10 :: 35 :: 41 :: 32 :: 36 :: 10 :: l) a _ = _
    rw [c2, toks_3 35 _ _ _ (by decide)]
    have e : cl (35 :: 41 :: 32 :: 36 :: 10 :: l) = 4 := by rfl
    rw [e]
    exact c2 l _ _

/-- The part of a token, without its gap. -/
def part (t : Tk) : List UInt8 := if t.k = 5 then [] else tkText t
/-- The tokens from the i-th on, each with its gap behind it. -/
def ptxt (g : Nat → Nat) : Nat → List Tk → List UInt8
  | _, [] => []
  | i, t :: L => part t ++ (gapL (g i) ++ ptxt g (i + 1) L)
/-- An end, and it is the last one. -/
def Ends : List Tk → Prop
  | [] => False
  | t :: L => if t.k = 5 then L = [] else Ends L
theorem toks_ptxt (g : Nat → Nat) : ∀ (L : List Tk) (i : Nat) (a b : Int), (∀ t ∈ L, validT t.k t.t t.n = true) → Ends L → ∃ r, toks (ptxt g i L) a b = .ok r ∧ r.map kt = L.map kt
  | [], _, _, _, _, h => h.elim
  | t :: L, i, a, b, hv, he => by
    unfold ptxt part
    unfold Ends at he
    by_cases h5 : t.k = 5
    · rw [if_pos h5] at he ⊢
      subst he
      obtain ⟨a', b', h⟩ := toks_gap (g i) [] a b
      have hvt := hv t (List.mem_cons_self ..)
      unfold validT at hvt
      rw [h5] at hvt
      have hn : t.t = [] ∧ t.n = 0 := by simpa using hvt
      refine ⟨[⟨5, [], 0, a', b'⟩], ?_, ?_⟩
      · unfold ptxt; rw [List.nil_append, h]; rfl
      · simp [kt, h5, hn.1, hn.2]
    · rw [if_neg h5] at he ⊢
      obtain ⟨hr, c, r, hc, c1, c2, c3⟩ := tok_read2 t (gapL (g i) ++ ptxt g (i + 1) L) (hv t (List.mem_cons_self ..)) h5 (gapL_sep _ _)
      have hsk : skip (tkText t ++ (gapL (g i) ++ ptxt g (i + 1) L)) a b = (tkText t ++ (gapL (g i) ++ ptxt g (i + 1) L), a, b) := by
        rw [hc, List.cons_append]; exact skip_0 _ _ _ _ c1 c2 c3
      obtain ⟨a', b', h⟩ := toks_gap (g i) (ptxt g (i + 1) L) a (b + (tkText t).length)
      obtain ⟨r', hr', hm⟩ := toks_ptxt g L (i + 1) a' b' (fun u hu => hv u (List.mem_cons_of_mem _ hu)) he
      rw [toks_step _ _ _ _ _ _ hsk t.k t.t t.n _ h5 hr, List.drop_left, h, hr']
      exact ⟨_, rfl, by simp [kt, hm]⟩

/-! Places. -/
def Asc : Int → Int → List Tk → Prop
  | _, _, [] => True
  | a, b, t :: r => (a < t.a ∨ (a = t.a ∧ b ≤ t.b)) ∧ 1 ≤ t.a ∧ 1 ≤ t.b ∧ Asc t.a (t.b + 1) r
theorem Asc.mono {r : List Tk} {a b b' : Int} (h : Asc a b r) (hb : b' ≤ b) : Asc a b' r := by
  cases r with
  | nil => trivial
  | cons t r =>
    obtain ⟨h1, h2⟩ := h
    exact ⟨by omega, h2⟩
theorem skipF_asc : ∀ (f : Nat) (l : List UInt8) (a b : Int), 1 ≤ a → 1 ≤ b → 1 ≤ (skipF f l a b).2.1 ∧ 1 ≤ (skipF f l a b).2.2 ∧ (a < (skipF f l a b).2.1 ∨ (a = (skipF f l a b).2.1 ∧ b ≤ (skipF f l a b).2.2))
  | 0, _, a, b, h1, h2 => ⟨h1, h2, .inr ⟨rfl, Int.le_refl _⟩⟩
  | _ + 1, [], a, b, h1, h2 => ⟨h1, h2, .inr ⟨rfl, Int.le_refl _⟩⟩
  | f + 1, c :: l, a, b, h1, h2 => by
    unfold skipF
    split
    · have := skipF_asc f l a (b + 1) h1 (by omega); omega
    · split
      · have := skipF_asc f l (a + 1) 1 (by omega) (by omega); omega
      · split
        · have := skipF_asc f ((c :: l).drop (cl (c :: l))) a (b + cl (c :: l)) h1 (by omega); omega
        · exact ⟨h1, h2, .inr ⟨rfl, Int.le_refl _⟩⟩
theorem sym_isSym (l : List UInt8) (h : 0 < symLen l) : isSym (l.take (symLen l)) = true := by
  have hin : l.take (symLen l) ∈ syms := by
    rw [syms_split]
    unfold symLen at h ⊢
    split at h
    · rename_i h1
      rw [if_pos h1]
      rw [Bool.and_eq_true] at h1
      obtain ⟨p, hp, he⟩ := List.any_eq_true.1 h1.2
      have e : l.take 2 = p := by simpa using he
      rw [e]
      exact List.mem_append_left _ hp
    · rename_i h1
      rw [if_neg h1]
      split at h
      · rename_i h2
        rw [if_pos h2]
        cases l with
        | nil => simp at h2
        | cons c l =>
          have hc : c ∈ singles := by simpa using h2
          exact List.mem_append_right _ (List.mem_map.2 ⟨c, hc, rfl⟩)
      · omega
  exact List.any_eq_true.2 ⟨_, hin, by simp⟩
theorem wordTok_valid (w : List UInt8) (k : Int) (t : List UInt8) (n : Int) (h : wordTok w = some (k, t, n)) : validT k t n = true ∧ t.length ≤ w.length := by
  unfold wordTok at h
  split at h
  · rename_i hk
    simp at h; obtain ⟨rfl, rfl, rfl⟩ := h
    exact ⟨by unfold validT; simp [hk], Nat.le_refl _⟩
  · split at h
    · rename_i hn
      simp at h; obtain ⟨rfl, rfl, rfl⟩ := h
      exact ⟨by unfold validT; simp [hn], Nat.le_refl _⟩
    · cases hx : number w with
      | none => rw [hx] at h; simp at h
      | some m =>
        rw [hx] at h
        simp at h; obtain ⟨rfl, rfl, rfl⟩ := h
        have := number_le w m hx
        exact ⟨by unfold validT; simp; omega, by simp⟩
theorem tokOf_valid (l : List UInt8) (k : Int) (t : List UInt8) (n : Int) (len : Nat) (h : tokOf l = some (k, t, n, len)) : validT k t n = true ∧ t.length ≤ len := by
  unfold tokOf at h
  split at h
  · simp at h; obtain ⟨rfl, rfl, rfl, rfl⟩ := h
    exact ⟨by decide, by simp⟩
  · split at h
    · simp only [Option.map_eq_some_iff] at h
      obtain ⟨⟨k', t', n'⟩, hx, h⟩ := h
      simp at h; obtain ⟨rfl, rfl, rfl, rfl⟩ := h
      have := wordTok_valid _ _ _ _ hx
      refine ⟨this.1, ?_⟩
      have h2 := this.2
      rw [List.length_take] at h2
      omega
    · split at h
      · rename_i hs
        simp at h; obtain ⟨rfl, rfl, rfl, rfl⟩ := h
        refine ⟨?_, by rw [List.length_take]; omega⟩
        unfold validT
        simp [sym_isSym l hs]
      · cases h
/-- The lengths of the texts of all tokens. -/
def tlen : List Tk → Nat
  | [] => 0
  | t :: L => t.t.length + tlen L
theorem toksF_places : ∀ (f : Nat) (l : List UInt8) (a b : Int) (r : List Tk), toksF f l a b = .ok r → 1 ≤ a → 1 ≤ b → (∀ t ∈ r, validT t.k t.t t.n = true) ∧ Asc a b r ∧ Ends r ∧ tlen r ≤ l.length ∧ r.length ≤ l.length + 1
  | 0, _, _, _, _, h, _, _ => by simp [toksF] at h
  | f + 1, l, a, b, r, h, ha, hb => by
    unfold toksF at h
    have hs := skipF_asc l.length l a b ha hb
    have hsl := skip_len l a b
    change 1 ≤ (skip l a b).2.1 ∧ 1 ≤ (skip l a b).2.2 ∧ (a < (skip l a b).2.1 ∨ (a = (skip l a b).2.1 ∧ b ≤ (skip l a b).2.2)) at hs
    cases ht : tokOf (skip l a b).1 with
    | none => rw [ht] at h; simp at h
    | some x =>
      obtain ⟨k, t, n, len⟩ := x
      rw [ht] at h
      simp only at h
      have hv := tokOf_valid _ _ _ _ _ ht
      have hl := tokOf_len _ _ _ _ _ ht
      split at h
      · rename_i hk
        have e : r = [⟨5, [], 0, (skip l a b).2.1, (skip l a b).2.2⟩] := by simpa using h.symm
        subst e
        refine ⟨fun t ht => ?_, ⟨hs.2.2, hs.1, hs.2.1, trivial⟩, rfl, by simp [tlen], by simp⟩
        simp at ht; subst ht; exact (show validT 5 [] 0 = true by decide)
      · rename_i hk
        cases hr : toksF f ((skip l a b).1.drop len) (skip l a b).2.1 ((skip l a b).2.2 + len) with
        | error p => rw [hr] at h; simp at h
        | ok r' =>
          rw [hr] at h
          have e : r = ⟨k, t, n, (skip l a b).2.1, (skip l a b).2.2⟩ :: r' := by simpa using h.symm
          subst e
          have hlen := hl.2 hk
          have ih := toksF_places f _ _ _ r' hr hs.1 (by omega)
          rw [List.length_drop] at ih
          refine ⟨fun u hu => ?_, ⟨hs.2.2, hs.1, hs.2.1, ih.2.1.mono (show (skip l a b).2.2 + 1 ≤ (skip l a b).2.2 + (len : Int) by omega)⟩, ?_, ?_, ?_⟩
          · rcases List.mem_cons.1 hu with rfl | hu
            · exact hv.1
            · exact ih.1 u hu
          · unfold Ends; rw [if_neg hk]; exact ih.2.2.1
          · unfold tlen; show t.length + _ ≤ _; omega
          · rw [List.length_cons]; omega
theorem toks_places (l : List UInt8) (r : List Tk) (h : toks l 1 1 = .ok r) : (∀ t ∈ r, validT t.k t.t t.n = true) ∧ Asc 1 1 r ∧ Ends r ∧ tlen r ≤ l.length ∧ r.length ≤ l.length + 1 := toksF_places _ _ _ _ _ h (by decide) (by decide)
theorem ptxt_len (g : Nat → Nat) : ∀ (L : List Tk) (i : Nat), (ptxt g i L).length ≤ tlen L + 20 * L.length
  | [], _ => by simp [ptxt]
  | t :: L, i => by
    have ih := ptxt_len g L (i + 1)
    have hg := gapL_len (g i)
    have hp : (part t).length ≤ t.t.length + 13 := by
      unfold part tkText
      split
      · simp
      · split
        · have := decF_len 13 t.n.toNat
          show (dec _).length ≤ _
          unfold dec; omega
        · omega
    unfold ptxt tlen
    simp only [List.length_append, List.length_cons]
    omega
end Go.Proofs.YthbcfcbonmphfaaGreatDoor
namespace Go.Proofs.YthbcfcbonmphfaaGreatDoor
set_option maxRecDepth 100000
open Go.RowKit

def bsC (l : List UInt8) : List Value := l.map fun c => Value.int .u8 (c.toNat : Int)
theorem bsC_len (l : List UInt8) : (bsC l).length = l.length := by simp [bsC]
theorem bsC_app (a b : List UInt8) : bsC a ++ bsC b = bsC (a ++ b) := by simp [bsC]
theorem Tryz.infoByte : (Tryz.prog.info? 5).map (fun i => (i.zero, i.size, i.bytes)) = some (some (.int .u8 0), 1, 1) := by kernel_rfl
/-- What an append leaves: the value owns more; below the call's own blocks nothing has changed. -/
def AppPost (base : Nat) (xs : List UInt8) (w : World) (e : Ending) (w' : World) : Prop :=
  ∃ v', e = .returned v' ∧ w'.ownsRow base 5 1 v' xs.length (bsC xs) ∧ Below base w w'
theorem below_own {w w' : World} {base : Nat} {e : TypeId} {size n : Nat} {v : Value} {xs : List Value} (ho : w.ownsRow base e size v n xs) (hg : w.grownBy w' v.ownBlock) (hb : base ≤ w.heap.size) : Below base w w' :=
  (Below.refl _ _).grown hg hb (fun k e => (ho.lt k e).1)
theorem dec_step (k : Nat) (n : Nat) (h : ¬ n < 10) : decF (k + 1) n = decF k (n / 10) ++ [UInt8.ofNat (48 + n % 10)] := by rw [decF, if_neg h]
theorem dec_last (k : Nat) (n : Nat) (h : n < 10) : decF (k + 1) n = [UInt8.ofNat (48 + n)] := by rw [decF, if_pos h]
theorem digit_val (m : Nat) (h : m < 10) : ((UInt8.ofNat (48 + m)).toNat : Int) = 48 + m := by
  rw [UInt8.toNat_ofNat']; omega

theorem app_one {w w1 w2 : World} {base : Nat} {v v' : Value} {xs ys : List UInt8} {c : UInt8} {o : Obj} (hb : Below base w w1) (hB : base ≤ w1.heap.size) (ho : w1.ownsRow base 5 1 v ys.length (bsC ys)) (hxs : xs = ys ++ [c])
    (ho2 : w2.ownsRow base 5 1 v' (ys.length + 1) (bsC ys ++ [.int .u8 (c.toNat : Int)])) (hg : (w1.alloc o).grownBy w2 v.ownBlock) : w2.ownsRow base 5 1 v' xs.length (bsC xs) ∧ Below base w w2 := by
  subst hxs
  refine ⟨?_, (hb.alloc hB _).grown hg (by simp; omega) (fun k e => (ho.lt k e).1)⟩
  have e : bsC ys ++ [.int .u8 (c.toNat : Int)] = bsC (ys ++ [c]) := by simp [bsC]
  rw [e] at ho2
  simpa using ho2

/-- What a list of tokens may hold here: short texts. -/
def tkTextI (k : Int) (t : List UInt8) (n : Int) : List UInt8 := if k = 2 then dec n.toNat else t
theorem strCells_eq (s : ByteArray) : Lib.strCells s = bsC s.data.toList := rfl
theorem str_app (a b : List UInt8) : (⟨a.toArray⟩ : ByteArray) ++ ⟨b.toArray⟩ = ⟨(a ++ b).toArray⟩ := by
  have h : ((⟨a.toArray⟩ : ByteArray) ++ ⟨b.toArray⟩).data = (⟨(a ++ b).toArray⟩ : ByteArray).data := by simp
  exact congrArg ByteArray.mk h
end Go.Proofs.YthbcfcbonmphfaaGreatDoor
