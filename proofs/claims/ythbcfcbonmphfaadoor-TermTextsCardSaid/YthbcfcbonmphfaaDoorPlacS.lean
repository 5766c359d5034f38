/- Tokens with gaps between them are read again, and their places ascend: plain functions, no program text. -/
import Derived.Test.YthbcfcbonmphfaaDoorBackS
namespace Go.Proofs.YthbcfcbonmphfaaDoor
set_option maxRecDepth 100000

/-- Nothing, or the first byte of a gap. -/
def Sep2 (l : List UInt8) : Prop := l = [] ∨ ∃ c l', l = c :: l' ∧ (c = 32 ∨ c = 10 ∨ c = 9 ∨ c = 35)
theorem sep2_takeWhile (l : List UInt8) (h : Sep2 l) : l.takeWhile isW = [] := by
  rcases h with rfl | ⟨c, l', rfl, hc⟩
  · rfl
  · rcases hc with rfl | rfl | rfl | rfl <;> exact List.takeWhile_cons_of_neg (by decide)
theorem wl_app2 (w l : List UInt8) (hw : w.all isW = true) (h : Sep2 l) : wl (w ++ l) = w.length := by
  unfold wl
  rw [takeWhile_all_app isW w l hw (sep2_takeWhile l h)]
theorem tokOf_wordApp2 (w l : List UInt8) (hw : w.all isW = true) (h0 : 0 < w.length) (h : Sep2 l) : tokOf (w ++ l) = (wordTok w).map fun x => (x.1, x.2.1, x.2.2, w.length) := by
  unfold tokOf
  rw [if_neg, wl_app2 w l hw h, if_pos h0, List.take_left]
  intro e
  have := congrArg List.length e
  simp at this
  rw [this.1] at h0
  exact absurd h0 (by decide)
theorem tokOf_kwApp2 (s l : List UInt8) (h : isKw s = true) (hl : Sep2 l) : tokOf (s ++ l) = some (3, s, 0, s.length) := by
  have hk := isKw_ok s h
  rw [tokOf_wordApp2 s l hk.1 hk.2.1 hl]
  unfold wordTok
  rw [if_pos h]; rfl
theorem tokOf_nameApp2 (s l : List UInt8) (h : isName s = true) (hl : Sep2 l) : tokOf (s ++ l) = some (1, s, 0, s.length) := by
  have hk := isName_ok s h
  rw [tokOf_wordApp2 s l hk.1 hk.2.1 hl]
  unfold wordTok
  rw [if_neg (by rw [hk.2.2.2]; exact Bool.false_ne_true), if_pos h]; rfl
theorem tokOf_symApp2 (s l : List UInt8) (h : isSym s = true) (hl : Sep2 l) : tokOf (s ++ l) = some (4, s, 0, s.length) := by
  obtain ⟨k, hk, he⟩ := List.any_eq_true.1 h
  have e : s = k := by simpa using he
  subst e
  simp only [syms, List.mem_cons, List.not_mem_nil, or_false] at hk
  rcases hl with rfl | ⟨c, l', rfl, hc⟩
  · rcases hk with rfl | rfl | rfl | rfl | rfl | rfl | rfl | rfl | rfl | rfl | rfl | rfl | rfl | rfl | rfl | rfl | rfl | rfl | rfl | rfl | rfl <;> rfl
  · rcases hc with rfl | rfl | rfl | rfl
    · rcases hk with rfl | rfl | rfl | rfl | rfl | rfl | rfl | rfl | rfl | rfl | rfl | rfl | rfl | rfl | rfl | rfl | rfl | rfl | rfl | rfl | rfl <;> rfl
    · rcases hk with rfl | rfl | rfl | rfl | rfl | rfl | rfl | rfl | rfl | rfl | rfl | rfl | rfl | rfl | rfl | rfl | rfl | rfl | rfl | rfl | rfl <;> rfl
    · rcases hk with rfl | rfl | rfl | rfl | rfl | rfl | rfl | rfl | rfl | rfl | rfl | rfl | rfl | rfl | rfl | rfl | rfl | rfl | rfl | rfl | rfl <;> rfl
    · rcases hk with rfl | rfl | rfl | rfl | rfl | rfl | rfl | rfl | rfl | rfl | rfl | rfl | rfl | rfl | rfl | rfl | rfl | rfl | rfl | rfl | rfl <;> rfl
theorem tokOf_intApp2 (n : Nat) (l : List UInt8) (hb : n ≤ 1099511627776) (hl : Sep2 l) : tokOf (dec n ++ l) = some (2, [], (n : Int), (dec n).length) := by
  rw [tokOf_wordApp2 (dec n) l (dec_word n) (dec_pos 13 n (by decide)) hl]
  unfold wordTok
  rw [if_neg (by rw [dec_noKw]; exact Bool.false_ne_true), if_neg (by rw [dec_noName]; exact Bool.false_ne_true), number_dec n hb]
  rfl

theorem tok_read2 (t : Tk) (l : List UInt8) (hv : validT t.k t.t t.n = true) (h5 : t.k ≠ 5) (hl : Sep2 l) :
    tokOf (tkText t ++ l) = some (t.k, t.t, t.n, (tkText t).length) ∧ ∃ c r, tkText t = c :: r ∧ cls (c.toNat : Int) ≠ 1 ∧ cls (c.toNat : Int) ≠ 2 ∧ cls (c.toNat : Int) ≠ 3 := by
  have head : ∀ (s : List UInt8) (v : Int), s[0]?.any (fun c => decide (cls c.toNat = v)) = true → (v = 0 ∨ v = 4 ∨ v = 5) → ∃ c r, s = c :: r ∧ cls (c.toNat : Int) ≠ 1 ∧ cls (c.toNat : Int) ≠ 2 ∧ cls (c.toNat : Int) ≠ 3 := by
    intro s v h hv
    cases s with
    | nil => simp at h
    | cons c r => simp at h; exact ⟨c, r, rfl, by omega, by omega, by omega⟩
  unfold validT at hv
  by_cases k1 : t.k = 1
  · rw [if_pos k1] at hv
    have hn : isName t.t = true ∧ t.n = 0 := by simpa using hv
    have e : tkText t = t.t := by unfold tkText; rw [if_neg (by omega)]
    rw [e, tokOf_nameApp2 t.t l hn.1 hl, k1, hn.2]
    exact ⟨rfl, head _ 4 (isName_ok _ hn.1).2.2.1 (by omega)⟩
  · rw [if_neg k1] at hv
    by_cases k3 : t.k = 3
    · rw [if_pos k3] at hv
      have hn : isKw t.t = true ∧ t.n = 0 := by simpa using hv
      have e : tkText t = t.t := by unfold tkText; rw [if_neg (by omega)]
      rw [e, tokOf_kwApp2 t.t l hn.1 hl, k3, hn.2]
      exact ⟨rfl, head _ 4 (isKw_ok _ hn.1).2.2 (by omega)⟩
    · rw [if_neg k3] at hv
      by_cases k4 : t.k = 4
      · rw [if_pos k4] at hv
        have hn : isSym t.t = true ∧ t.n = 0 := by simpa using hv
        have e : tkText t = t.t := by unfold tkText; rw [if_neg (by omega)]
        rw [e, tokOf_symApp2 t.t l hn.1 hl, k4, hn.2]
        exact ⟨rfl, head _ 0 (sym_head _ hn.1).1 (by omega)⟩
      · rw [if_neg k4] at hv
        by_cases k2 : t.k = 2
        · rw [if_pos k2] at hv
          have hn : (t.t = [] ∧ 0 ≤ t.n) ∧ t.n ≤ 1099511627776 := by simpa using hv
          obtain ⟨m, hm⟩ := Int.eq_ofNat_of_zero_le hn.1.2
          have e : tkText t = dec m := by unfold tkText; rw [if_pos k2, hm, Int.toNat_natCast]
          rw [e, tokOf_intApp2 m l (by omega) hl, k2, hn.1.1, hm]
          exact ⟨rfl, head _ 5 (dec_cls0 m) (by omega)⟩
        · rw [if_neg k2] at hv
          rw [if_neg h5] at hv
          cases hv


def gapL (j : Nat) : List UInt8 := if j = 0 then [32] else if j = 1 then [10] else if j = 2 then [9, 32, 13, 10] else if j = 3 then [32, 35, 32, 97, 32, 98, 10] else [35, 10, 35, 41, 32, 36, 10]
theorem gapL_cases (j : Nat) : gapL j = [32] ∨ gapL j = [10] ∨ gapL j = [9, 32, 13, 10] ∨ gapL j = [32, 35, 32, 97, 32, 98, 10] ∨ gapL j = [35, 10, 35, 41, 32, 36, 10] := by
  unfold gapL; (repeat' split) <;> simp
theorem gapL_sep (j : Nat) (l : List UInt8) : Sep2 (gapL j ++ l) := by
  rcases gapL_cases j with h | h | h | h | h <;> rw [h] <;> exact .inr ⟨_, _, rfl, by simp⟩
theorem gapL_len (j : Nat) : (gapL j).length ≤ 7 := by
  rcases gapL_cases j with h | h | h | h | h <;> rw [h] <;> decide
theorem toks_gap (j : Nat) (l : List UInt8) (a b : Int) : ∃ a' b', toks (gapL j ++ l) a b = toks l a' b' := by
  have c1 : ∀ (n : Nat) (l : List UInt8), n = 32 ∨ n = 9 ∨ n = 13 → ∀ a b, toks (UInt8.ofNat n :: l) a b = toks l a (b + 1) := fun n l hn a b => toks_1 _ l a b (by rcases hn with rfl | rfl | rfl <;> decide)
  have c2 : ∀ (l : List UInt8) a b, toks (10 :: l) a b = toks l (a + 1) 1 := fun l a b => toks_2 _ l a b (by decide)
  rcases gapL_cases j with h | h | h | h | h <;> rw [h]
  · exact ⟨_, _, toks_1 32 l a b (by decide)⟩
  · exact ⟨_, _, c2 l a b⟩
  · refine ⟨a + 1, 1, ?_⟩
    show toks (9 :: 32 :: 13 :: 10 :: l) a b = _
    rw [toks_1 9 _ a b (by decide), toks_1 32 _ a _ (by decide), toks_1 13 _ a _ (by decide), c2]
  · refine ⟨a + 1, 1, ?_⟩
    show toks (32 :: 35 :: 32 :: 97 :: 32 :: 98 :: 10 :: l) a b = _
    rw [toks_1 32 _ a b (by decide), toks_3 35 _ a _ (by decide)]
    have e : cl (35 :: 32 :: 97 :: 32 :: 98 :: 10 :: l) = 5 := by rfl
    rw [e]
    exact c2 l a _
  · refine ⟨a + 1 + 1, 1, ?_⟩
    show toks (35 :: 10 :: 35 :: 41 :: 32 :: 36 :: 10 :: l) a b = _
    rw [toks_3 35 _ a _ (by decide)]
    have e : cl (35 :: 10 :: 35 :: 41 :: 32 :: 36 :: 10 :: l) = 1 := by rfl
    rw [e]
    show toks (10 :: 35 :: 41 :: 32 :: 36 :: 10 :: l) a _ = _
    rw [c2, toks_3 35 _ _ _ (by decide)]
    have e : cl (35 :: 41 :: 32 :: 36 :: 10 :: l) = 4 := by rfl
    rw [e]
    exact c2 l _ _

/-- The part of a token, without its gap. -/
def part (t : Tk) : List UInt8 := if t.k = 5 then [] else tkText t
/-- The tokens from the i-th on, each with its gap behind it. -/
def ptxt (g : Nat → Nat) : Nat → List Tk → List UInt8
  | _, [] => []
  | i, t :: L => part t ++ (gapL (g i) ++ ptxt g (i + 1) L)
/-- An end, and it is the last one. -/
def Ends : List Tk → Prop
  | [] => False
  | t :: L => if t.k = 5 then L = [] else Ends L
theorem toks_ptxt (g : Nat → Nat) : ∀ (L : List Tk) (i : Nat) (a b : Int), (∀ t ∈ L, validT t.k t.t t.n = true) → Ends L → ∃ r, toks (ptxt g i L) a b = .ok r ∧ r.map kt = L.map kt
  | [], _, _, _, _, h => h.elim
  | t :: L, i, a, b, hv, he => by
    unfold ptxt part
    unfold Ends at he
    by_cases h5 : t.k = 5
    · rw [if_pos h5] at he ⊢
      subst he
      obtain ⟨a', b', h⟩ := toks_gap (g i) [] a b
      have hvt := hv t (List.mem_cons_self ..)
      unfold validT at hvt
      rw [h5] at hvt
      have hn : t.t = [] ∧ t.n = 0 := by simpa using hvt
      refine ⟨[⟨5, [], 0, a', b'⟩], ?_, ?_⟩
      · unfold ptxt; rw [List.nil_append, h]; rfl
      · simp [kt, h5, hn.1, hn.2]
    · rw [if_neg h5] at he ⊢
      obtain ⟨hr, c, r, hc, c1, c2, c3⟩ := tok_read2 t (gapL (g i) ++ ptxt g (i + 1) L) (hv t (List.mem_cons_self ..)) h5 (gapL_sep _ _)
      have hsk : skip (tkText t ++ (gapL (g i) ++ ptxt g (i + 1) L)) a b = (tkText t ++ (gapL (g i) ++ ptxt g (i + 1) L), a, b) := by
        rw [hc, List.cons_append]; exact skip_0 _ _ _ _ c1 c2 c3
      obtain ⟨a', b', h⟩ := toks_gap (g i) (ptxt g (i + 1) L) a (b + (tkText t).length)
      obtain ⟨r', hr', hm⟩ := toks_ptxt g L (i + 1) a' b' (fun u hu => hv u (List.mem_cons_of_mem _ hu)) he
      rw [toks_step _ _ _ _ _ _ hsk t.k t.t t.n _ h5 hr, List.drop_left, h, hr']
      exact ⟨_, rfl, by simp [kt, hm]⟩

/-! Places. -/
def Asc : Int → Int → List Tk → Prop
  | _, _, [] => True
  | a, b, t :: r => (a < t.a ∨ (a = t.a ∧ b ≤ t.b)) ∧ 1 ≤ t.a ∧ 1 ≤ t.b ∧ Asc t.a (t.b + 1) r
theorem Asc.mono {r : List Tk} {a b b' : Int} (h : Asc a b r) (hb : b' ≤ b) : Asc a b' r := by
  cases r with
  | nil => trivial
  | cons t r =>
    obtain ⟨h1, h2⟩ := h
    exact ⟨by omega, h2⟩
theorem skipF_asc : ∀ (f : Nat) (l : List UInt8) (a b : Int), 1 ≤ a → 1 ≤ b → 1 ≤ (skipF f l a b).2.1 ∧ 1 ≤ (skipF f l a b).2.2 ∧ (a < (skipF f l a b).2.1 ∨ (a = (skipF f l a b).2.1 ∧ b ≤ (skipF f l a b).2.2))
  | 0, _, a, b, h1, h2 => ⟨h1, h2, .inr ⟨rfl, Int.le_refl _⟩⟩
  | _ + 1, [], a, b, h1, h2 => ⟨h1, h2, .inr ⟨rfl, Int.le_refl _⟩⟩
  | f + 1, c :: l, a, b, h1, h2 => by
    unfold skipF
    split
    · have := skipF_asc f l a (b + 1) h1 (by omega); omega
    · split
      · have := skipF_asc f l (a + 1) 1 (by omega) (by omega); omega
      · split
        · have := skipF_asc f ((c :: l).drop (cl (c :: l))) a (b + cl (c :: l)) h1 (by omega); omega
        · exact ⟨h1, h2, .inr ⟨rfl, Int.le_refl _⟩⟩
theorem sym_isSym (l : List UInt8) (h : 0 < symLen l) : isSym (l.take (symLen l)) = true := by
  have hin : l.take (symLen l) ∈ syms := by
    rw [syms_split]
    unfold symLen at h ⊢
    split at h
    · rename_i h1
      rw [if_pos h1]
      rw [Bool.and_eq_true] at h1
      obtain ⟨p, hp, he⟩ := List.any_eq_true.1 h1.2
      have e : l.take 2 = p := by simpa using he
      rw [e]
      exact List.mem_append_left _ hp
    · rename_i h1
      rw [if_neg h1]
      split at h
      · rename_i h2
        rw [if_pos h2]
        cases l with
        | nil => simp at h2
        | cons c l =>
          have hc : c ∈ singles := by simpa using h2
          exact List.mem_append_right _ (List.mem_map.2 ⟨c, hc, rfl⟩)
      · omega
  exact List.any_eq_true.2 ⟨_, hin, by simp⟩
theorem wordTok_valid (w : List UInt8) (k : Int) (t : List UInt8) (n : Int) (h : wordTok w = some (k, t, n)) : validT k t n = true ∧ t.length ≤ w.length := by
  unfold wordTok at h
  split at h
  · rename_i hk
    simp at h; obtain ⟨rfl, rfl, rfl⟩ := h
    exact ⟨by unfold validT; simp [hk], Nat.le_refl _⟩
  · split at h
    · rename_i hn
      simp at h; obtain ⟨rfl, rfl, rfl⟩ := h
      exact ⟨by unfold validT; simp [hn], Nat.le_refl _⟩
    · cases hx : number w with
      | none => rw [hx] at h; simp at h
      | some m =>
        rw [hx] at h
        simp at h; obtain ⟨rfl, rfl, rfl⟩ := h
        have := number_le w m hx
        exact ⟨by unfold validT; simp; omega, by simp⟩
theorem tokOf_valid (l : List UInt8) (k : Int) (t : List UInt8) (n : Int) (len : Nat) (h : tokOf l = some (k, t, n, len)) : validT k t n = true ∧ t.length ≤ len := by
  unfold tokOf at h
  split at h
  · simp at h; obtain ⟨rfl, rfl, rfl, rfl⟩ := h
    exact ⟨by decide, by simp⟩
  · split at h
    · simp only [Option.map_eq_some_iff] at h
      obtain ⟨⟨k', t', n'⟩, hx, h⟩ := h
      simp at h; obtain ⟨rfl, rfl, rfl, rfl⟩ := h
      have := wordTok_valid _ _ _ _ hx
      refine ⟨this.1, ?_⟩
      have h2 := this.2
      rw [List.length_take] at h2
      omega
    · split at h
      · rename_i hs
        simp at h; obtain ⟨rfl, rfl, rfl, rfl⟩ := h
        refine ⟨?_, by rw [List.length_take]; omega⟩
        unfold validT
        simp [sym_isSym l hs]
      · cases h
/-- The lengths of the texts of all tokens. -/
def tlen : List Tk → Nat
  | [] => 0
  | t :: L => t.t.length + tlen L
theorem toksF_places : ∀ (f : Nat) (l : List UInt8) (a b : Int) (r : List Tk), toksF f l a b = .ok r → 1 ≤ a → 1 ≤ b → (∀ t ∈ r, validT t.k t.t t.n = true) ∧ Asc a b r ∧ Ends r ∧ tlen r ≤ l.length ∧ r.length ≤ l.length + 1
  | 0, _, _, _, _, h, _, _ => by simp [toksF] at h
  | f + 1, l, a, b, r, h, ha, hb => by
    unfold toksF at h
    have hs := skipF_asc l.length l a b ha hb
    have hsl := skip_len l a b
    change 1 ≤ (skip l a b).2.1 ∧ 1 ≤ (skip l a b).2.2 ∧ (a < (skip l a b).2.1 ∨ (a = (skip l a b).2.1 ∧ b ≤ (skip l a b).2.2)) at hs
    cases ht : tokOf (skip l a b).1 with
    | none => rw [ht] at h; simp at h
    | some x =>
      obtain ⟨k, t, n, len⟩ := x
      rw [ht] at h
      simp only at h
      have hv := tokOf_valid _ _ _ _ _ ht
      have hl := tokOf_len _ _ _ _ _ ht
      split at h
      · rename_i hk
        have e : r = [⟨5, [], 0, (skip l a b).2.1, (skip l a b).2.2⟩] := by simpa using h.symm
        subst e
        refine ⟨fun t ht => ?_, ⟨hs.2.2, hs.1, hs.2.1, trivial⟩, rfl, by simp [tlen], by simp⟩
        simp at ht; subst ht; exact (show validT 5 [] 0 = true by decide)
      · rename_i hk
        cases hr : toksF f ((skip l a b).1.drop len) (skip l a b).2.1 ((skip l a b).2.2 + len) with
        | error p => rw [hr] at h; simp at h
        | ok r' =>
          rw [hr] at h
          have e : r = ⟨k, t, n, (skip l a b).2.1, (skip l a b).2.2⟩ :: r' := by simpa using h.symm
          subst e
          have hlen := hl.2 hk
          have ih := toksF_places f _ _ _ r' hr hs.1 (by omega)
          rw [List.length_drop] at ih
          refine ⟨fun u hu => ?_, ⟨hs.2.2, hs.1, hs.2.1, ih.2.1.mono (show (skip l a b).2.2 + 1 ≤ (skip l a b).2.2 + (len : Int) by omega)⟩, ?_, ?_, ?_⟩
          · rcases List.mem_cons.1 hu with rfl | hu
            · exact hv.1
            · exact ih.1 u hu
          · unfold Ends; rw [if_neg hk]; exact ih.2.2.1
          · unfold tlen; show t.length + _ ≤ _; omega
          · rw [List.length_cons]; omega
theorem toks_places (l : List UInt8) (r : List Tk) (h : toks l 1 1 = .ok r) : (∀ t ∈ r, validT t.k t.t t.n = true) ∧ Asc 1 1 r ∧ Ends r ∧ tlen r ≤ l.length ∧ r.length ≤ l.length + 1 := toksF_places _ _ _ _ _ h (by decide) (by decide)
theorem ptxt_len (g : Nat → Nat) : ∀ (L : List Tk) (i : Nat), (ptxt g i L).length ≤ tlen L + 20 * L.length
  | [], _ => by simp [ptxt]
  | t :: L, i => by
    have ih := ptxt_len g L (i + 1)
    have hg := gapL_len (g i)
    have hp : (part t).length ≤ t.t.length + 13 := by
      unfold part tkText
      split
      · simp
      · split
        · have := decF_len 13 t.n.toNat
          show (dec _).length ≤ _
          unfold dec; omega
        · omega
    unfold ptxt tlen
    simp only [List.length_append, List.length_cons]
    omega
end Go.Proofs.YthbcfcbonmphfaaDoor
