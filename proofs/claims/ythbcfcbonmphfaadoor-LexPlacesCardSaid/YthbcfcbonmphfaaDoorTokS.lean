/- The reference's way to the tokens, as plain functions: no program text. -/
import Derived.Test.YthbcfcbonmphfaaDoorBackS
namespace Go.Proofs.YthbcfcbonmphfaaDoor
set_option maxRecDepth 100000

def pre (l s : List UInt8) : Bool := decide (l.length ≤ s.length) && (s.take l.length == l)
theorem syms_split : syms = pairsL ++ singles.map fun c => [c] := by rfl
theorem noPair_of (s : List UInt8) (h : ∀ (j : Nat) (l : List UInt8), j < 4 → syms[j]? = some l → pre l s = false) : (decide (2 ≤ s.length) && pairsL.any fun p => s.take 2 == p) = false := by
  cases hd : decide (2 ≤ s.length)
  · rfl
  · have h2 : 2 ≤ s.length := by simpa using hd
    rw [Bool.true_and, List.any_eq_false]
    intro p hp
    have a0 := h 0 [61, 61] (by omega) rfl
    have a1 := h 1 [33, 61] (by omega) rfl
    have a2 := h 2 [60, 61] (by omega) rfl
    have a3 := h 3 [45, 62] (by omega) rfl
    unfold pre at a0 a1 a2 a3
    simp only [List.length_cons, List.length_nil, Nat.zero_add, Nat.reduceAdd, hd, Bool.true_and] at a0 a1 a2 a3
    simp only [pairsL, List.mem_cons, List.not_mem_nil, or_false] at hp
    rcases hp with rfl | rfl | rfl | rfl
    · rw [a0]; exact Bool.false_ne_true
    · rw [a1]; exact Bool.false_ne_true
    · rw [a2]; exact Bool.false_ne_true
    · rw [a3]; exact Bool.false_ne_true
theorem sym_single (s : List UInt8) (k : Nat) (l : List UInt8) (hk : 4 ≤ k) (h : syms[k]? = some l) : ∃ c, l = [c] ∧ singles.contains c = true := by
  rw [syms_split, List.getElem?_append_right (by simpa [pairsL] using hk), List.getElem?_map] at h
  cases hx : singles[k - pairsL.length]? with
  | none => rw [hx] at h; cases h
  | some c =>
    rw [hx] at h
    exact ⟨c, by simpa using h.symm, by simpa using List.mem_of_getElem? hx⟩
theorem first_sym (s : List UInt8) (k : Nat) (l : List UInt8) (h : syms[k]? = some l) (hno : ∀ (j : Nat) (l' : List UInt8), j < k → syms[j]? = some l' → pre l' s = false) (hp : pre l s = true) : l = s.take (symLen s) ∧ 0 < symLen s := by
  unfold pre at hp
  rw [Bool.and_eq_true] at hp
  have hlen : l.length ≤ s.length := by simpa using hp.1
  have htake : s.take l.length = l := by simpa using hp.2
  rcases Nat.lt_or_ge k 4 with hk | hk
  · have hl : l ∈ pairsL ∧ l.length = 2 := by
      rw [syms_split, List.getElem?_append_left (by simpa [pairsL] using hk)] at h
      have hm := List.mem_of_getElem? h
      have ok : pairsL.all (fun p => decide (p.length = 2)) = true := by rfl
      exact ⟨hm, by simpa using List.all_eq_true.1 ok l hm⟩
    have hc : (decide (2 ≤ s.length) && pairsL.any fun p => s.take 2 == p) = true := by
      rw [Bool.and_eq_true]
      refine ⟨by simp; omega, List.any_eq_true.2 ⟨l, hl.1, ?_⟩⟩
      rw [hl.2] at htake
      simpa using htake
    unfold symLen
    rw [if_pos hc]
    rw [hl.2] at htake
    exact ⟨htake.symm, by omega⟩
  · obtain ⟨c, rfl, hc⟩ := sym_single s k l hk h
    have hn := noPair_of s (fun j l' hj hl' => hno j l' (by omega) hl')
    unfold symLen
    rw [if_neg (by rw [hn]; exact Bool.false_ne_true)]
    have h0 : s[0]? = some c := by
      cases s with
      | nil => simp at hlen
      | cons x r => simp at htake; rw [htake]; rfl
    rw [h0]
    rw [if_pos (show (some c).any (fun c => singles.contains c) = true from hc)]
    exact ⟨htake.symm, by omega⟩
theorem no_sym (s : List UInt8) (hno : ∀ (j : Nat) (l' : List UInt8), syms[j]? = some l' → pre l' s = false) : symLen s = 0 := by
  have hn := noPair_of s (fun j l' _ hl' => hno j l' hl')
  unfold symLen
  rw [if_neg (by rw [hn]; exact Bool.false_ne_true), if_neg]
  intro h
  cases hx : s[0]? with
  | none => rw [hx] at h; simp at h
  | some c =>
    rw [hx] at h
    have hc : singles.contains c = true := by simpa using h
    have hm : c ∈ singles := by simpa using hc
    obtain ⟨i, hi, rfl⟩ := List.mem_iff_getElem.1 hm
    have h4 : syms[4 + i]? = some [singles[i]] := by
      rw [syms_split, List.getElem?_append_right (by simp [pairsL]), List.getElem?_map]
      have e : 4 + i - pairsL.length = i := by simp [pairsL]
      rw [e, List.getElem?_eq_getElem hi]; rfl
    have := hno _ _ h4
    unfold pre at this
    cases s with
    | nil => simp at hx
    | cons x r =>
      simp at hx
      rw [hx] at this
      simp at this

theorem toks_1 (c : UInt8) (l : List UInt8) (a b : Int) (h : cls (c.toNat : Int) = 1) : toks (c :: l) a b = toks l a (b + 1) := toks_of_skip _ _ _ _ _ _ (skip_1 c l a b h) (by simp)
theorem toks_2 (c : UInt8) (l : List UInt8) (a b : Int) (h : cls (c.toNat : Int) = 2) : toks (c :: l) a b = toks l (a + 1) 1 := toks_of_skip _ _ _ _ _ _ (skip_2 c l a b h) (by simp)
theorem toks_3 (c : UInt8) (l : List UInt8) (a b : Int) (h : cls (c.toNat : Int) = 3) : toks (c :: l) a b = toks ((c :: l).drop (cl (c :: l))) a (b + cl (c :: l)) := toks_of_skip _ _ _ _ _ _ (skip_3 c l a b h) (by simp)
end Go.Proofs.YthbcfcbonmphfaaDoor
