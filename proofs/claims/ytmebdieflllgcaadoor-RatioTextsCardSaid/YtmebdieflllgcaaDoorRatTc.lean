/- The reference's Parse: what is read, plain; its walk. -/
import Derived.Test.YtmebdieflllgcaaDoorRatTb
import Derived.Test.YtmebdieflllgcaaDoorRatE
namespace Go.Proofs.YtmebdieflllgcaaDoor
open Go.RowKit
set_option maxRecDepth 100000

/-! ### plain -/
/-- What the reference reads before it looks whether it was right: numerator, denominator, the place behind. -/
def cand (l : List UInt8) : Int × Int × Nat :=
  let i := if l.head? = some 45 then 1 else 0
  let p := dg 11 0 (l.drop i)
  let n : Int := if l.head? = some 45 then -(p.1 : Int) else (p.1 : Int)
  let k := i + p.2
  if l[k]? = some 47 then (n, ((dg 11 0 (l.drop (k + 1))).1 : Int), k + 1 + (dg 11 0 (l.drop (k + 1))).2) else (n, 1, k)
theorem dg_all : ∀ (l : List UInt8) (f acc v : Nat) (r : List UInt8), (∀ b ∈ l, 48 ≤ b.toNat ∧ b.toNat ≤ 57) → l.length ≤ f → (∀ c, r.head? = some c → ¬ (48 ≤ c.toNat ∧ c.toNat ≤ 57)) → Lib.decFrom acc l = some v → dg f acc (l ++ r) = (v, l.length) := by
  intro l
  induction l with
  | nil =>
    intro f acc v r _ _ hr hv
    simp [Lib.decFrom] at hv
    subst hv
    cases r with
    | nil => rw [List.nil_append, dg_nil]; rfl
    | cons c r => rw [List.nil_append, dg_miss (hr c rfl)]; rfl
  | cons b l ih =>
    intro f acc v r hb hf hr hv
    have h1 := hb b (List.mem_cons_self ..)
    obtain ⟨g, rfl⟩ : ∃ g, f = g + 1 := ⟨f - 1, by simp only [List.length_cons] at hf; omega⟩
    have hd : Lib.digitVal b = some (b.toNat - 48) := by unfold Lib.digitVal; rw [if_pos h1]
    rw [Lib.decFrom, hd] at hv
    rw [List.cons_append, dg_hit h1, ih g _ v r (fun c hc => hb c (List.mem_cons_of_mem _ hc)) (by simp only [List.length_cons] at hf; omega) hr hv]
    rfl
theorem dg_dec {u : Nat} (hu : u ≤ 1073741824) (r : List UInt8) (hr : ∀ c, r.head? = some c → ¬ (48 ≤ c.toNat ∧ c.toNat ≤ 57)) : dg 11 0 (Lib.decDigits u ++ r) = (u, (Lib.decDigits u).length) :=
  dg_all _ 11 0 u r (dec_bytes u) (by have := dec_len11 9 u (by omega); omega) hr (decFrom_dec u)
theorem dec_head (u : Nat) (r : List UInt8) : (Lib.decDigits u ++ r).head? ≠ some 45 := by
  cases h : Lib.decDigits u with
  | nil => exact absurd h (dec_ne u)
  | cons b l =>
    have := dec_bytes u b (by rw [h]; exact List.mem_cons_self ..)
    intro e
    simp at e
    subst e
    simp at this
theorem slash_stop (r : List UInt8) : ∀ c, (47 :: r : List UInt8).head? = some c → ¬ (48 ≤ c.toNat ∧ c.toNat ≤ 57) := by
  intro c hc h
  simp at hc
  subst hc
  simp at h
theorem nil_stop : ∀ c, ([] : List UInt8).head? = some c → ¬ (48 ≤ c.toNat ∧ c.toNat ≤ 57) := by
  intro c hc
  simp at hc
theorem cand_itoa {n : Int} (h1 : -1073741824 ≤ n) (h2 : n ≤ 1073741824) (r : List UInt8) (hr : ∀ c, r.head? = some c → ¬ (48 ≤ c.toNat ∧ c.toNat ≤ 57)) :
    cand (Lib.itoa n ++ r) = if r.head? = some 47 then (n, ((dg 11 0 r.tail).1 : Int), (Lib.itoa n).length + 1 + (dg 11 0 r.tail).2) else (n, 1, (Lib.itoa n).length) := by
  by_cases h : n < 0
  · have e : Lib.itoa n = 45 :: Lib.decDigits n.natAbs := by unfold Lib.itoa; rw [if_pos h]
    rw [e]
    unfold cand
    simp only [List.cons_append, List.head?_cons, if_true]
    rw [List.drop_one, List.tail_cons, dg_dec (by omega) r hr]
    simp only [List.length_cons]
    have e1 : (45 :: (Lib.decDigits n.natAbs ++ r))[1 + (Lib.decDigits n.natAbs).length]? = r.head? := by
      rw [show 1 + (Lib.decDigits n.natAbs).length = (Lib.decDigits n.natAbs).length + 1 by omega, List.getElem?_cons_succ, List.getElem?_append_right (Nat.le_refl _), Nat.sub_self, List.head?_eq_getElem?]
    have e2 : (45 :: (Lib.decDigits n.natAbs ++ r)).drop (1 + (Lib.decDigits n.natAbs).length + 1) = r.tail := by
      rw [show 1 + (Lib.decDigits n.natAbs).length + 1 = ((Lib.decDigits n.natAbs).length + 1) + 1 by omega, List.drop_succ_cons, List.drop_append, List.drop_eq_nil_of_le (by omega), List.nil_append, show (Lib.decDigits n.natAbs).length + 1 - (Lib.decDigits n.natAbs).length = 1 by omega, List.drop_one]
    rw [e1, e2]
    have e3 : -(n.natAbs : Int) = n := by omega
    rw [e3, show 1 + (Lib.decDigits n.natAbs).length = (Lib.decDigits n.natAbs).length + 1 by omega]
  · have e : Lib.itoa n = Lib.decDigits n.toNat := by unfold Lib.itoa; rw [if_neg h]
    rw [e]
    unfold cand
    simp only [dec_head, if_false, List.drop_zero]
    rw [dg_dec (by omega) r hr]
    dsimp only
    rw [Nat.zero_add]
    have e1 : (Lib.decDigits n.toNat ++ r)[(Lib.decDigits n.toNat).length]? = r.head? := by
      rw [List.getElem?_append_right (Nat.le_refl _), Nat.sub_self, List.head?_eq_getElem?]
    have e2 : (Lib.decDigits n.toNat ++ r).drop ((Lib.decDigits n.toNat).length + 1) = r.tail := by
      rw [List.drop_append, List.drop_eq_nil_of_le (by omega), List.nil_append, show (Lib.decDigits n.toNat).length + 1 - (Lib.decDigits n.toNat).length = 1 by omega, List.drop_one]
    rw [e1, e2]
    have e3 : (n.toNat : Int) = n := by omega
    rw [e3]
theorem cand_txt {n d : Int} (h : vF n d) : cand (txtL n d) = (n, d, (txtL n d).length) := by
  obtain ⟨h1, h2, h3, h4, _⟩ := h
  unfold txtL
  by_cases hd : d = 1
  · rw [if_pos hd]
    have := cand_itoa h3 h4 [] nil_stop
    rw [List.append_nil] at this
    rw [this]
    simp [hd]
  · rw [if_neg hd, List.append_assoc]
    rw [List.singleton_append, cand_itoa h3 h4 _ (slash_stop _)]
    simp only [List.head?_cons, if_true, List.tail_cons]
    have e : Lib.itoa d = Lib.decDigits d.toNat := by unfold Lib.itoa; rw [if_neg (by omega)]
    have := dg_dec (u := d.toNat) (by omega) [] nil_stop
    rw [List.append_nil] at this
    rw [e, this]
    simp only [List.length_append, List.length_cons]
    have e3 : (d.toNat : Int) = d := by omega
    rw [e3]
    congr 2
    omega
/-- A text of a fraction. -/
def PA (l : List UInt8) (n d : Int) : Prop := vF n d ∧ txtL n d = l
theorem PA_one {l : List UInt8} {n d n' d' : Int} (h : PA l n d) (k : PA l n' d') : n = n' ∧ d = d' := by
  have h1 := cand_txt h.1
  have h2 := cand_txt k.1
  rw [h.2] at h1
  rw [k.2, h1] at h2
  injection h2 with h3 h4
  injection h4 with h4 h5
  exact ⟨h3, h4⟩
end Go.Proofs.YtmebdieflllgcaaDoor
