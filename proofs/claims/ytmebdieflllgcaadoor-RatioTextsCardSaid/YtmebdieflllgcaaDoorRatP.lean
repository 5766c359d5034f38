/- Fractions, plain: what Make, Valid and the operations say, in core's Rat. No program text. -/
import Derived.Test.YtmebdieflllgcaaDoorRatS
namespace Go.Proofs.YtmebdieflllgcaaDoor
def fitsQ (q : Rat) : Prop := q.num.natAbs ≤ 1073741824 ∧ q.den ≤ 1073741824
instance fitsDec (q : Rat) : Decidable (fitsQ q) := by unfold fitsQ; infer_instance
/-- What a fraction that has the value q is: numerator, denominator, error. -/
def mkQ (q : Rat) : Int × Int × Int := if fitsQ q then (q.num, (q.den : Int), 0) else (0, 0, 5)
def mkR (n d : Int) : Int × Int × Int := if d = 0 then (0, 0, 18) else mkQ (Rat.divInt n d)
def vF (n d : Int) : Prop := 1 ≤ d ∧ d ≤ 1073741824 ∧ -1073741824 ≤ n ∧ n ≤ 1073741824 ∧ Int.gcd n d = 1
instance vFDec (n d : Int) : Decidable (vF n d) := by unfold vF; infer_instance
def vldB (n d : Int) : Bool := decide (vF n d)
theorem vldB_true {n d : Int} : vldB n d = true ↔ vF n d := by unfold vldB; exact decide_eq_true_iff
theorem vldB_false {n d : Int} : vldB n d = false ↔ ¬ vF n d := by unfold vldB; exact decide_eq_false_iff_not
theorem vF_num {n d : Int} (h : vF n d) : (Rat.divInt n d).num = n := by
  obtain ⟨h1, _, _, _, hg⟩ := h
  rw [make_num n d (by omega), if_pos (by omega), hg]
  simp
theorem vF_den {n d : Int} (h : vF n d) : ((Rat.divInt n d).den : Int) = d := by
  obtain ⟨h1, _, _, _, hg⟩ := h
  rw [make_den n d (by omega), if_pos (by omega), hg]
  simp
theorem vF_fits {n d : Int} (h : vF n d) : fitsQ (Rat.divInt n d) := by
  have h1 := vF_num h
  have h2 := vF_den h
  obtain ⟨a, b, c, e, _⟩ := h
  exact ⟨by rw [h1]; omega, by omega⟩
theorem fits_vF {q : Rat} (h : fitsQ q) : vF q.num q.den := by
  obtain ⟨a, b⟩ := h
  have hp := q.den_pos
  refine ⟨by omega, by omega, by omega, by omega, ?_⟩
  have := q.reduced
  unfold Nat.Coprime at this
  simpa [Int.gcd] using this
theorem fits_back (q : Rat) : Rat.divInt q.num q.den = q := Rat.num_divInt_den q
theorem mkQ_ok {q : Rat} (h : fitsQ q) : mkQ q = (q.num, (q.den : Int), 0) := by unfold mkQ; rw [if_pos h]
theorem mkQ_big {q : Rat} (h : ¬ fitsQ q) : mkQ q = (0, 0, 5) := by unfold mkQ; rw [if_neg h]
theorem mkR_zero (n : Int) : mkR n 0 = (0, 0, 18) := by unfold mkR; rw [if_pos rfl]
theorem mkR_ne {n d : Int} (h : d ≠ 0) : mkR n d = mkQ (Rat.divInt n d) := by unfold mkR; rw [if_neg h]
theorem mkR_valid {n d : Int} (h : vF n d) : mkR n d = (n, d, 0) := by
  rw [mkR_ne (by have := h.1; omega), mkQ_ok (vF_fits h), vF_num h, vF_den h]
theorem vF_of_mkR {n d : Int} (h1 : 1 ≤ d) (h2 : d ≤ 1073741824) (_h3 : -1073741824 ≤ n) (_h4 : n ≤ 1073741824) (h : mkR n d = (n, d, 0)) : vF n d := by
  rw [mkR_ne (by omega)] at h
  by_cases hf : fitsQ (Rat.divInt n d)
  · rw [mkQ_ok hf] at h
    have e1 := congrArg Prod.fst h
    have e2 := congrArg (fun x => x.2.1) h
    dsimp only at e1 e2
    have := fits_vF hf
    rwa [e1, e2] at this
  · rw [mkQ_big hf] at h
    have := congrArg (fun x => x.2.2) h
    simp at this
/-- What Make takes for numerator and denominator. -/
theorem mkR_cases {n d : Int} (h : d ≠ 0) : mkR n d = if n.natAbs / Int.gcd n d ≤ 1073741824 ∧ d.natAbs / Int.gcd n d ≤ 1073741824 then
    (if (n < 0) ↔ (d < 0) then ((n.natAbs / Int.gcd n d : Nat) : Int) else -((n.natAbs / Int.gcd n d : Nat) : Int), ((d.natAbs / Int.gcd n d : Nat) : Int), 0) else (0, 0, 5) := by
  have hn := make_num n d h
  have hd := make_den n d h
  have hg : (Int.gcd n d : Int) ∣ n := Int.gcd_dvd_left n d
  have hgd : (Int.gcd n d : Int) ∣ d := Int.gcd_dvd_right n d
  have hg0 : 0 < Int.gcd n d := Int.gcd_pos_of_ne_zero_right n h
  generalize Int.gcd n d = g at hn hd hg hgd hg0 ⊢
  have en : ((n.natAbs / g : Nat) : Int) = (n.natAbs : Int) / (g : Int) := by simp
  have ed : ((d.natAbs / g : Nat) : Int) = (d.natAbs : Int) / (g : Int) := by simp
  have hn2 : (Rat.divInt n d).num = if (n < 0) ↔ (d < 0) then ((n.natAbs / g : Nat) : Int) else -((n.natAbs / g : Nat) : Int) := by
    rw [hn, en]
    by_cases h1 : n < 0
    · have e1 : (n.natAbs : Int) = -n := by omega
      rw [e1, Int.neg_ediv_of_dvd hg]
      by_cases h2 : d < 0
      · rw [if_neg (by omega), if_pos (by simp [h1, h2])]
      · rw [if_pos (by omega), if_neg (by simp [h1, h2]), Int.neg_neg]
    · have e1 : (n.natAbs : Int) = n := by omega
      rw [e1]
      by_cases h2 : d < 0
      · rw [if_neg (by omega), if_neg (by simp [h1, h2])]
      · rw [if_pos (by omega), if_pos (by simp [h1, h2])]
  have hd2 : (Rat.divInt n d).den = d.natAbs / g := by
    have : ((Rat.divInt n d).den : Int) = ((d.natAbs / g : Nat) : Int) := by
      rw [hd, ed]
      by_cases h2 : 0 < d
      · rw [if_pos h2]
        have e1 : (d.natAbs : Int) = d := by omega
        rw [e1]
      · rw [if_neg h2]
        have e1 : (d.natAbs : Int) = -d := by omega
        rw [e1, Int.neg_ediv_of_dvd hgd]
    omega
  have hn3 : (Rat.divInt n d).num.natAbs = n.natAbs / g := by
    rw [hn2]
    split
    · rw [Int.natAbs_natCast]
    · rw [Int.natAbs_neg, Int.natAbs_natCast]
  rw [mkR_ne h]
  by_cases hc : n.natAbs / g ≤ 1073741824 ∧ d.natAbs / g ≤ 1073741824
  · rw [if_pos hc, mkQ_ok (by unfold fitsQ; rw [hn3, hd2]; exact hc), hn2, hd2]
  · rw [if_neg hc, mkQ_big (by unfold fitsQ; rw [hn3, hd2]; exact hc)]

/-! ### the operations -/
def addR (n d m e : Int) : Int × Int × Int := if vldB n d && vldB m e then mkR (n * e + m * d) (d * e) else (0, 0, 1)
def subR (n d m e : Int) : Int × Int × Int := if vldB n d && vldB m e then mkR (n * e - m * d) (d * e) else (0, 0, 1)
def mulR (n d m e : Int) : Int × Int × Int := if vldB n d && vldB m e then mkR (n * m) (d * e) else (0, 0, 1)
def divR (n d m e : Int) : Int × Int × Int := if vldB n d && vldB m e then mkR (n * e) (d * m) else (0, 0, 1)
theorem addR_q {n d m e : Int} (h : vF n d) (k : vF m e) : addR n d m e = mkQ (Rat.divInt n d + Rat.divInt m e) := by
  unfold addR
  rw [vldB_true.2 h, vldB_true.2 k]
  have hd := h.1
  have he := k.1
  rw [Bool.and_self, if_pos rfl, mkR_ne (Int.mul_ne_zero (by omega) (by omega)), Rat.divInt_add_divInt _ _ (by omega) (by omega)]
theorem subR_q {n d m e : Int} (h : vF n d) (k : vF m e) : subR n d m e = mkQ (Rat.divInt n d - Rat.divInt m e) := by
  unfold subR
  rw [vldB_true.2 h, vldB_true.2 k]
  have hd := h.1
  have he := k.1
  rw [Bool.and_self, if_pos rfl, mkR_ne (Int.mul_ne_zero (by omega) (by omega)), Rat.divInt_sub_divInt _ _ (by omega) (by omega)]
theorem mulR_q {n d m e : Int} (h : vF n d) (k : vF m e) : mulR n d m e = mkQ (Rat.divInt n d * Rat.divInt m e) := by
  unfold mulR
  rw [vldB_true.2 h, vldB_true.2 k]
  have hd := h.1
  have he := k.1
  rw [Bool.and_self, if_pos rfl, mkR_ne (Int.mul_ne_zero (by omega) (by omega)), Rat.divInt_mul_divInt]
theorem divR_zero {n d m e : Int} (h : vF n d) (k : vF m e) (hm : m = 0) : divR n d m e = (0, 0, 18) := by
  unfold divR
  rw [vldB_true.2 h, vldB_true.2 k, hm]
  rw [Bool.and_self, if_pos rfl, Int.mul_zero, mkR_zero]
theorem divR_q {n d m e : Int} (h : vF n d) (k : vF m e) (hm : m ≠ 0) : divR n d m e = mkQ (Rat.divInt n d / Rat.divInt m e) := by
  unfold divR
  rw [vldB_true.2 h, vldB_true.2 k]
  have hd := h.1
  rw [Bool.and_self, if_pos rfl, mkR_ne (Int.mul_ne_zero (by omega) hm), Rat.div_def, Rat.inv_divInt, Rat.divInt_mul_divInt]
theorem neg_vF {m e : Int} (k : vF m e) : vF (-m) e := by
  obtain ⟨a, b, c, d, g⟩ := k
  exact ⟨a, b, by omega, by omega, by rw [Int.neg_gcd]; exact g⟩
theorem sub_add (n d m e : Int) : subR n d m e = if vldB n d && vldB m e then addR n d (-m) e else (0, 0, 1) := by
  unfold subR addR
  cases h1 : vldB n d with
  | false => simp
  | true =>
    cases h2 : vldB m e with
    | false => simp
    | true =>
      have h3 : vldB (-m) e = true := vldB_true.2 (neg_vF (vldB_true.1 h2))
      rw [h3]
      simp only [Bool.and_self, if_true]
      rw [Int.neg_mul, Int.sub_eq_add_neg]
/-- Whatever an operation gives is valid, or nothing with an error. -/
theorem mkQ_or (q : Rat) : (∃ x y : Int, mkQ q = (x, y, 0) ∧ vF x y ∧ Rat.divInt x y = q) ∨ mkQ q = (0, 0, 5) := by
  by_cases h : fitsQ q
  · exact .inl ⟨q.num, q.den, mkQ_ok h, fits_vF h, fits_back q⟩
  · exact .inr (mkQ_big h)
theorem mkR_or (n d : Int) : (∃ x y : Int, mkR n d = (x, y, 0) ∧ vF x y) ∨ ∃ z : Int, mkR n d = (0, 0, z) ∧ (z = 5 ∨ z = 18) := by
  by_cases h : d = 0
  · exact .inr ⟨18, by rw [h]; exact mkR_zero n, .inr rfl⟩
  · rw [mkR_ne h]
    rcases mkQ_or (Rat.divInt n d) with ⟨x, y, e, v, _⟩ | e
    · exact .inl ⟨x, y, e, v⟩
    · exact .inr ⟨5, e, .inl rfl⟩
end Go.Proofs.YtmebdieflllgcaaDoor
