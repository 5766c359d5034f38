/- Fractions: plain facts (layer 4, begun ahead): the reference's Make loop, and core's Rat. No program text. -/
namespace Go.Proofs.YtmebdieflllgcaaDoor
theorem gcd_step (a b : Int) : Int.gcd b (a.tmod b) = Int.gcd a b := by
  unfold Int.gcd
  rw [Int.natAbs_tmod, Nat.gcd_comm a.natAbs, Nat.gcd_rec b.natAbs a.natAbs, Nat.gcd_comm]
theorem tmod_neg_le {a b : Int} (ha : a ≤ 0) : a.tmod b ≤ 0 := by
  obtain ⟨n, rfl⟩ : ∃ n : Nat, a = -(n : Int) := ⟨a.natAbs, by omega⟩
  rw [Int.neg_tmod]
  have : 0 ≤ (n : Int).tmod b := Int.tmod_nonneg b (by omega)
  omega
theorem tmod_abs_lt {a b : Int} (hb : b ≠ 0) : (a.tmod b).natAbs < b.natAbs := by
  rw [Int.natAbs_tmod]
  exact Nat.mod_lt _ (by omega)
/-- What the reference's Make divides by at the end. -/
theorem gcd_end {a num den : Int} (ha : a ≤ 0) (h : Int.gcd a 0 = Int.gcd num den) : a = -((Int.gcd num den : Nat) : Int) := by
  rw [← h]
  simp [Int.gcd]
  omega
theorem tdiv_gcd (x g : Int) (hd : g ∣ x) : x.tdiv (-g) = -(x / g) := by
  rw [Int.tdiv_neg, Int.tdiv_eq_ediv_of_dvd hd]
theorem make_num (num den : Int) (hd : den ≠ 0) : (Rat.divInt num den).num = if 0 < den then num / ((Int.gcd num den : Nat) : Int) else -(num / ((Int.gcd num den : Nat) : Int)) := by
  rw [Rat.num_divInt, Int.gcd_comm den num]
  by_cases h : 0 < den
  · rw [if_pos h, Int.sign_eq_one_of_pos h, Int.one_mul]
  · rw [if_neg h, Int.sign_eq_neg_one_of_neg (by omega)]
    have : ((Int.gcd num den : Nat) : Int) ∣ num := Int.gcd_dvd_left num den
    rw [Int.neg_mul, Int.one_mul, Int.neg_ediv_of_dvd this]
theorem make_den (num den : Int) (hd : den ≠ 0) : ((Rat.divInt num den).den : Int) = if 0 < den then den / ((Int.gcd num den : Nat) : Int) else -(den / ((Int.gcd num den : Nat) : Int)) := by
  rw [Rat.den_divInt, if_neg hd, Int.gcd_comm den num]
  by_cases h : 0 < den
  · rw [if_pos h]
    obtain ⟨n, rfl⟩ : ∃ n : Nat, den = (n : Int) := ⟨den.natAbs, by omega⟩
    simp
  · rw [if_neg h]
    have hdv : ((Int.gcd num den : Nat) : Int) ∣ den := Int.gcd_dvd_right num den
    rw [← Int.neg_ediv_of_dvd hdv]
    obtain ⟨n, rfl⟩ : ∃ n : Nat, den = -(n : Int) := ⟨den.natAbs, by omega⟩
    simp
end Go.Proofs.YtmebdieflllgcaaDoor
