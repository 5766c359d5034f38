/- Numerals, plain: what itoa writes is read again; a text is cut at its slash. No program text. -/
import Derived.Lib.AtoiTie
import Derived.Lib.ItoaNum
import Derived.Lib.IndexMore
namespace Go.Proofs.YtmebdieflllgcaaDoor

theorem dec_bytes : ∀ (u : Nat) (b : UInt8), b ∈ Lib.decDigits u → 48 ≤ b.toNat ∧ b.toNat ≤ 57 := by
  intro u
  induction u using Nat.strongRecOn with
  | _ u ih =>
    intro b hb
    rw [Lib.decDigits] at hb
    split at hb
    · rename_i h
      simp at hb
      subst hb
      simp
      omega
    · rename_i h
      rw [List.mem_append] at hb
      rcases hb with hb | hb
      · exact ih (u / 10) (by omega) b hb
      · simp at hb
        subst hb
        simp
        omega
theorem dec_ne (u : Nat) : Lib.decDigits u ≠ [] := by
  rw [Lib.decDigits]
  split <;> simp
theorem itoa_bytes (n : Int) (b : UInt8) (hb : b ∈ Lib.itoa n) : b.toNat = 45 ∨ (48 ≤ b.toNat ∧ b.toNat ≤ 57) := by
  unfold Lib.itoa at hb
  split at hb
  · rw [List.mem_cons] at hb
    rcases hb with rfl | hb
    · exact .inl rfl
    · exact .inr (dec_bytes _ b hb)
  · exact .inr (dec_bytes _ b hb)
theorem decFrom_app : ∀ (l : List UInt8) (acc n : Nat) (r : List UInt8), Lib.decFrom acc l = some n → Lib.decFrom acc (l ++ r) = Lib.decFrom n r := by
  intro l
  induction l with
  | nil => intro acc n r h; simp [Lib.decFrom] at h; subst h; rfl
  | cons b l ih =>
    intro acc n r h
    rw [Lib.decFrom] at h
    rw [List.cons_append, Lib.decFrom]
    cases hd : Lib.digitVal b with
    | none => rw [hd] at h; cases h
    | some d => rw [hd] at h; exact ih _ _ r h
theorem digitVal_dig {d : Nat} (h : d < 10) : Lib.digitVal (UInt8.ofNat (48 + d)) = some d := by
  have : ∀ d : Fin 10, Lib.digitVal (UInt8.ofNat (48 + d.val)) = some d.val := by decide +kernel
  exact this ⟨d, h⟩
theorem decFrom_dec : ∀ u : Nat, Lib.decFrom 0 (Lib.decDigits u) = some u := by
  intro u
  induction u using Nat.strongRecOn with
  | _ u ih =>
    rw [Lib.decDigits]
    split
    · rename_i h
      rw [Lib.decFrom, digitVal_dig h]
      simp [Lib.decFrom]
    · rename_i h
      rw [decFrom_app _ _ _ _ (ih (u / 10) (by omega)), Lib.decFrom, digitVal_dig (by omega)]
      simp only [Lib.decFrom]
      congr 1
      omega
theorem decNat_dec (u : Nat) : Lib.decNat (Lib.decDigits u) = some u := by
  unfold Lib.decNat
  have : (Lib.decDigits u).isEmpty = false := by
    cases h : Lib.decDigits u with
    | nil => exact absurd h (dec_ne u)
    | cons => rfl
  rw [this]
  exact decFrom_dec u
theorem atoi_itoa (n : Int) : Lib.atoi (Lib.itoa n) = some n := by
  unfold Lib.itoa
  split
  · rename_i h
    rw [Lib.atoi]
    simp only [beq_self_eq_true, if_true]
    rw [decNat_dec]
    simp
    omega
  · rename_i h
    have hd := decNat_dec n.toNat
    have hb := dec_bytes n.toNat
    have hne := dec_ne n.toNat
    cases hl : Lib.decDigits n.toNat with
    | nil => exact absurd hl hne
    | cons b r =>
      rw [hl] at hd hb
      have h1 := hb b (List.mem_cons_self ..)
      have e1 : (b == 45) = false := by
        rw [beq_eq_false_iff_ne]
        intro e; subst e; simp at h1
      have e2 : (b == 43) = false := by
        rw [beq_eq_false_iff_ne]
        intro e; subst e; simp at h1
      rw [Lib.atoi, e1, e2]
      simp only [Bool.false_eq_true, if_false]
      rw [hd]
      simp
      omega
theorem dec_len11 : ∀ (k u : Nat), u < 10 ^ (k + 1) → (Lib.decDigits u).length ≤ k + 1 := by
  intro k
  induction k with
  | zero => intro u h; rw [Lib.decDigits, dif_pos (by omega)]; simp
  | succ k ih =>
    intro u h
    rw [Lib.decDigits]
    split
    · simp
    · rw [List.length_append]
      have := ih (u / 10) (by rw [Nat.pow_succ] at h; omega)
      simp only [List.length_cons, List.length_nil]
      omega
theorem itoa_len11 (n : Int) (h1 : -1073741824 ≤ n) (h2 : n ≤ 1073741824) : (Lib.itoa n).length ≤ 11 := by
  unfold Lib.itoa
  split
  · have := dec_len11 9 n.natAbs (by omega)
    simp only [List.length_cons]
    omega
  · have := dec_len11 9 n.toNat (by omega)
    omega
theorem atoiAll_itoa (n : Int) (h1 : -1073741824 ≤ n) (h2 : n ≤ 1073741824) : Lib.atoiAll (Lib.itoa n) = .ok n := by
  rw [Lib.atoiAll_short _ (by have := itoa_len11 n h1 h2; omega), atoi_itoa]
  rfl
theorem atoiAll_one : Lib.atoiAll [49] = .ok 1 := by decide +kernel

/-! ### the slash -/
theorem index_slash : ∀ (l r : List UInt8), (∀ b ∈ l, b ≠ 47) → Lib.index (l ++ 47 :: r) [47] = l.length := by
  intro l
  induction l with
  | nil => intro r _; simp [Lib.index, List.isPrefixOf]
  | cons b l ih =>
    intro r h
    have h1 : b ≠ 47 := h b (List.mem_cons_self ..)
    have e := ih r (fun c hc => h c (List.mem_cons_of_mem _ hc))
    have e1 : (List.isPrefixOf [47] (b :: (l ++ 47 :: r))) = false := by
      simp [List.isPrefixOf]
      intro e; exact h1 e.symm
    rw [List.cons_append, Lib.index, e1, e]
    simp only [Bool.false_eq_true, if_false]
    rw [if_neg (by simp)]
    simp
theorem index_noslash : ∀ (l : List UInt8), (∀ b ∈ l, b ≠ 47) → Lib.index l [47] = -1 := by
  intro l
  induction l with
  | nil => intro _; simp [Lib.index]
  | cons b l ih =>
    intro h
    have h1 : b ≠ 47 := h b (List.mem_cons_self ..)
    have e := ih (fun c hc => h c (List.mem_cons_of_mem _ hc))
    have e1 : (List.isPrefixOf [47] (b :: l)) = false := by
      simp [List.isPrefixOf]
      intro e; exact h1 e.symm
    rw [Lib.index, e1, e]
    simp
theorem cut_slash (l r : List UInt8) (h : ∀ b ∈ l, b ≠ 47) : Lib.cut (l ++ 47 :: r) [47] = (l, r, true) := by
  unfold Lib.cut
  rw [index_slash l r h, if_pos (by omega)]
  simp [List.drop_append]
theorem cut_noslash (l : List UInt8) (h : ∀ b ∈ l, b ≠ 47) : Lib.cut l [47] = (l, [], false) := by
  unfold Lib.cut
  rw [index_noslash l h, if_neg (by omega)]
theorem itoa_noslash (n : Int) : ∀ b ∈ Lib.itoa n, b ≠ 47 := fun b hb e => by
  have := itoa_bytes n b hb
  subst e
  simp at this
end Go.Proofs.YtmebdieflllgcaaDoor
