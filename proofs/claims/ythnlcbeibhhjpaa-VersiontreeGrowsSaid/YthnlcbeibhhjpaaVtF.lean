/- Plain: versions with parents, depths and jumps; the tour's order. -/
import Derived.Test.YthnlcbeibhhjpaaORow
import Derived.Test.YthnlcbeibhhjpaaOrdQ
namespace Go.Proofs.Ythnlcbeibhhjpaa
open Go.RowKit
/-- A version: its parent, depth and jump. -/
abbrev Vn := Int × Int × Int
inductive AncV (Vs : List Vn) (a : Nat) : Nat → Prop
  | refl : AncV Vs a a
  | step {b p : Nat} {v : Vn} : Vs[b]? = some v → v.1 = (p : Int) → AncV Vs a p → AncV Vs a b
/-- Versions as an index keeps them. -/
structure VsOk (Vs : List Vn) : Prop where
  root : Vs[0]? = some (-1, 0, 0)
  rest : ∀ (i : Nat) (v : Vn), Vs[i]? = some v → 0 < i → ∃ (p j : Nat) (u : Vn), v.1 = (p : Int) ∧ p < i ∧ Vs[p]? = some u ∧ v.2.1 = u.2.1 + 1 ∧ v.2.2 = (j : Int) ∧ AncV Vs j p
theorem VsOk.par {Vs : List Vn} (h : VsOk Vs) {i p : Nat} {v : Vn} (hv : Vs[i]? = some v) (hp : v.1 = (p : Int)) : p < i ∧ 0 < i := by
  by_cases h0 : i = 0
  · subst h0
    rw [h.root] at hv
    have := Option.some.inj hv
    rw [← this] at hp
    have h1 : (-1 : Int) = (p : Int) := hp
    omega
  · obtain ⟨p', j, u, h1, h2, _⟩ := h.rest i v hv (by omega)
    exact ⟨by omega, by omega⟩
theorem AncV.le {Vs : List Vn} (h : VsOk Vs) {a b : Nat} (ha : AncV Vs a b) : a ≤ b := by
  induction ha with
  | refl => exact Nat.le_refl _
  | step hv hp _ ih => have := (h.par hv hp).1; omega
theorem AncV.trans {Vs : List Vn} {a b c : Nat} (h : AncV Vs a b) (h' : AncV Vs b c) : AncV Vs a c := by
  induction h' with
  | refl => exact h
  | step hv hp _ ih => exact .step hv hp ih
theorem AncV.up {Vs : List Vn} {a b p : Nat} {v : Vn} (h : AncV Vs a b) (hv : Vs[b]? = some v) (hp : v.1 = (p : Int)) (hne : a ≠ b) : AncV Vs a p := by
  cases h with
  | refl => exact absurd rfl hne
  | step hv' hp' hr =>
    rw [hv] at hv'
    have := Option.some.inj hv'
    subst this
    rw [hp] at hp'
    have := Int.ofNat.inj hp'
    subst this
    exact hr
theorem AncV.zero {Vs : List Vn} (h : VsOk Vs) : ∀ b : Nat, b < Vs.length → AncV Vs 0 b := fun b => by
  induction b using Nat.strongRecOn with
  | ind b ih =>
    intro hb
    by_cases h0 : b = 0
    · subst h0; exact .refl
    · obtain ⟨p, j, u, h1, h2, _⟩ := h.rest b _ (List.getElem?_eq_getElem hb) (by omega)
      exact .step (List.getElem?_eq_getElem hb) h1 (ih p h2 (by omega))
/-- Two ancestors of one version. -/
theorem AncV.two {Vs : List Vn} (_h : VsOk Vs) {a b c : Nat} (ha : AncV Vs a c) (hb : AncV Vs b c) : AncV Vs a b ∨ AncV Vs b a := by
  induction ha with
  | refl => exact Or.inr hb
  | step hv hp ha' ih =>
    rename_i c' p v
    by_cases hbc : b = c'
    · subst hbc; exact Or.inl (.step hv hp ha')
    · exact ih (hb.up hv hp hbc)
theorem anc_old {Vs : List Vn} (h : VsOk Vs) {v : Vn} {a b : Nat} (hb : b < Vs.length) : AncV (Vs ++ [v]) a b ↔ AncV Vs a b := by
  constructor
  · intro ha
    induction ha with
    | refl => exact .refl
    | step hv hp _ ih =>
      rw [List.getElem?_append_left hb] at hv
      exact .step hv hp (ih (by have := (h.par hv hp).1; omega))
  · intro ha
    induction ha with
    | refl => exact .refl
    | step hv hp _ ih => exact .step (by rw [List.getElem?_append_left hb]; exact hv) hp (ih (by have := (h.par hv hp).1; omega))
theorem anc_new {Vs : List Vn} (h : VsOk Vs) {v : Vn} {a p : Nat} (hp : v.1 = (p : Int)) (hpl : p < Vs.length) : AncV (Vs ++ [v]) a Vs.length ↔ a = Vs.length ∨ AncV Vs a p := by
  have hv : (Vs ++ [v])[Vs.length]? = some v := by simp
  constructor
  · intro ha
    by_cases hne : a = Vs.length
    · exact Or.inl hne
    · exact Or.inr ((anc_old h hpl).1 (ha.up hv hp hne))
  · rintro (rfl | ha)
    · exact .refl
    · exact .step hv hp ((anc_old h hpl).2 ha)
theorem VsOk.push {Vs : List Vn} (h : VsOk Vs) {p j : Nat} {u : Vn} (hu : Vs[p]? = some u) (hj : AncV Vs j p) : VsOk (Vs ++ [((p : Int), u.2.1 + 1, (j : Int))]) := by
  have hpl := (List.getElem?_eq_some_iff.1 hu).1
  refine ⟨by rw [List.getElem?_append_left (by omega)]; exact h.root, fun i v hv hi => ?_⟩
  by_cases hil : i < Vs.length
  · rw [List.getElem?_append_left hil] at hv
    obtain ⟨p', j', u', h1, h2, h3, h4, h5, h6⟩ := h.rest i v hv hi
    exact ⟨p', j', u', h1, h2, by rw [List.getElem?_append_left (by omega)]; exact h3, h4, h5, (anc_old h (by omega)).2 h6⟩
  · have hie : i = Vs.length := by
      have := (List.getElem?_eq_some_iff.1 hv).1
      simp at this; omega
    subst hie
    have hvv : (Vs ++ [((p : Int), u.2.1 + 1, (j : Int))])[Vs.length]? = some ((p : Int), u.2.1 + 1, (j : Int)) := by simp
    rw [hvv] at hv
    have := Option.some.inj hv
    subst this
    exact ⟨p, j, u, rfl, by omega, by rw [List.getElem?_append_left hpl]; exact hu, rfl, rfl, (anc_old h hpl).2 hj⟩
theorem VsOk.dep {Vs : List Vn} (h : VsOk Vs) : ∀ (i : Nat) (v : Vn), Vs[i]? = some v → 0 ≤ v.2.1 ∧ v.2.1 ≤ (i : Int) := fun i => by
  induction i using Nat.strongRecOn with
  | ind i ih =>
    intro v hv
    by_cases h0 : i = 0
    · subst h0
      rw [h.root] at hv
      have := Option.some.inj hv
      subst this
      exact ⟨by decide, by decide⟩
    · obtain ⟨p, j, u, h1, h2, h3, h4, _⟩ := h.rest i v hv (by omega)
      have := ih p h2 u h3
      omega
theorem VsOk.jmp {Vs : List Vn} (h : VsOk Vs) {i : Nat} {v : Vn} (hv : Vs[i]? = some v) : ∃ j : Nat, v.2.2 = (j : Int) ∧ j ≤ i ∧ AncV Vs j i := by
  by_cases h0 : i = 0
  · subst h0
    rw [h.root] at hv
    have := Option.some.inj hv
    subst this
    exact ⟨0, rfl, Nat.le_refl _, .refl⟩
  · obtain ⟨p, j, u, h1, h2, h3, h4, h5, h6⟩ := h.rest i v hv (by omega)
    exact ⟨j, h5, by have := h6.le h; omega, .step hv h1 h6⟩
/-- The tour: each version's two visits; they enclose those of what is below it. -/
structure TourOk (Vs : List Vn) (L : List Int) : Prop where
  nod : ∀ (i j : Nat) (x : Int), L[i]? = some x → L[j]? = some x → i = j
  mem : ∀ x : Int, x ∈ L ↔ 0 ≤ x ∧ x < 2 * (Vs.length : Int)
  enc : ∀ a b p q r : Nat, a < Vs.length → b < Vs.length → L[p]? = some (2 * (a : Int)) → L[q]? = some (2 * (b : Int)) → L[r]? = some (2 * (a : Int) + 1) → ((p ≤ q ∧ q < r) ↔ AncV Vs a b)
theorem TourOk.at {Vs : List Vn} {L : List Int} (h : TourOk Vs L) {x : Int} (h0 : 0 ≤ x) (h1 : x < 2 * (Vs.length : Int)) : ∃ p : Nat, L[p]? = some x := List.getElem?_of_mem ((h.mem x).2 ⟨h0, h1⟩)
theorem tour_get {L : List Int} {k : Nat} {x y : Int} (hk : k < L.length) (i : Nat) : (insE (insE L (k + 1) x) (k + 2) y)[i]? = if i ≤ k then L[i]? else if i = k + 1 then some x else if i = k + 2 then some y else L[i - 2]? := by
  rw [insE_get _ _ (by rw [insE_len _ _ (by omega)]; omega), insE_get _ _ (by omega), insE_get _ _ (by omega)]
  by_cases h1 : i ≤ k
  · rw [if_pos (by omega), if_pos (by omega), if_pos h1]
  · by_cases h2 : i = k + 1
    · rw [if_pos (by omega), if_neg (by omega), if_pos h2, if_neg h1, if_pos h2]
    · by_cases h3 : i = k + 2
      · rw [if_neg (by omega), if_pos h3, if_neg h1, if_neg h2, if_pos h3]
      · rw [if_neg (by omega), if_neg h3, if_neg (by omega), if_neg (by omega), if_neg h1, if_neg h2, if_neg h3, show i - 1 - 1 = i - 2 by omega]
theorem TourOk.push {Vs : List Vn} {L : List Int} (h : TourOk Vs L) (hv : VsOk Vs) {v : Vn} {p k : Nat} (hp : v.1 = (p : Int)) (hpl : p < Vs.length) (hk : L[k]? = some (2 * (p : Int))) :
    TourOk (Vs ++ [v]) (insE (insE L (k + 1) (2 * (Vs.length : Int))) (k + 2) (2 * (Vs.length : Int) + 1)) := by
  have hkl := (List.getElem?_eq_some_iff.1 hk).1
  have hlen : (Vs ++ [v]).length = Vs.length + 1 := by simp
  have hlt : ∀ {i : Nat} {x : Int}, L[i]? = some x → 0 ≤ x ∧ x < 2 * (Vs.length : Int) := fun hi => (h.mem _).1 (List.mem_of_getElem? hi)
  -- where an old number stands
  have old : ∀ {i : Nat} {x : Int}, (insE (insE L (k + 1) (2 * (Vs.length : Int))) (k + 2) (2 * (Vs.length : Int) + 1))[i]? = some x → x < 2 * (Vs.length : Int) → ∃ i0 : Nat, L[i0]? = some x ∧ i = if i0 ≤ k then i0 else i0 + 2 := fun {i x} hi hx => by
    rw [tour_get hkl] at hi
    split at hi
    · rename_i h1; exact ⟨i, hi, by rw [if_pos h1]⟩
    · split at hi
      · have := Option.some.inj hi; omega
      · split at hi
        · have := Option.some.inj hi; omega
        · rename_i h1 h2 h3; exact ⟨i - 2, hi, by rw [if_neg (by omega)]; omega⟩
  have new : ∀ {i : Nat} {x : Int}, (insE (insE L (k + 1) (2 * (Vs.length : Int))) (k + 2) (2 * (Vs.length : Int) + 1))[i]? = some x → 2 * (Vs.length : Int) ≤ x → (i = k + 1 ∧ x = 2 * (Vs.length : Int)) ∨ (i = k + 2 ∧ x = 2 * (Vs.length : Int) + 1) := fun {i x} hi hx => by
    rw [tour_get hkl] at hi
    split at hi
    · have := (hlt hi).2; omega
    · split at hi
      · rename_i h1 h2; exact Or.inl ⟨h2, (Option.some.inj hi).symm⟩
      · split at hi
        · rename_i h1 h2 h3; exact Or.inr ⟨h3, (Option.some.inj hi).symm⟩
        · have := (hlt hi).2; omega
  refine ⟨fun i j x hi hj => ?_, fun x => ?_, fun a b p' q' r' ha hb hp' hq' hr' => ?_⟩
  · by_cases hx : x < 2 * (Vs.length : Int)
    · obtain ⟨i0, h1, h2⟩ := old hi hx
      obtain ⟨j0, h3, h4⟩ := old hj hx
      have := h.nod i0 j0 x h1 h3
      subst this
      rw [h2, h4]
    · rcases new hi (by omega) with h1 | h1 <;> rcases new hj (by omega) with h2 | h2 <;> omega
  · rw [mem_insE, mem_insE, h.mem, hlen]
    push_cast
    constructor
    · rintro (h1 | h1 | h1) <;> omega
    · intro h1
      by_cases hx : x = 2 * (Vs.length : Int) + 1
      · exact Or.inl hx
      · by_cases hx2 : x = 2 * (Vs.length : Int)
        · exact Or.inr (Or.inl hx2)
        · exact Or.inr (Or.inr (by omega))
  · rw [hlen] at ha hb
    by_cases hbn : b = Vs.length
    · subst hbn
      rw [anc_new hv hp hpl]
      have hq : q' = k + 1 := by rcases new hq' (by omega) with h1 | h1 <;> omega
      by_cases han : a = Vs.length
      · subst han
        have hpp : p' = k + 1 := by rcases new hp' (by omega) with h1 | h1 <;> omega
        have hrr : r' = k + 2 := by rcases new hr' (by omega) with h1 | h1 <;> omega
        constructor
        · intro _; exact Or.inl rfl
        · intro _; omega
      · obtain ⟨p0, h1, h2⟩ := old hp' (by omega)
        obtain ⟨r0, h3, h4⟩ := old hr' (by omega)
        have he := h.enc a p p0 k r0 (by omega) hpl h1 hk h3
        constructor
        · rintro ⟨h5, h6⟩
          refine Or.inr (he.1 ⟨?_, ?_⟩)
          · split at h2 <;> omega
          · split at h4 <;> omega
        · rintro (h5 | h5)
          · exact absurd h5 han
          · have := he.2 h5
            constructor
            · split at h2 <;> omega
            · split at h4 <;> omega
    · rw [anc_old hv (show b < Vs.length by omega)]
      obtain ⟨q0, h5, h6⟩ := old hq' (by omega)
      by_cases han : a = Vs.length
      · subst han
        have hpp : p' = k + 1 := by rcases new hp' (by omega) with h1 | h1 <;> omega
        have hrr : r' = k + 2 := by rcases new hr' (by omega) with h1 | h1 <;> omega
        constructor
        · rintro ⟨h7, h8⟩
          exfalso
          split at h6 <;> omega
        · intro h7
          have := h7.le hv
          omega
      · obtain ⟨p0, h1, h2⟩ := old hp' (by omega)
        obtain ⟨r0, h3, h4⟩ := old hr' (by omega)
        have he := h.enc a b p0 q0 r0 (by omega) (by omega) h1 h5 h3
        rw [← he]
        constructor
        · rintro ⟨h7, h8⟩
          constructor
          · split at h2 <;> split at h6 <;> omega
          · split at h6 <;> split at h4 <;> omega
        · rintro ⟨h7, h8⟩
          constructor
          · split at h2 <;> split at h6 <;> omega
          · split at h6 <;> split at h4 <;> omega
theorem TourOk.start : TourOk [(-1, 0, 0)] [0, 1] := by
  refine ⟨fun i j x hi hj => ?_, fun x => ?_, fun a b p q r ha hb hp hq hr => ?_⟩
  · have h1 := (List.getElem?_eq_some_iff.1 hi).1
    have h2 := (List.getElem?_eq_some_iff.1 hj).1
    simp at h1 h2
    rcases (show i = 0 ∨ i = 1 by omega) with rfl | rfl <;> rcases (show j = 0 ∨ j = 1 by omega) with rfl | rfl
    · rfl
    · simp at hi hj; omega
    · simp at hi hj; omega
    · rfl
  · simp; omega
  · have ha0 : a = 0 := by simpa using ha
    have hb0 : b = 0 := by simpa using hb
    subst ha0 hb0
    have h1 := (List.getElem?_eq_some_iff.1 hp).1
    have h2 := (List.getElem?_eq_some_iff.1 hq).1
    have h3 := (List.getElem?_eq_some_iff.1 hr).1
    simp at h1 h2 h3
    have hp0 : p = 0 := by rcases (show p = 0 ∨ p = 1 by omega) with rfl | rfl; rfl; simp at hp
    have hq0 : q = 0 := by rcases (show q = 0 ∨ q = 1 by omega) with rfl | rfl; rfl; simp at hq
    have hr1 : r = 1 := by rcases (show r = 0 ∨ r = 1 by omega) with rfl | rfl; simp at hr; rfl
    subst hp0 hq0 hr1
    exact ⟨fun _ => .refl, fun _ => by omega⟩
theorem VsOk.start : VsOk [(-1, 0, 0)] := ⟨rfl, fun i v hv hi => by
  have := (List.getElem?_eq_some_iff.1 hv).1
  simp at this
  omega⟩
end Go.Proofs.Ythnlcbeibhhjpaa
