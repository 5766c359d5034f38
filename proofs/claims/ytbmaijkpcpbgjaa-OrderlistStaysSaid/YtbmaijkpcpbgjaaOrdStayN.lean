/- Plain: what further steps do to the order and the labels of the elements that were there. -/
import Derived.Test.YtbmaijkpcpbgjaaOrdAsks
namespace Go.Proofs.Ytbmaijkpcpbgjaa
open Go.RowKit
theorem countP_or {α : Type} {p q r : α → Bool} (h : ∀ a, p a = true → q a = true ∨ r a = true) : ∀ L : List α, L.countP p ≤ L.countP q + L.countP r
  | [] => by simp
  | a :: L => by
    have ih := countP_or h L
    rw [List.countP_cons, List.countP_cons, List.countP_cons]
    cases hp : p a
    · simp; omega
    · rcases h a hp with hq | hr
      · rw [hq]; simp; omega
      · rw [hr]; simp; omega
theorem countP_num {n : Nat} : ∀ {L : List El}, (L.map El.num).Nodup → L.countP (fun a => a.num == n) ≤ 1
  | [], _ => by simp
  | a :: L, h => by
    rw [List.map_cons, List.nodup_cons] at h
    rw [List.countP_cons]
    by_cases ha : a.num = n
    · have : L.countP (fun a => a.num == n) = 0 := by
        rw [List.countP_eq_zero]
        intro b hb hbn
        have hbn' : b.num = n := by simpa using hbn
        exact h.1 (List.mem_map.2 ⟨b, hb, by rw [hbn', ha]⟩)
      rw [this]; split <;> omega
    · have ih := countP_num (n := n) h.2
      have : (a.num == n) = false := by simpa using ha
      rw [this]; simp; exact ih
/-- The element has another label now. -/
def chgB (E : List El) (a : El) : Bool := E.any fun b => b.num == a.num && b.lab != a.lab
/-- How many of the elements that were there have another label now. -/
def chgd (E0 E : List El) : Nat := E0.countP (chgB E)
theorem chgB_iff {E : List El} {a : El} : chgB E a = true ↔ ∃ b ∈ E, b.num = a.num ∧ b.lab ≠ a.lab := by
  unfold chgB
  rw [List.any_eq_true]
  constructor
  · rintro ⟨b, hb, h⟩
    simp only [Bool.and_eq_true, beq_iff_eq, bne_iff_ne, ne_eq] at h
    exact ⟨b, hb, h.1, h.2⟩
  · rintro ⟨b, hb, h1, h2⟩
    exact ⟨b, hb, by simp [h1, h2]⟩
theorem chgd_self (E0 : List El) (hn : (E0.map El.num).Nodup) : chgd E0 E0 = 0 := by
  unfold chgd
  rw [List.countP_eq_zero]
  intro a ha hc
  obtain ⟨b, hb, h1, h2⟩ := chgB_iff.1 hc
  obtain ⟨i, hi⟩ := List.getElem?_of_mem ha
  obtain ⟨j, hj⟩ := List.getElem?_of_mem hb
  have := num_inj hn hj hi h1
  subst this
  rw [hi] at hj
  exact h2 (by rw [Option.some.inj hj])
theorem chgd_set (E0 E : List El) (hn : (E0.map El.num).Nodup) {j : Nat} {e : El} (_hj : E[j]? = some e) (l : Int) : chgd E0 (E.set j { e with lab := l }) ≤ chgd E0 E + 1 := by
  have h1 := countP_or (p := chgB (E.set j { e with lab := l })) (q := chgB E) (r := fun a => a.num == e.num) (fun a ha => by
    obtain ⟨b, hb, h1, h2⟩ := chgB_iff.1 ha
    rcases List.mem_or_eq_of_mem_set hb with hb | hb
    · exact Or.inl (chgB_iff.2 ⟨b, hb, h1, h2⟩)
    · subst hb
      exact Or.inr (by simpa using h1.symm)) E0
  have h2 := countP_num (n := e.num) hn
  unfold chgd
  omega
theorem chgd_relab (E0 E : List El) (hn : (E0.map El.num).Nodup) (st : Nat) : ∀ k, k ≤ E.length → chgd E0 (relab E st k) ≤ chgd E0 E + chgE E st k
  | 0, _ => by simp [relab, chgE]
  | k + 1, hk => by
    have ih := chgd_relab E0 E hn st k (by omega)
    obtain ⟨f, hf⟩ : ∃ f, E[k]? = some f := ⟨E[k]'(by omega), List.getElem?_eq_getElem _⟩
    rw [chg_next hf]
    by_cases he : f.lab = (((k + 1) * st : Nat) : Int)
    · rw [if_pos he, relab_same hf he]; omega
    · rw [if_neg he, relab_next hf]
      have := chgd_set E0 (relab E st k) hn ((relab_later E st k k (Nat.le_refl _)).trans hf) ((((k + 1) * st : Nat) : Int))
      omega
theorem chgd_mono {E0 E E' : List El} (h : ∀ a ∈ E0, ∀ b ∈ E', b.num = a.num → b ∈ E) : chgd E0 E' ≤ chgd E0 E := by
  unfold chgd
  refine List.countP_mono_left fun a ha hc => ?_
  obtain ⟨b, hb, h1, h2⟩ := chgB_iff.1 hc
  exact chgB_iff.2 ⟨b, h a ha b hb h1, h1, h2⟩
/-- Elements that were there stand as they stood. -/
def OrdK (L0 L : List Int) : Prop := ∀ (i j p q : Nat) (x y : Int), i < j → L0[i]? = some x → L0[j]? = some y → L[p]? = some x → L[q]? = some y → p < q
theorem ordK_self {E : List El} (hn : (E.map El.num).Nodup) : OrdK (ords E) (ords E) := fun i j p q x y hij hi hj hp hq => by
  have key : ∀ {a b : Nat} {z : Int}, (ords E)[a]? = some z → (ords E)[b]? = some z → a = b := fun {a b z} ha hb => by
    unfold ords at ha hb
    rw [List.getElem?_map] at ha hb
    obtain ⟨e, he, h1⟩ := Option.map_eq_some_iff.1 ha
    obtain ⟨f, hf, h2⟩ := Option.map_eq_some_iff.1 hb
    exact num_inj hn he hf (by omega)
  have h1 := key hi hp
  have h2 := key hj hq
  omega
theorem ordK_ins {L0 L : List Int} (h : OrdK L0 L) {k : Nat} {n : Int} (hk : k ≤ L.length) (hn : n ∉ L0) : OrdK L0 (insE L k n) := fun i j p q x y hij hi hj hp hq => by
  have hx : x ≠ n := fun e => hn (e ▸ List.mem_of_getElem? hi)
  have hy : y ≠ n := fun e => hn (e ▸ List.mem_of_getElem? hj)
  rw [insE_get L n hk] at hp hq
  by_cases p1 : p < k
  · rw [if_pos p1] at hp
    by_cases q1 : q < k
    · rw [if_pos q1] at hq; exact h i j p q x y hij hi hj hp hq
    · omega
  · rw [if_neg p1] at hp
    by_cases p2 : p = k
    · rw [if_pos p2] at hp; exact absurd (Option.some.inj hp).symm hx
    · rw [if_neg p2] at hp
      by_cases q1 : q < k
      · rw [if_pos q1] at hq; have := h i j (p - 1) q x y hij hi hj hp hq; omega
      · rw [if_neg q1] at hq
        by_cases q2 : q = k
        · rw [if_pos q2] at hq; exact absurd (Option.some.inj hq).symm hy
        · rw [if_neg q2] at hq; have := h i j (p - 1) (q - 1) x y hij hi hj hp hq; omega
theorem ordK_erase {L0 L : List Int} (h : OrdK L0 L) (k : Nat) : OrdK L0 (L.eraseIdx k) := fun i j p q x y hij hi hj hp hq => by
  rw [erase_get] at hp hq
  split at hp <;> split at hq
  · exact h i j p q x y hij hi hj hp hq
  · omega
  · have := h i j (p + 1) q x y hij hi hj hp hq; omega
  · have := h i j (p + 1) (q + 1) x y hij hi hj hp hq; omega
theorem OSt.lt {B x made : Nat} {mv : Int} {E : List El} {W : World} (h : OSt B x made mv E W) {e : El} (he : e ∈ E) : e.num < made := by
  obtain ⟨_, _, h1⟩ := h.ol
  exact (h1.low e he).2
/-- What the steps behind a moment keep. -/
structure Kept (E0 : List El) (mv0 : Int) (made : Nat) (mv : Int) (E : List El) : Prop where
  ord : OrdK (ords E0) (ords E)
  chg : (chgd E0 E : Int) ≤ mv - mv0
  low : ∀ a ∈ E0, a.num < made
  nod : (E0.map El.num).Nodup
theorem Kept.start {B x made : Nat} {mv : Int} {E : List El} {W : World} (h : OSt B x made mv E W) : Kept E mv made mv E :=
  ⟨ordK_self h.nums, by rw [chgd_self E h.nums]; simp, fun _ ha => h.lt ha, h.nums⟩
theorem Kept.ins {E0 E : List El} {mv0 mv : Int} {made k a : Nat} (h : Kept E0 mv0 made mv E) (hk : k ≤ E.length) : Kept E0 mv0 (made + 1) (sprM mv E k) (insE (sprE E k) k ⟨made, newL (sprE E k) k, a⟩) := by
  have hno : (made : Int) ∉ ords E0 := fun hm => by
    obtain ⟨e, he, hn⟩ := List.mem_map.1 hm
    have := h.low e he
    omega
  refine ⟨?_, ?_, fun a ha => by have := h.low a ha; omega, h.nod⟩
  · rw [ords_ins, ords_spr]
    exact ordK_ins h.ord (by rw [ords_len]; exact hk) hno
  · have h1 : chgd E0 (insE (sprE E k) k ⟨made, newL (sprE E k) k, a⟩) ≤ chgd E0 (sprE E k) := chgd_mono fun a ha b hb hn => by
      rcases (mem_insE _ _ _ _).1 hb with rfl | hb
      · have h2 := h.low a ha
        have h3 : made = a.num := hn
        omega
      · exact hb
    have h2 := h.chg
    unfold sprE sprM at *
    split at h1
    · rename_i hs
      rw [if_pos hs, if_pos hs]
      have h3 := chgd_relab E0 E h.nod (stE E) E.length (Nat.le_refl _)
      omega
    · rename_i hs
      rw [if_neg hs, if_neg hs]
      omega
theorem Kept.del {E0 E : List El} {mv0 mv : Int} {made j : Nat} (h : Kept E0 mv0 made mv E) : Kept E0 mv0 made mv (E.eraseIdx j) := by
  refine ⟨by rw [ords_erase]; exact ordK_erase h.ord j, ?_, h.low, h.nod⟩
  have h1 : chgd E0 (E.eraseIdx j) ≤ chgd E0 E := chgd_mono fun a _ b hb _ => List.mem_of_mem_eraseIdx hb
  have := h.chg
  omega
/-- The element that is still there: whether its label is another one. -/
theorem chgB_at {E : List El} (hn : (E.map El.num).Nodup) {p : Nat} {f a : El} (hp : E[p]? = some f) (hfa : f.num = a.num) : chgB E a = (f.lab != a.lab) := by
  cases hc : chgB E a
  · by_cases hl : f.lab = a.lab
    · simp [hl]
    · rw [chgB_iff.2 ⟨f, List.mem_of_getElem? hp, hfa, hl⟩] at hc
      cases hc
  · obtain ⟨b, hb, h1, h2⟩ := chgB_iff.1 hc
    obtain ⟨q, hq⟩ := List.getElem?_of_mem hb
    have := num_inj hn hp hq (by omega)
    subst this
    rw [hp] at hq
    have hfb := Option.some.inj hq
    subst hfb
    simp [h2]
theorem chgB_gone {E : List El} {a : El} (h : (a.num : Int) ∉ ords E) : chgB E a = false := by
  cases hc : chgB E a
  · rfl
  · obtain ⟨b, hb, h1, _⟩ := chgB_iff.1 hc
    exact absurd (List.mem_map.2 ⟨b, hb, by show (b.num : Int) = a.num; omega⟩) h
theorem countP_snoc {α : Type} {L : List α} {k : Nat} {a : α} (h : L[k]? = some a) (p : α → Bool) : (L.take (k + 1)).countP p = (L.take k).countP p + if p a = true then 1 else 0 := by
  rw [List.take_add_one, h, Option.toList_some, List.countP_append, List.countP_singleton]
end Go.Proofs.Ytbmaijkpcpbgjaa
