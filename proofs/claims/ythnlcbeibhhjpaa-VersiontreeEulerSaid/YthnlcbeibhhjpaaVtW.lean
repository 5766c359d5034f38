/- Plain: the Euler tour of a tree of versions encloses; it visits each version twice. -/
import Derived.Test.YthnlcbeibhhjpaaVtO
namespace Go.Proofs.Ythnlcbeibhhjpaa
set_option maxRecDepth 100000
theorem chI_iff {P : List Int} {n k : Nat} {x : Int} : x ∈ chI P n k ↔ ∃ t : Nat, x = (t : Int) ∧ 0 < t ∧ t < n ∧ P[t]? = some (k : Int) := by
  unfold chI
  rw [List.mem_map]
  constructor
  · rintro ⟨t, ht, rfl⟩
    rw [List.mem_filter] at ht
    obtain ⟨h1, h2⟩ := ht
    simp only [Bool.and_eq_true, decide_eq_true_eq, beq_iff_eq] at h2
    exact ⟨t, rfl, h2.1, by simpa using h1, h2.2⟩
  · rintro ⟨t, rfl, h1, h2, h3⟩
    refine ⟨t, ?_, rfl⟩
    rw [List.mem_filter]
    exact ⟨by simpa using h2, by simp [h1, h3]⟩
theorem cast_nodup {l : List Nat} (h : l.Nodup) : (l.map fun t : Nat => (t : Int)).Nodup := by
  unfold List.Nodup
  rw [List.pairwise_map]
  exact h.imp (fun hne e => hne (by omega))
theorem chI_nodup (P : List Int) (n k : Nat) : (chI P n k).Nodup := by
  unfold chI
  exact cast_nodup (List.Nodup.sublist List.filter_sublist List.nodup_range)
section
variable {Vs : List Vn} (h : VsOk Vs)
include h
/-- A child of k. -/
theorem chV {n k : Nat} (_hn : Vs.length = n) {x : Int} : x ∈ chI (parV Vs) n k ↔ ∃ (t : Nat) (v : Vn), x = (t : Int) ∧ k < t ∧ t < n ∧ Vs[t]? = some v ∧ v.1 = (k : Int) := by
  rw [chI_iff]
  constructor
  · rintro ⟨t, rfl, h1, h2, h3⟩
    obtain ⟨v, hv, hk⟩ := parV_of h3
    exact ⟨t, v, rfl, (h.par hv hk).1, h2, hv, hk⟩
  · rintro ⟨t, v, rfl, h1, h2, hv, hk⟩
    exact ⟨t, rfl, by omega, h2, by rw [parV_at hv, hk]⟩
omit h in
theorem anc_split {a t : Nat} (ha : AncV Vs a t) : t = a ∨ ∃ (c : Nat) (v : Vn), Vs[c]? = some v ∧ v.1 = (a : Int) ∧ AncV Vs c t := by
  induction ha with
  | refl => exact Or.inl rfl
  | @step b p v hv hp _ ih =>
    right
    rcases ih with rfl | ⟨c, u, hu, hk, hc⟩
    · exact ⟨b, v, hv, hp, .refl⟩
    · exact ⟨c, u, hu, hk, .step hv hp hc⟩
theorem ch_one {k c c' t : Nat} {v v' : Vn} (hv : Vs[c]? = some v) (hk : v.1 = (k : Int)) (hv' : Vs[c']? = some v') (hk' : v'.1 = (k : Int)) (hc : AncV Vs c t) (hc' : AncV Vs c' t) : c = c' := by
  by_cases e : c = c'
  · exact e
  · exfalso
    rcases AncV.two h hc hc' with h1 | h1
    · have h2 := (h1.up hv' hk' e).le h
      have := (h.par hv hk).1
      omega
    · have h2 := (h1.up hv hk (fun e' => e e'.symm)).le h
      have := (h.par hv' hk').1
      omega
theorem eul_mem {n : Nat} (hn : Vs.length = n) : ∀ (f k : Nat), k < n → n - k < f → ∀ x : Int, x ∈ eulF (parV Vs) n f k ↔ ∃ t : Nat, x = (t : Int) ∧ t < n ∧ AncV Vs k t := fun f => by
  induction f with
  | zero => intro k _ hf; omega
  | succ f ih =>
    intro k hk hf x
    show x ∈ (k : Int) :: (_ ++ [(k : Int)]) ↔ _
    rw [List.mem_cons, List.mem_append, List.mem_singleton, List.mem_flatMap]
    constructor
    · rintro (rfl | ⟨c, hc, hx⟩ | rfl)
      · exact ⟨k, rfl, hk, .refl⟩
      · obtain ⟨t, v, rfl, h1, h2, hv, hvk⟩ := (chV h hn).1 hc
        rw [Int.toNat_natCast] at hx
        obtain ⟨t', rfl, h3, h4⟩ := (ih t h2 (by omega) x).1 hx
        exact ⟨t', rfl, h3, (AncV.step hv hvk .refl).trans h4⟩
      · exact ⟨k, rfl, hk, .refl⟩
    · rintro ⟨t, rfl, ht, ha⟩
      rcases anc_split ha with rfl | ⟨c, v, hv, hvk, hc⟩
      · exact Or.inl rfl
      · refine Or.inr (Or.inl ⟨(c : Int), (chV h hn).2 ⟨c, v, rfl, (h.par hv hvk).1, by have := hc.le h; omega, hv, hvk⟩, ?_⟩)
        rw [Int.toNat_natCast]
        have h1 := (h.par hv hvk).1
        have h2 := hc.le h
        exact (ih c (by omega) (by omega) _).2 ⟨t, rfl, ht, hc⟩
/-- A version's tour lies whole in each tour that holds it, and beside it nothing that comes from it. -/
theorem eul_dec {n : Nat} (hn : Vs.length = n) {a : Nat} (ha : a < n) : ∀ (f k : Nat), k < n → n - k < f → AncV Vs k a → ∃ (pre post : List Int) (f' : Nat), n - a < f' ∧ eulF (parV Vs) n f k = pre ++ eulF (parV Vs) n f' a ++ post ∧ (∀ t : Nat, (t : Int) ∈ pre → ¬ AncV Vs a t) ∧ (∀ t : Nat, (t : Int) ∈ post → ¬ AncV Vs a t) := fun f => by
  induction f with
  | zero => intro k _ hf; omega
  | succ f ih =>
    intro k hk hf hka
    rcases anc_split hka with rfl | ⟨c, v, hv, hvk, hc⟩
    · exact ⟨[], [], f + 1, hf, by simp, fun t ht => by simp at ht, fun t ht => by simp at ht⟩
    · have hkc := (h.par hv hvk).1
      have hca := hc.le h
      have hmem : (c : Int) ∈ chI (parV Vs) n k := (chV h hn).2 ⟨c, v, rfl, hkc, by omega, hv, hvk⟩
      obtain ⟨l1, l2, hl⟩ := List.append_of_mem hmem
      have hnd := chI_nodup (parV Vs) n k
      rw [hl] at hnd
      have hnd1 : ∀ y ∈ l1, y ≠ (c : Int) := fun y hy e => by
        have := (List.nodup_append.1 hnd).2.2 y hy (c : Int) (by simp)
        exact this e
      have hnd2 : ∀ y ∈ l2, y ≠ (c : Int) := fun y hy e => by
        have h1 := (List.nodup_append.1 hnd).2.1
        rw [List.nodup_cons] at h1
        exact h1.1 (e ▸ hy)
      obtain ⟨pre, post, f', h1, h2, h3, h4⟩ := ih c (by omega) (by omega) hc
      have hside : ∀ l : List Int, (∀ y ∈ l, y ∈ chI (parV Vs) n k) → (∀ y ∈ l, y ≠ (c : Int)) → ∀ t : Nat, (t : Int) ∈ l.flatMap (fun c => eulF (parV Vs) n f c.toNat) → ¬ AncV Vs a t := fun l hin hne t ht hat => by
        obtain ⟨y, hy, hyt⟩ := List.mem_flatMap.1 ht
        obtain ⟨c', v', rfl, e1, e2, e3, e4⟩ := (chV h hn).1 (hin y hy)
        rw [Int.toNat_natCast] at hyt
        obtain ⟨t', e5, e6, e7⟩ := (eul_mem h hn f c' e2 (by omega) _).1 hyt
        have : t = t' := by omega
        subst this
        exact hne _ hy (by rw [ch_one h hv hvk e3 e4 (hc.trans hat) e7])
      have hk1 : ¬ AncV Vs a k := fun hak => by have := hak.le h; omega
      refine ⟨(k : Int) :: (l1.flatMap (fun c => eulF (parV Vs) n f c.toNat) ++ pre), post ++ (l2.flatMap (fun c => eulF (parV Vs) n f c.toNat) ++ [(k : Int)]), f', h1, ?_, fun t ht => ?_, fun t ht => ?_⟩
      · show (k : Int) :: ((chI (parV Vs) n k).flatMap (fun c => eulF (parV Vs) n f c.toNat) ++ [(k : Int)]) = _
        rw [hl, List.flatMap_append, List.flatMap_cons, Int.toNat_natCast, h2]
        simp
      · rcases List.mem_cons.1 ht with e | ht
        · have : t = k := by omega
          subst this; exact hk1
        · rcases List.mem_append.1 ht with ht | ht
          · exact hside l1 (fun y hy => by rw [hl]; simp [hy]) hnd1 t ht
          · exact h3 t ht
      · rcases List.mem_append.1 ht with ht | ht
        · exact h4 t ht
        · rcases List.mem_append.1 ht with ht | ht
          · exact hside l2 (fun y hy => by rw [hl]; simp [hy]) hnd2 t ht
          · have : t = k := by
              have := List.mem_singleton.1 ht
              omega
            subst this; exact hk1
/-- What is below a version, each once. -/
def preF (P : List Int) (n : Nat) : Nat → Nat → List Int
  | 0, _ => []
  | f + 1, k => (k : Int) :: (chI P n k).flatMap (fun c => preF P n f c.toNat)
omit h in
theorem pre_len (P : List Int) (n : Nat) : ∀ f k, (eulF P n f k).length = 2 * (preF P n f k).length := fun f => by
  induction f with
  | zero => intro k; rfl
  | succ f ih =>
    intro k
    rw [eulF_len]
    show _ = 2 * ((k : Int) :: _).length
    rw [List.length_cons]
    have : ∀ l : List Int, (l.flatMap (fun c => eulF P n f c.toNat)).length = 2 * (l.flatMap (fun c => preF P n f c.toNat)).length := fun l => by
      induction l with
      | nil => rfl
      | cons c l ihl => rw [List.flatMap_cons, List.flatMap_cons, List.length_append, List.length_append, ih, ihl]; omega
    rw [this]
    omega
omit h in
theorem pre_sub (P : List Int) (n : Nat) : ∀ f k, ∀ x, x ∈ preF P n f k ↔ x ∈ eulF P n f k := fun f => by
  induction f with
  | zero => intro k x; exact Iff.rfl
  | succ f ih =>
    intro k x
    show x ∈ (k : Int) :: _ ↔ x ∈ (k : Int) :: (_ ++ [(k : Int)])
    rw [List.mem_cons, List.mem_cons, List.mem_append, List.mem_singleton, List.mem_flatMap, List.mem_flatMap]
    constructor
    · rintro (e | ⟨c, hc, hx⟩)
      · exact Or.inl e
      · exact Or.inr (Or.inl ⟨c, hc, (ih _ _).1 hx⟩)
    · rintro (e | ⟨c, hc, hx⟩ | e)
      · exact Or.inl e
      · exact Or.inr ⟨c, hc, (ih _ _).2 hx⟩
      · exact Or.inl e
theorem pre_nodup {n : Nat} (hn : Vs.length = n) : ∀ (f k : Nat), k < n → n - k < f → (preF (parV Vs) n f k).Nodup := fun f => by
  induction f with
  | zero => intro k _ hf; omega
  | succ f ih =>
    intro k hk hf
    show ((k : Int) :: _).Nodup
    rw [List.nodup_cons]
    have hin : ∀ (c : Int), c ∈ chI (parV Vs) n k → ∀ y : Int, y ∈ preF (parV Vs) n f c.toNat → ∃ (c' t : Nat) (v : Vn), c = (c' : Int) ∧ Vs[c']? = some v ∧ v.1 = (k : Int) ∧ k < c' ∧ y = (t : Int) ∧ AncV Vs c' t := fun c hc y hy => by
      obtain ⟨c', v, rfl, e1, e2, e3, e4⟩ := (chV h hn).1 hc
      rw [Int.toNat_natCast] at hy
      obtain ⟨t, e5, e6, e7⟩ := (eul_mem h hn f c' e2 (by omega) _).1 ((pre_sub _ _ _ _ _).1 hy)
      exact ⟨c', t, v, rfl, e3, e4, e1, e5, e7⟩
    refine ⟨fun hx => ?_, ?_⟩
    · obtain ⟨c, hc, hx⟩ := List.mem_flatMap.1 hx
      obtain ⟨c', t, v, e0, e1, e2, e3, e4, e5⟩ := hin c hc _ hx
      have := e5.le h
      omega
    · unfold List.Nodup
      rw [List.pairwise_flatMap]
      refine ⟨fun c hc => ?_, (chI_nodup (parV Vs) n k).imp_of_mem fun {c d} hc hd hne x hx y hy => ?_⟩
      · obtain ⟨c', v, rfl, e1, e2, e3, e4⟩ := (chV h hn).1 hc
        rw [Int.toNat_natCast]
        exact ih c' e2 (by omega)
      · obtain ⟨c1, t1, v1, rfl, e1, e2, e3, rfl, e5⟩ := hin c hc x hx
        obtain ⟨c2, t2, v2, rfl, g1, g2, g3, rfl, g5⟩ := hin d hd y hy
        intro e
        have : t1 = t2 := by omega
        subst this
        exact hne (by rw [ch_one h e1 e2 g1 g2 e5 g5])
theorem eul_count {n : Nat} (hn : Vs.length = n) : (eulF (parV Vs) n (n + 1) 0).length = 2 * n := by
  have h0 : 0 < n := by have := (List.getElem?_eq_some_iff.1 h.root).1; omega
  rw [pre_len]
  have hp := (List.perm_ext_iff_of_nodup (pre_nodup h hn (n + 1) 0 h0 (by omega)) (cast_nodup (List.nodup_range (n := n)))).2 (fun x => by
    rw [pre_sub, eul_mem h hn (n + 1) 0 h0 (by omega), List.mem_map]
    constructor
    · rintro ⟨t, rfl, h1, h2⟩; exact ⟨t, by simpa using h1, rfl⟩
    · rintro ⟨t, h1, rfl⟩
      have : t < n := by simpa using h1
      exact ⟨t, rfl, this, AncV.zero h t (by omega)⟩)
  rw [hp.length_eq]
  simp
/-- The first and the last visit of each. -/
def FirstAt (T : List Int) (x : Int) (i : Nat) : Prop := T[i]? = some x ∧ ∀ j, T[j]? = some x → i ≤ j
def LastAt (T : List Int) (x : Int) (i : Nat) : Prop := T[i]? = some x ∧ ∀ j, T[j]? = some x → j ≤ i
theorem eul_enc {n : Nat} (hn : Vs.length = n) {a b fa la fb lb : Nat} (ha : a < n) (_hb : b < n) (h1 : FirstAt (eulF (parV Vs) n (n + 1) 0) (a : Int) fa) (h2 : LastAt (eulF (parV Vs) n (n + 1) 0) (a : Int) la) (h3 : FirstAt (eulF (parV Vs) n (n + 1) 0) (b : Int) fb) (h4 : LastAt (eulF (parV Vs) n (n + 1) 0) (b : Int) lb) :
    fa < la ∧ ((fa ≤ fb ∧ lb ≤ la) ↔ AncV Vs a b) := by
  have h0 : 0 < n := by omega
  obtain ⟨pre, post, f', g1, g2, g3, g4⟩ := eul_dec h hn ha (n + 1) 0 h0 (by omega) (AncV.zero h a (by omega))
  rw [g2] at h1 h2 h3 h4
  obtain ⟨f1, rfl⟩ : ∃ f1, f' = f1 + 1 := ⟨f' - 1, by omega⟩
  obtain ⟨F, hF⟩ : ∃ F, F = eulF (parV Vs) n (f1 + 1) a := ⟨_, rfl⟩
  have hFm : ∀ x : Int, x ∈ F ↔ ∃ t : Nat, x = (t : Int) ∧ t < n ∧ AncV Vs a t := fun x => by rw [hF]; exact eul_mem h hn (f1 + 1) a ha (by omega) x
  have hFl : 2 ≤ F.length := by rw [hF, eulF_len]; omega
  have hF0 : F[0]? = some (a : Int) := by rw [hF]; rfl
  have hFz : F[F.length - 1]? = some (a : Int) := by
    rw [hF]
    show ((a : Int) :: (_ ++ [(a : Int)]))[((a : Int) :: (_ ++ [(a : Int)])).length - 1]? = _
    rw [List.length_cons, List.length_append, List.length_singleton, Nat.add_sub_cancel, List.getElem?_cons_succ]
    simp
  rw [← hF] at h1 h2 h3 h4
  clear g2 hF
  -- where something stands
  have inF : ∀ i, i < F.length → (pre ++ F ++ post)[pre.length + i]? = F[i]? := fun i hi => by
    rw [List.append_assoc, List.getElem?_append_right (by omega), List.getElem?_append_left (by omega), Nat.add_sub_cancel_left]
  have place : ∀ (t i : Nat), AncV Vs a t → (pre ++ F ++ post)[i]? = some (t : Int) → pre.length ≤ i ∧ i < pre.length + F.length := fun t i hat hi => by
    rcases Nat.lt_or_ge i pre.length with hl | hl
    · rw [List.append_assoc, List.getElem?_append_left hl] at hi
      exact absurd hat (g3 t (List.mem_of_getElem? hi))
    · refine ⟨hl, ?_⟩
      rcases Nat.lt_or_ge i (pre.length + F.length) with hr | hr
      · exact hr
      · rw [List.getElem?_append_right (by simp; omega)] at hi
        exact absurd hat (g4 t (List.mem_of_getElem? hi))
  have hfa : fa = pre.length := by
    have e1 := (place a fa .refl h1.1).1
    have e2 := h1.2 pre.length (by have := inF 0 (by omega); rw [hF0] at this; simpa using this)
    omega
  have hla : la = pre.length + (F.length - 1) := by
    have e1 := (place a la .refl h2.1).2
    have e2 := h2.2 (pre.length + (F.length - 1)) (by rw [inF _ (by omega)]; exact hFz)
    omega
  refine ⟨by omega, fun ⟨e1, e2⟩ => ?_, fun hab => ?_⟩
  · have hbf := h3.1
    have e3 : fb ≤ lb := h3.2 lb h4.1
    obtain ⟨i, rfl⟩ : ∃ i, fb = pre.length + i := ⟨fb - pre.length, by omega⟩
    rw [inF i (by omega)] at hbf
    obtain ⟨t, e4, e5, e6⟩ := (hFm _).1 (List.mem_of_getElem? hbf)
    have : b = t := by omega
    rw [this]; exact e6
  · have e1 := place b fb hab h3.1
    have e2 := place b lb hab h4.1
    omega
end
end Go.Proofs.Ythnlcbeibhhjpaa
