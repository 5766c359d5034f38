/- Plain: fractional cascading: merged lists with marks, ranks, sizes; no function of the program. -/
import Derived.Test.YtedjjleckhclcaaInts
namespace Go.Proofs.Ytedjjleckhclcaa
set_option maxRecDepth 100000

abbrev CE := Int × Bool
/-- Two lists merged by a number of each element, the first list's first. -/
def mgk {α : Type} (f : α → Int) : List α → List α → List α
  | [], b => b
  | x :: a, [] => x :: a
  | x :: a, y :: b => if f x ≤ f y then x :: mgk f a (y :: b) else y :: mgk f (x :: a) b
termination_by a b => a.length + b.length
theorem mgk_nil {α : Type} (f : α → Int) (b : List α) : mgk f [] b = b := by rw [mgk]
theorem mgk_nil2 {α : Type} (f : α → Int) (a : List α) : mgk f a [] = a := by cases a <;> rw [mgk]
theorem mgk_le {α : Type} {f : α → Int} {x y : α} (a b : List α) (h : f x ≤ f y) : mgk f (x :: a) (y :: b) = x :: mgk f a (y :: b) := by rw [mgk, if_pos h]
theorem mgk_gt {α : Type} {f : α → Int} {x y : α} (a b : List α) (h : f y < f x) : mgk f (x :: a) (y :: b) = y :: mgk f (x :: a) b := by rw [mgk, if_neg (by omega)]
theorem mgk_ind {α : Type} {f : α → Int} (P : List α → List α → List α → Prop) (h0 : ∀ b, P [] b b) (h1 : ∀ a, P a [] a)
    (h2 : ∀ x a y b m, f x ≤ f y → P a (y :: b) m → P (x :: a) (y :: b) (x :: m)) (h3 : ∀ x a y b m, f y < f x → P (x :: a) b m → P (x :: a) (y :: b) (y :: m)) :
    ∀ (n : Nat) (a b : List α), a.length + b.length ≤ n → P a b (mgk f a b) := by
  intro n
  induction n with
  | zero =>
    intro a b h
    cases a with
    | nil => rw [mgk_nil]; exact h0 b
    | cons => simp at h
  | succ n ih =>
    intro a b h
    cases a with
    | nil => rw [mgk_nil]; exact h0 b
    | cons x a =>
      cases b with
      | nil => rw [mgk_nil2]; exact h1 _
      | cons y b =>
        simp only [List.length_cons] at h
        by_cases hc : f x ≤ f y
        · rw [mgk_le a b hc]; exact h2 x a y b _ hc (ih a (y :: b) (by simp only [List.length_cons]; omega))
        · rw [mgk_gt a b (by omega)]; exact h3 x a y b _ (by omega) (ih (x :: a) b (by simp only [List.length_cons]; omega))
theorem mgk_perm {α : Type} (f : α → Int) (a b : List α) : (mgk f a b).Perm (a ++ b) :=
  mgk_ind (f := f) (fun a b m => m.Perm (a ++ b)) (fun b => by simp) (fun a => by simp)
    (fun x a y b m _ h => by simpa using h.cons x)
    (fun x a y b m _ h => ((h.cons y).trans (by
      have := (List.perm_middle (a := y) (l₁ := x :: a) (l₂ := b)).symm
      simpa using this))) _ a b (Nat.le_refl _)
theorem mgk_len {α : Type} (f : α → Int) (a b : List α) : (mgk f a b).length = a.length + b.length := by
  rw [(mgk_perm f a b).length_eq, List.length_append]
theorem mgk_map {α : Type} (f : α → Int) (a b : List α) : (mgk f a b).map f = mgk id (a.map f) (b.map f) :=
  mgk_ind (f := f) (fun a b m => m.map f = mgk id (a.map f) (b.map f)) (fun b => by simp [mgk_nil]) (fun a => by simp [mgk_nil2])
    (fun x a y b m h hm => by rw [List.map_cons, List.map_cons, List.map_cons, mgk_le (f := id) _ _ h, hm, List.map_cons])
    (fun x a y b m h hm => by rw [List.map_cons, List.map_cons, List.map_cons, mgk_gt (f := id) _ _ h, hm, List.map_cons]) _ a b (Nat.le_refl _)
def srtk {α : Type} (f : α → Int) (l : List α) : Prop := l.Pairwise (fun x y => f x ≤ f y)
theorem mgk_srt {α : Type} (f : α → Int) (a b : List α) (ha : srtk f a) (hb : srtk f b) : srtk f (mgk f a b) :=
  mgk_ind (f := f) (fun a b m => srtk f a → srtk f b → m.Perm (a ++ b) → srtk f m) (fun b _ h _ => h) (fun a h _ _ => h)
    (fun x a y b m h ih ha hb hp => by
      have hp' : m.Perm (a ++ y :: b) := List.Perm.cons_inv (a := x) hp
      refine List.Pairwise.cons (fun z hz => ?_) (ih (List.pairwise_cons.1 ha).2 hb hp')
      rcases List.mem_append.1 (hp'.mem_iff.1 hz) with h1 | h1
      · exact (List.pairwise_cons.1 ha).1 z h1
      · rcases List.mem_cons.1 h1 with rfl | h1
        · exact h
        · exact Int.le_trans h ((List.pairwise_cons.1 hb).1 z h1))
    (fun x a y b m h ih ha hb hp => by
      have hp' : m.Perm (x :: a ++ b) := List.Perm.cons_inv (a := y) (hp.trans (List.perm_middle (a := y) (l₁ := x :: a) (l₂ := b)))
      refine List.Pairwise.cons (fun z hz => ?_) (ih ha (List.pairwise_cons.1 hb).2 hp')
      rcases List.mem_append.1 (hp'.mem_iff.1 hz) with h1 | h1
      · rcases List.mem_cons.1 h1 with rfl | h1
        · exact Int.le_of_lt h
        · exact Int.le_trans (Int.le_of_lt h) ((List.pairwise_cons.1 ha).1 z h1)
      · exact (List.pairwise_cons.1 hb).1 z h1) _ a b (Nat.le_refl _) ha hb (mgk_perm f a b)

/-- Each second element, the second one first. -/
def odds : List Int → List Int
  | [] => []
  | [_] => []
  | _ :: x :: r => x :: odds r
theorem odds_get : ∀ (L : List Int) (k : Nat), (odds L)[k]? = L[2 * k + 1]?
  | [], k => by simp [odds]
  | [_], k => by simp [odds]
  | a :: x :: r, 0 => by simp [odds]
  | a :: x :: r, k + 1 => by
    have := odds_get r k
    rw [odds, List.getElem?_cons_succ, this, show 2 * (k + 1) + 1 = (2 * k + 1) + 1 + 1 by omega, List.getElem?_cons_succ, List.getElem?_cons_succ]
theorem odds_len : ∀ (L : List Int), (odds L).length = L.length / 2
  | [] => rfl
  | [_] => by simp [odds]
  | _ :: x :: r => by
    have := odds_len r
    simp only [odds, List.length_cons, this]
    omega
theorem odds_srt {L : List Int} (h : srt L) : srt (odds L) := srt_adj fun i x y hx hy => by
  rw [odds_get] at hx hy
  exact srt_get h (by omega) hx hy

/-- The augmented list of a catalog and the next augmented list. -/
def aug (c nx : List Int) : List CE := mgk Prod.fst (c.map fun x => (x, false)) ((odds nx).map fun x => (x, true))
def hdk : List (List CE) → List Int
  | [] => []
  | l :: _ => l.map Prod.fst
def lsts : List (List Int) → List (List CE)
  | [] => []
  | c :: r => aug c (hdk (lsts r)) :: lsts r
theorem aug_len (c nx : List Int) : (aug c nx).length = c.length + nx.length / 2 := by
  unfold aug; rw [mgk_len, List.length_map, List.length_map, odds_len]
theorem aug_keys (c nx : List Int) : (aug c nx).map Prod.fst = mgk id c (odds nx) := by
  unfold aug; rw [mgk_map, List.map_map, List.map_map]
  simp [Function.comp_def]
theorem lsts_len : ∀ (M : List (List Int)), (lsts M).length = M.length
  | [] => rfl
  | c :: r => by simp [lsts, lsts_len r]

/-- How many elements are less than a key. -/
def rk (L : List Int) (key : Int) : Nat := L.countP (fun x => decide (x < key))
theorem rk_le (L : List Int) (key : Int) : rk L key ≤ L.length := List.countP_le_length
theorem rk_cons_lt {a : Int} {L : List Int} {key : Int} (h : a < key) : rk (a :: L) key = rk L key + 1 := by
  unfold rk; rw [List.countP_cons_of_pos (by simpa using h)]
theorem rk_cons_ge {a : Int} {L : List Int} {key : Int} (h : key ≤ a) : rk (a :: L) key = rk L key := by
  unfold rk; rw [List.countP_cons_of_neg (by simp; omega)]
theorem rk_zero {L : List Int} {key : Int} (h : ∀ x ∈ L, key ≤ x) : rk L key = 0 := by
  unfold rk; rw [List.countP_eq_zero]; intro x hx; have := h x hx; simp; omega
theorem rk_get : ∀ {L : List Int} (_ : srt L) (key : Int) {j : Nat} {x : Int} (_ : L[j]? = some x), x < key ↔ j < rk L key
  | [], _, key, j, x, hx => by simp at hx
  | a :: L, hs, key, j, x, hx => by
    have hs' := List.pairwise_cons.1 hs
    by_cases ha : a < key
    · rw [rk_cons_lt ha]
      cases j with
      | zero =>
        have : a = x := by simpa using hx
        subst this
        exact ⟨fun _ => by omega, fun _ => ha⟩
      | succ j =>
        have := rk_get hs'.2 key (j := j) (x := x) (by simpa using hx)
        omega
    · rw [rk_cons_ge (by omega), rk_zero (fun z hz => by have := hs'.1 z hz; omega)]
      have : a ≤ x := srt_get hs (Nat.zero_le j) (by rfl) hx
      omega
theorem rk_odds {L : List Int} (hs : srt L) (key : Int) : rk (odds L) key = rk L key / 2 := by
  have h1 := rk_le (odds L) key
  have h2 := rk_le L key
  rw [odds_len] at h1
  have hg : ∀ k, k < L.length / 2 → (k < rk (odds L) key ↔ 2 * k + 1 < rk L key) := fun k hk => by
    obtain ⟨x, hx⟩ : ∃ x, L[2 * k + 1]? = some x := ⟨L[2 * k + 1], List.getElem?_eq_getElem (by omega)⟩
    rw [← rk_get (odds_srt hs) key (by rw [odds_get]; exact hx), ← rk_get hs key hx]
  rcases Nat.lt_trichotomy (rk (odds L) key) (rk L key / 2) with h | h | h
  · have := hg (rk (odds L) key) (by omega)
    omega
  · exact h
  · have := hg (rk L key / 2) (by omega)
    omega
theorem countP_take_rk : ∀ (m : List CE) (_ : srtk Prod.fst m) (key : Int), (m.take (rk (m.map Prod.fst) key)).countP Prod.snd = m.countP (fun e => e.2 && decide (e.1 < key))
  | [], _, key => by simp
  | a :: m, hs, key => by
    have hs' := List.pairwise_cons.1 hs
    by_cases ha : a.1 < key
    · rw [List.map_cons, rk_cons_lt ha, List.take_succ_cons, List.countP_cons, List.countP_cons, countP_take_rk m hs'.2 key]
      simp [ha]
    · rw [List.map_cons, rk_cons_ge (by omega), rk_zero (fun z hz => by
        obtain ⟨e, he, rfl⟩ := List.mem_map.1 hz
        have := hs'.1 e he
        omega)]
      simp only [List.take_zero, List.countP_nil]
      symm
      rw [List.countP_eq_zero]
      intro e he
      rcases List.mem_cons.1 he with rfl | he
      · simp; omega
      · have := hs'.1 e he
        simp; omega
/-- How many of the first elements were taken. -/
def cnt (m : List CE) (k : Nat) : Nat := (m.take k).countP Prod.snd
theorem cnt_le (m : List CE) (k : Nat) : cnt m k ≤ k := Nat.le_trans List.countP_le_length (by rw [List.length_take]; omega)
theorem aug_srt {c nx : List Int} (hc : srt c) (hn : srt nx) : srtk Prod.fst (aug c nx) :=
  mgk_srt _ _ _ (List.pairwise_map.2 hc) (List.pairwise_map.2 (odds_srt hn))
theorem aug_ksrt {c nx : List Int} (hc : srt c) (hn : srt nx) : srt ((aug c nx).map Prod.fst) := List.pairwise_map.2 (aug_srt hc hn)
theorem aug_rk (c nx : List Int) (key : Int) : rk ((aug c nx).map Prod.fst) key = rk c key + rk (odds nx) key := by
  rw [aug_keys]
  unfold rk
  rw [(mgk_perm id c (odds nx)).countP_eq, List.countP_append]
theorem aug_cnt {c nx : List Int} (hc : srt c) (hn : srt nx) (key : Int) : cnt (aug c nx) (rk ((aug c nx).map Prod.fst) key) = rk (odds nx) key := by
  unfold cnt
  rw [countP_take_rk _ (aug_srt hc hn)]
  unfold aug
  rw [(mgk_perm Prod.fst _ _).countP_eq, List.countP_append, List.countP_map, List.countP_map]
  rw [List.countP_eq_zero.2 (by simp), Nat.zero_add]
  unfold rk
  refine congrFun (congrArg _ ?_) _
  funext x
  simp
theorem lsts_srt : ∀ (M : List (List Int)) (_ : ∀ c ∈ M, srt c), srt (hdk (lsts M))
  | [], _ => List.Pairwise.nil
  | c :: r, h => aug_ksrt (h c (List.mem_cons_self ..)) (lsts_srt r fun d hd => h d (List.mem_cons_of_mem _ hd))
/-- What a search knows at a list: of the rank in its keys, what was taken before it, and what of its own. -/
theorem step_rk {c nx : List Int} (hc : srt c) (hn : srt nx) (key : Int) :
    cnt (aug c nx) (rk ((aug c nx).map Prod.fst) key) = rk nx key / 2 ∧ rk ((aug c nx).map Prod.fst) key = rk c key + rk nx key / 2 := by
  rw [aug_cnt hc hn, aug_rk, rk_odds hn]
  exact ⟨rfl, rfl⟩
/-- The rank in the next list is twice what was taken, or one more: the element there tells. -/
theorem next_rk {L : List Int} (hs : srt L) (key : Int) (t : Nat) (ht : t = rk L key / 2) :
    (2 * t < L.length → ∀ x, L[2 * t]? = some x → (x < key → rk L key = 2 * t + 1) ∧ (key ≤ x → rk L key = 2 * t)) ∧ (L.length ≤ 2 * t → rk L key = 2 * t) := by
  have h1 := rk_le L key
  refine ⟨fun hl x hx => ?_, fun hl => by omega⟩
  have := rk_get hs key hx
  omega

def total (M : List (List Int)) : Nat := (M.map List.length).sum
def size (M : List (List Int)) : Nat := ((lsts M).map List.length).sum
theorem size_bd : ∀ (M : List (List Int)), size M + (hdk (lsts M)).length ≤ 2 * total M ∧ (0 < total M → (hdk (lsts M)).length = 0 → size M + 1 ≤ 2 * total M)
  | [] => ⟨by simp [size, total, lsts, hdk], fun h => by simp [total] at h⟩
  | c :: r => by
    have ih := size_bd r
    have e1 : size (c :: r) = (c.length + (hdk (lsts r)).length / 2) + size r := by
      simp only [size, lsts, List.map_cons, List.sum_cons, aug_len]
    have e2 : total (c :: r) = c.length + total r := by simp [total]
    have e3 : (hdk (lsts (c :: r))).length = c.length + (hdk (lsts r)).length / 2 := by simp [lsts, hdk, aug_len]
    rw [e1, e2, e3]
    refine ⟨by omega, fun h0 h1 => ?_⟩
    have : 0 < total r := by omega
    rcases Nat.eq_zero_or_pos (hdk (lsts r)).length with h | h
    · have := ih.2 this h
      omega
    · omega
theorem size_lt (M : List (List Int)) : (total M = 0 ∧ size M = 0) ∨ (0 < total M ∧ size M < 2 * total M) := by
  have h := size_bd M
  rcases Nat.eq_zero_or_pos (total M) with h0 | h0
  · exact .inl ⟨h0, by omega⟩
  · refine .inr ⟨h0, ?_⟩
    rcases Nat.eq_zero_or_pos (hdk (lsts M)).length with h1 | h1
    · have := h.2 h0 h1; omega
    · omega

def okKey (x : Int) : Bool := decide (-1048576 ≤ x) && decide (x ≤ 1048576)
def okCat (c : List Int) : Bool := decide (srt c) && c.all okKey
def longC (c : List Int) : Bool := decide (1000 < c.length)
/-- The error number of catalogs. -/
def ckM (M : List (List Int)) : Int :=
  if 32 < M.length ∨ M.any longC = true then 4 else if M.length = 0 ∨ M.any (fun c => !okCat c) = true then 1 else 0
theorem ckM_ok {M : List (List Int)} (h : ckM M = 0) : M.length ≤ 32 ∧ 0 < M.length ∧ (∀ c ∈ M, c.length ≤ 1000) ∧ ∀ c ∈ M, srt c ∧ ∀ x ∈ c, -1048576 ≤ x ∧ x ≤ 1048576 := by
  unfold ckM at h
  split at h
  · simp at h
  · rename_i h1
    split at h
    · simp at h
    · rename_i h2
      have h1a : M.length ≤ 32 := by rcases Nat.lt_or_ge 32 M.length with h | h; exact absurd (.inl h) h1; exact h
      have h1b : M.any longC = false := by cases hb : M.any longC; rfl; exact absurd (.inr hb) h1
      have h2b : M.any (fun c => !okCat c) = false := by cases hb : M.any (fun c => !okCat c); rfl; exact absurd (.inr hb) h2
      refine ⟨h1a, by rcases Nat.eq_zero_or_pos M.length with h | h; exact absurd (.inl h) h2; exact h, fun c hc => ?_, fun c hc => ?_⟩
      · have := List.any_eq_false.1 h1b c hc
        unfold longC at this
        simpa using this
      · have := List.any_eq_false.1 h2b c hc
        unfold okCat okKey at this
        simpa using this
theorem lsts_len_bd : ∀ (M : List (List Int)) (_ : ∀ c ∈ M, c.length ≤ 1000), (hdk (lsts M)).length ≤ 2000
  | [], _ => by simp [hdk, lsts]
  | c :: r, h => by
    have := lsts_len_bd r fun d hd => h d (List.mem_cons_of_mem _ hd)
    have := h c (List.mem_cons_self ..)
    rw [show hdk (lsts (c :: r)) = (aug c (hdk (lsts r))).map Prod.fst from rfl, List.length_map, aug_len]
    omega
theorem lsts_drop : ∀ (M : List (List Int)) (i : Nat), (lsts M).drop i = lsts (M.drop i)
  | M, 0 => by simp
  | [], i + 1 => by simp [lsts]
  | c :: r, i + 1 => by simpa [lsts] using lsts_drop r i
/-- The list of an index, of its catalog and what comes next. -/
theorem lsts_get {M : List (List Int)} {i : Nat} {c : List Int} (h : M[i]? = some c) : (lsts M)[i]? = some (aug c (hdk (lsts (M.drop (i + 1))))) := by
  obtain ⟨hl, rfl⟩ := List.getElem?_eq_some_iff.1 h
  have e := lsts_drop M i
  rw [List.drop_eq_getElem_cons hl, lsts] at e
  have := congrArg (·[0]?) e
  simpa using this
end Go.Proofs.Ytedjjleckhclcaa
