/- Slices of ints, and slices of such slices, that read as lists; slices.Equal, slices.Index, slices.IsSorted on ints. -/
import Derived.Laws.EntriesVeiled
import Derived.OwnWalk
import Derived.Deep.Onto
import Derived.Deep.AppendLies
import Derived.Test.YtmlgbmfjnbhamaaBase
namespace Go.Proofs.Ytmlgbmfjnbhamaa
open Go.RowKit
set_option maxRecDepth 100000

/-- A slice of ints reads as a list; its block is one of P. -/
def IntsAt (P : Nat → Prop) (w : World) (A : Option Addr) (L : List Int) : Prop :=
  0 < L.length → ∃ b off, A = some ⟨b, off, none⟩ ∧ P b ∧ ∀ (i : Nat) (x : Int), L[i]? = some x → w.cell? ⟨b, off + i, none⟩ = some (.int .i64 x)
theorem IntsAt.nil (P : Nat → Prop) (w : World) (A : Option Addr) : IntsAt P w A [] := fun h => absurd h (by simp)
theorem IntsAt.keep {P : Nat → Prop} {w w' : World} {A : Option Addr} {L : List Int} (h : IntsAt P w A L) (hk : ∀ b o, P b → w'.cell? ⟨b, o, none⟩ = w.cell? ⟨b, o, none⟩) : IntsAt P w' A L := fun hl => by
  obtain ⟨b, off, rfl, hp, hc⟩ := h hl
  exact ⟨b, off, rfl, hp, fun i x hi => (hk b _ hp).trans (hc i x hi)⟩
theorem IntsAt.more {P Q : Nat → Prop} {w : World} {A : Option Addr} {L : List Int} (h : IntsAt P w A L) (hk : ∀ b, P b → Q b) : IntsAt Q w A L := fun hl => by
  obtain ⟨b, off, rfl, hp, hc⟩ := h hl
  exact ⟨b, off, rfl, hk b hp, hc⟩
theorem IntsAt.drewN {P : Nat → Prop} {w : World} {A : Option Addr} {L : List Int} (h : IntsAt P w A L) (n : Nat) : IntsAt P (w.drewN n) A L := h
theorem IntsAt.take {P : Nat → Prop} {w : World} {A : Option Addr} {L : List Int} (h : IntsAt P w A L) (n : Nat) : IntsAt P w A (L.take n) := fun hl => by
  obtain ⟨b, off, rfl, hb, hc⟩ := h (by rw [List.length_take] at hl; omega)
  refine ⟨b, off, rfl, hb, fun i x hi => hc i x ?_⟩
  rw [List.getElem?_take] at hi
  split at hi
  · exact hi
  · cases hi
/-- A row of the call's own, as a slice of ints that reads. -/
theorem intsAt_own {P : Nat → Prop} {w : World} {B : Nat} {e : TypeId} {A : Option Addr} {n c : Nat} {L : List Int} (h : w.ownsRow B e 1 (.slice A n c) L.length (L.map (Value.int .i64))) (hP : ∀ b, B ≤ b → b < w.heap.size → P b) : IntsAt P w A L := fun hl => by
  obtain ⟨g, cap, hv, hg, hlt⟩ := h.form hl
  have hA : A = some ⟨g, 0, none⟩ := by injection hv
  subst hA
  refine ⟨g, 0, rfl, hP g hg hlt, fun i x hi => ?_⟩
  have := h.cells (g := g) rfl i _ (show (L.map (Value.int .i64))[i]? = some (.int .i64 x) by rw [List.getElem?_map, hi]; rfl)
  have e : ({ block := g, off := 0 } : Addr).add i = ⟨g, 0 + i, none⟩ := by
    unfold Addr.add
    split
    · simp_all
    · rfl
  rw [← e]
  exact this

/-- A slice of slices of ints reads as a list of lists. -/
def RowsAt (P : Nat → Prop) (w : World) (A : Option Addr) (M : List (List Int)) : Prop :=
  0 < M.length → ∃ b off, A = some ⟨b, off, none⟩ ∧ P b ∧ ∀ (i : Nat) (l : List Int), M[i]? = some l → ∃ A' c, w.cell? ⟨b, off + i, none⟩ = some (.slice A' l.length c) ∧ l.length ≤ c ∧ c ≤ maxLen ∧ IntsAt P w A' l
theorem RowsAt.keep {P : Nat → Prop} {w w' : World} {A : Option Addr} {M : List (List Int)} (h : RowsAt P w A M) (hk : ∀ b o, P b → w'.cell? ⟨b, o, none⟩ = w.cell? ⟨b, o, none⟩) : RowsAt P w' A M := fun hl => by
  obtain ⟨b, off, rfl, hp, hc⟩ := h hl
  refine ⟨b, off, rfl, hp, fun i l hi => ?_⟩
  obtain ⟨A', c, h0, h1, h2, h3⟩ := hc i l hi
  exact ⟨A', c, (hk b _ hp).trans h0, h1, h2, h3.keep hk⟩
theorem RowsAt.below {n : Nat} {w w' : World} {A : Option Addr} {M : List (List Int)} (h : RowsAt (· < n) w A M) (hb : Below n w w') : RowsAt (· < n) w' A M := h.keep fun b o hp => hb.cell (p := ⟨b, o, none⟩) hp
theorem IntsAt.below {n : Nat} {w w' : World} {A : Option Addr} {L : List Int} (h : IntsAt (· < n) w A L) (hb : Below n w w') : IntsAt (· < n) w' A L := h.keep fun b o hp => hb.cell (p := ⟨b, o, none⟩) hp

theorem any_hit' {α : Type} {f : α → Bool} (L : List α) (k : Nat) (t : α) (h : L[k]? = some t) (hb : f t = true) : L.any f = true := List.any_eq_true.2 ⟨t, List.mem_of_getElem? h, hb⟩
theorem any_none' {α : Type} {f : α → Bool} (L : List α) (hno : ∀ (i : Nat) (u : α), i < L.length → L[i]? = some u → f u = false) : L.any f = false := by
  rw [List.any_eq_false]
  intro t ht
  obtain ⟨i, hi, rfl⟩ := List.mem_iff_getElem.1 ht
  rw [hno i _ hi (List.getElem?_eq_getElem hi)]
  exact Bool.false_ne_true
theorem any_snoc' {α : Type} {f : α → Bool} (L : List α) (k : Nat) (t : α) (h : L[k]? = some t) (hb : f t = false) (hno : ∀ (i : Nat) (u : α), i < k → L[i]? = some u → f u = false) : ∀ (i : Nat) (u : α), i < k + 1 → L[i]? = some u → f u = false := by
  intro i u hi hu
  rcases Nat.lt_or_ge i k with hl | hl
  · exact hno i u hl hu
  · have : i = k := by omega
    subst this
    rw [h] at hu
    rw [← Option.some.inj hu]
    exact hb

theorem eqI_len {L M : List Int} (h : L.length ≠ M.length) : decide (L = M) = false := decide_eq_false fun e => h (by rw [e])
set_option maxHeartbeats 2000000 in
theorem eqI_any (P Q : Nat → Prop) (A1 A2 : Option Addr) (c1 c2 : Nat) (L M : List Int) (w : World) (hm : L.length ≤ maxLen) (_hm' : M.length ≤ maxLen) (h1 : IntsAt P w A1 L) (h2 : IntsAt Q w A2 M) :
    Calls Try.prog 15 #[.slice A1 L.length c1, .slice A2 M.length c2] w fun e w' => e = .returned (.bool (decide (L = M))) ∧ ∃ q, w' = w.drewN q := by
  unfold maxLen at hm _hm'
  have H1 := Lib.hid h1
  have H2 := Lib.hid h2
  clear h1 h2
  by_cases hlen : L.length = M.length
  case neg =>
    have HD := Lib.hid (eqI_len hlen)
    have hb : ((L.length : Int) != (M.length : Int)) = true := by simp; omega
    clear hlen
    go_enter Try.func15, Try.ntmps15
    go_wp2_with fail
    go_ret
    exact ⟨retB HD.out.symm, 0, rfl⟩
  obtain ⟨n, hn⟩ : ∃ n, L.length = n := ⟨_, rfl⟩
  have hn' : M.length = n := by omega
  rw [hn, hn']
  have HN := Lib.hid hn
  have HM := Lib.hid hn'
  have hnm : n ≤ 9223372036854775807 := by omega
  clear hn hn' hlen hm _hm'
  go_enter Try.func15, Try.ntmps15
  go_wp2_with fail
  go_loopw [13] (fun i wr => ∃ k q : Nat, k ≤ n ∧ i = .int .i64 k ∧ L.take k = M.take k ∧ wr = w.drewN q) (fun i _ => n - (intOf i).toNat)
  case atStart => exact ⟨0, 0, by omega, rfl, rfl, rfl⟩
  case round =>
    obtain ⟨k, q, hkn, rfl, hpre, rfl⟩ := hrel
    have HPRE := Lib.hid hpre
    clear hpre
    by_cases hlt : k < n
    · obtain ⟨x, hx⟩ : ∃ x, L[k]? = some x := ⟨L[k]'(by rw [HN.out]; exact hlt), List.getElem?_eq_getElem _⟩
      obtain ⟨y, hy⟩ : ∃ y, M[k]? = some y := ⟨M[k]'(by rw [HM.out]; exact hlt), List.getElem?_eq_getElem _⟩
      obtain ⟨b, off, hA, hblt, hc⟩ := H1.out (by rw [HN.out]; omega)
      subst hA
      obtain ⟨b', off', hA', hblt', hc'⟩ := H2.out (by rw [HM.out]; omega)
      subst hA'
      have x0 := hc k x hx
      have y0 := hc' k y hy
      have HX := Lib.hid hx
      have HY := Lib.hid hy
      have hkI : (k : Int) < (n : Int) := by omega
      clear hc hc' hx hy hblt hblt'
      by_cases he : x = y
      · have hb : (x != y) = false := by simp [he]
        have HE := Lib.hid he
        clear he
        go_wp2_with fail
        go_quiet (fail)
        go_wp2_with fail
        go_roundw
        case rel => exact ⟨k + 1, _, by omega, by go_num, by rw [List.take_add_one, List.take_add_one, HPRE.out, HX.out, HY.out, HE.out], rfl⟩
        case measure => simp [intOf]; omega
      · have hb : (x != y) = true := by simp [he]
        have HE := Lib.hid he
        clear he
        go_wp2_with fail
        go_quiet (fail)
        go_wp2_with fail
        go_ret
        refine ⟨retB (decide_eq_false fun h => HE.out ?_).symm, _, World.drewN_drewN _ _ _⟩
        have h3 := HX.out
        rw [h, HY.out] at h3
        injection h3 with h3
        exact h3.symm
    · have hk : k = n := by omega
      have HK := Lib.hid (show L = M by
        have := HPRE.out
        rw [hk, List.take_of_length_le (by rw [HN.out]; omega), List.take_of_length_le (by rw [HM.out]; omega)] at this
        exact this)
      clear hk
      go_wp2_with fail
      go_ret
      exact ⟨retB (decide_eq_true HK.out).symm, _, rfl⟩

/-- slices.Index: the first index; -1 if there is none. -/
def idxI (L : List Int) (x : Int) : Int := match L.findIdx? (· == x) with | some i => (i : Int) | none => -1
theorem idxI_hit {L : List Int} {x : Int} {k : Nat} (h : L[k]? = some x) (hno : ∀ (i : Nat) (u : Int), i < k → L[i]? = some u → (u == x) = false) : idxI L x = k := by
  unfold idxI
  rw [List.findIdx?_eq_some_iff_getElem.2 ⟨(List.getElem?_eq_some_iff.1 h).1, by simp [(List.getElem?_eq_some_iff.1 h).2], fun j hj => by
    have := hno j _ hj (List.getElem?_eq_getElem (by have := (List.getElem?_eq_some_iff.1 h).1; omega))
    simpa using this⟩]
theorem idxI_none {L : List Int} {x : Int} (hno : ∀ (i : Nat) (u : Int), i < L.length → L[i]? = some u → (u == x) = false) : idxI L x = -1 := by
  unfold idxI
  rw [List.findIdx?_eq_none_iff.2 fun y hy => by
    obtain ⟨i, hi, rfl⟩ := List.mem_iff_getElem.1 hy
    exact hno i _ hi (List.getElem?_eq_getElem hi)]
set_option maxHeartbeats 2000000 in
theorem index_any (P : Nat → Prop) (A : Option Addr) (c : Nat) (L : List Int) (x : Int) (w : World) (hm : L.length ≤ maxLen) (h1 : IntsAt P w A L) :
    Calls Try.prog 32 #[.slice A L.length c, .int .i64 x] w fun e w' => e = .returned (.int .i64 (idxI L x)) ∧ w = w' := by
  unfold maxLen at hm
  have H1 := Lib.hid h1
  clear h1
  go_enter Try.func32, Try.ntmps32
  go_wp2_with fail
  go_loopw [8] (fun i wr => ∃ k : Nat, k ≤ L.length ∧ i = .int .i64 k ∧ (∀ (i : Nat) (u : Int), i < k → L[i]? = some u → (u == x) = false) ∧ wr = w) (fun i _ => L.length - (intOf i).toNat)
  case atStart => exact ⟨0, by omega, rfl, fun i t hi => absurd hi (by omega), rfl⟩
  case round =>
    obtain ⟨k, hk, rfl, hno, rfl⟩ := hrel
    have HN := Lib.hid hno
    clear hno
    by_cases hlt : k < L.length
    · obtain ⟨t, ht⟩ : ∃ t, L[k]? = some t := ⟨L[k], List.getElem?_eq_getElem hlt⟩
      obtain ⟨b, off, hA, hblt, hc⟩ := H1.out (by omega)
      subst hA
      have h0 := hc k t ht
      have HT := Lib.hid ht
      clear hc ht hblt
      by_cases he : t = x
      · subst he
        have hb : (t == t) = true := by simp
        go_wp2_with fail
        go_ret
        exact ⟨retI (idxI_hit HT.out HN.out).symm, rfl⟩
      · have hb : (x == t) = false := by simp; exact fun h => he h.symm
        have HB := Lib.hid (show (t == x) = false by simp [he])
        clear he
        go_wp2_with fail
        go_roundw
        case rel => exact ⟨k + 1, by omega, by go_num, any_snoc' L k t HT.out HB.out HN.out, by trivial⟩
        case measure => simp [intOf]; omega
    · have hkL : k = L.length := by omega
      have HE := Lib.hid (idxI_none (hkL ▸ HN.out))
      clear hkL
      go_wp2_with fail
      go_ret
      exact ⟨retI HE.out.symm, rfl⟩

def cmpO (x y : Int) : Int := if x < y then -1 else if y < x then 1 else 0
theorem cmpO_lt {x y : Int} (h : x < y) : cmpO x y = -1 := by unfold cmpO; rw [if_pos h]
theorem cmpO_gt {x y : Int} (h : y < x) : cmpO x y = 1 := by unfold cmpO; rw [if_neg (by omega), if_pos h]
theorem cmpO_eq {x y : Int} (h : x = y) : cmpO x y = 0 := by unfold cmpO; rw [if_neg (by omega), if_neg (by omega)]
theorem cmpO_le {x y : Int} : cmpO x y ≤ 0 ↔ x ≤ y := by 
  unfold cmpO
  by_cases h1 : x < y
  · rw [if_pos h1]; omega
  · rw [if_neg h1]
    by_cases h2 : y < x
    · rw [if_pos h2]; omega
    · rw [if_neg h2]; omega
/-- Ascending, not strictly. -/
def srt (L : List Int) : Prop := L.Pairwise (· ≤ ·)
instance (L : List Int) : Decidable (srt L) := inferInstanceAs (Decidable (L.Pairwise (· ≤ ·)))
theorem srt_adj {L : List Int} (h : ∀ (i : Nat) (x y : Int), L[i]? = some x → L[i + 1]? = some y → x ≤ y) : srt L := by
  induction L with
  | nil => exact List.Pairwise.nil
  | cons a L ih =>
    have h1 := ih fun i x y hx hy => h (i + 1) x y (by simpa using hx) (by simpa using hy)
    refine List.Pairwise.cons (fun z hz => ?_) h1
    cases L with
    | nil => cases hz
    | cons b L =>
      have h0 := h 0 a b rfl rfl
      rcases List.mem_cons.1 hz with rfl | hz
      · exact h0
      · exact Int.le_trans h0 ((List.pairwise_cons.1 h1).1 z hz)
theorem srt_get {L : List Int} (h : srt L) {i j : Nat} {x y : Int} (hij : i ≤ j) (hx : L[i]? = some x) (hy : L[j]? = some y) : x ≤ y := by
  rcases Nat.lt_or_ge i j with hlt | hge
  · obtain ⟨h1, rfl⟩ := List.getElem?_eq_some_iff.1 hx
    obtain ⟨h2, rfl⟩ := List.getElem?_eq_some_iff.1 hy
    exact List.pairwise_iff_getElem.1 h i j h1 h2 hlt
  · have : i = j := by omega
    subst this
    rw [hx] at hy
    exact Int.le_of_eq (Option.some.inj hy)
theorem srt_bad {L : List Int} {i : Nat} {x y : Int} (hx : L[i]? = some x) (hy : L[i + 1]? = some y) (h : y < x) : decide (srt L) = false := decide_eq_false fun hs => by
  have := srt_get hs (Nat.le_succ i) hx hy
  omega
end Go.Proofs.Ytmlgbmfjnbhamaa
