/- Inverse: plain facts, the program's walk. -/
import Derived.Test.YtmlgbmfjnbhamaaTlR
namespace Go.Proofs.Ytmlgbmfjnbhamaa
open Go.RowKit
set_option maxRecDepth 100000
/-- The nodes of the positions, as far as the first k nodes go; -1 where there is none yet. -/
def invR (L : List Int) : Nat → List Int
  | 0 => List.replicate L.length (-1)
  | k + 1 => (invR L k).set (L.getD k 0).toNat (k : Int)
theorem invR_len (L : List Int) : ∀ k, (invR L k).length = L.length
  | 0 => by simp [invR]
  | k + 1 => by
    show ((invR L k).set _ _).length = _
    rw [List.length_set, invR_len L k]
/-- Node k's position is one, and no node before it has it. -/
def invOk (L : List Int) (k : Nat) : Prop := 0 ≤ L.getD k 0 ∧ L.getD k 0 < (L.length : Int) ∧ (invR L k).getD (L.getD k 0).toNat 0 < 0
theorem invR_ge (L : List Int) : ∀ k p, -1 ≤ (invR L k).getD p 0
  | 0, p => by
    simp only [invR, List.getD_eq_getElem?_getD, List.getElem?_replicate]
    split <;> simp
  | k + 1, p => by
    have ih := invR_ge L k p
    simp only [List.getD_eq_getElem?_getD] at ih ⊢
    show -1 ≤ (((invR L k).set _ _)[p]?).getD 0
    rw [List.getElem?_set]
    split
    · split
      · simp <;> omega
      · simp
    · exact ih
/-- As many positions are taken as nodes have come. -/
theorem invR_count (L : List Int) : ∀ k, (∀ j, j < k → invOk L j) → (invR L k).countP (fun x => decide (0 ≤ x)) = k
  | 0, _ => by
    simp only [invR]
    rw [List.countP_eq_zero]
    intro x hx
    rw [List.eq_of_mem_replicate hx]
    decide
  | k + 1, h => by
    have ih := invR_count L k (fun j hj => h j (by omega))
    obtain ⟨h0, h1, h2⟩ := h k (by omega)
    have hp : (L.getD k 0).toNat < (invR L k).length := by rw [invR_len]; omega
    show ((invR L k).set _ _).countP _ = _
    rw [List.countP_set hp, ih]
    rw [List.getD_eq_getElem?_getD, List.getElem?_eq_getElem hp] at h2
    simp only [Option.getD_some] at h2
    rw [decide_eq_false (by omega)]
    simp
/-- Where all nodes have come, every position is taken. -/
theorem invR_full {L : List Int} (h : ∀ j, j < L.length → invOk L j) {x : Int} (hx : x ∈ invR L L.length) : 0 ≤ x := by
  have h1 := invR_count L L.length h
  have h2 : (invR L L.length).countP (fun x => decide (0 ≤ x)) = (invR L L.length).length := by rw [h1, invR_len]
  simpa using (List.countP_eq_length.1 h2) x hx
/-- How far a list goes as the positions of nodes. -/
structure InvK (L : List Int) (k0 : Nat) : Prop where
  le : k0 ≤ L.length
  ok : ∀ j, j < k0 → invOk L j
  stop : k0 < L.length → ¬ invOk L k0
theorem invK_ex (L : List Int) : ∃ k0, InvK L k0 := by
  have key : ∀ m, m ≤ L.length → (∀ j, j < m → invOk L j) ∨ ∃ k0, k0 < m ∧ InvK L k0 := fun m => by
    induction m with
    | zero => intro _; exact Or.inl fun j hj => by omega
    | succ m ih =>
      intro hm
      rcases ih (by omega) with h | ⟨k0, hk, h⟩
      · by_cases ho : invOk L m
        · left
          intro j hj
          rcases Nat.lt_or_ge j m with hl | hl
          · exact h j hl
          · rw [show j = m by omega]; exact ho
        · exact Or.inr ⟨m, by omega, ⟨by omega, h, fun _ => ho⟩⟩
      · exact Or.inr ⟨k0, by omega, h⟩
  rcases key L.length (Nat.le_refl _) with h | ⟨k0, _, h⟩
  · exact ⟨L.length, Nat.le_refl _, h, fun h' => absurd h' (Nat.lt_irrefl _)⟩
  · exact ⟨k0, h⟩
/-- What Inverse leaves. -/
def InvP (n : Nat) (L : List Int) (k0 : Nat) (w : World) (er : Ending) (w' : World) : Prop :=
  ((k0 = n ∧ ∃ g, er = .returned (.tuple #[.slice (some ⟨g, 0, none⟩) n n, .int .i64 0]) ∧ ORow w.heap.size w' (some ⟨g, 0, none⟩) n (invR L n)) ∨ (k0 < n ∧ er = .returned (.tuple #[.slice none 0 0, .int .i64 1]))) ∧ Below w.heap.size w w'
/-- A []int that came in reads at an index. -/
theorem IntsAt.get {n0 : Nat} {w : World} {A : Option Addr} {L : List Int} (h : IntsAt (· < n0) w A L) {i : Nat} {x : Int} (hi : L[i]? = some x) : ∃ b off, A = some ⟨b, off, none⟩ ∧ b < n0 ∧ w.cell? ⟨b, off + i, none⟩ = some (.int .i64 x) := by
  obtain ⟨b, off, hA, hb, hc⟩ := h (by have := (List.getElem?_eq_some_iff.1 hi).1; omega)
  exact ⟨b, off, hA, hb, hc i x hi⟩
theorem getD_of {L : List Int} {j : Nat} {x : Int} (h : L[j]? = some x) : L.getD j 0 = x := by rw [List.getD_eq_getElem?_getD, h]; rfl
set_option maxHeartbeats 8000000 in
theorem inverse_any (A : Option Addr) (cap n k0 : Nat) (L : List Int) (w : World) (hn : L.length = n) (hnl : n ≤ 60000) (h : IntsAt (· < w.heap.size) w A L) (hk : InvK L k0) :
    Calls Try.prog 18 #[.slice A n cap] w (InvP n L k0 w) := by
  have H1 := Lib.hid h
  have HN := Lib.hid hn
  have HK := Lib.hid hk
  have hk0n : k0 ≤ n := by have := hk.le; omega
  obtain ⟨w1, hw1⟩ : ∃ w1, w1 = w.alloc (.cells #[.int .i64 (-1)] 3) := ⟨_, rfl⟩
  have HR := Lib.hid (repeat_any n w1 w.heap.size w.heap.size (by omega) (by rw [hw1]; simp) (by rw [hw1]; exact bdNew w _))
  have HB1 : Hid (Below w.heap.size w w1) := Lib.hid (by rw [hw1]; exact (Below.refl _ _).alloc (Nat.le_refl _) _)
  have HW1 := Lib.hid hw1
  clear h hn hk hw1
  go_enter Try.func18, Try.ntmps18
  go_wp2_with fail
  rw [← HW1.out]
  refine HR.out.mono ?_
  rintro er w2 ⟨⟨g, rfl, hr2⟩, hb2⟩
  have hr3 := hr2.row (n := n) (by simp)
  rw [show List.replicate n (-1 : Int) = invR L 0 by rw [← HN.out]; rfl] at hr3
  have HR2 := Lib.hid hr3
  have HB2 : Hid (Below w.heap.size w w2) := Lib.hid (HB1.out.trans hb2)
  clear hr2 hb2 hr3
  go_wp2_with fail
  go_loopw [16] (fun s wr => ∃ j : Nat, j ≤ k0 ∧ s = .int .i64 j ∧ wr.ownsRow w.heap.size 3 1 (.slice (some ⟨g, 0, none⟩) n n) n ((invR L j).map (Value.int .i64)) ∧ Below w.heap.size w wr) (fun s _ => n - (intOf s).toNat)
  case atStart => exact ⟨0, by omega, rfl, HR2.out, HB2.out⟩
  case round =>
    obtain ⟨j, hj, rfl, how, hb⟩ := hrel
    have HOW := Lib.hid how
    have HB := Lib.hid hb
    by_cases hlt : j < n
    · have hltI : (j : Int) < (n : Int) := by omega
      obtain ⟨x, hx⟩ : ∃ x, L[j]? = some x := ⟨L[j]'(by rw [HN.out]; exact hlt), List.getElem?_eq_getElem _⟩
      obtain ⟨b, off, hA, hbl, x0⟩ := (H1.out.below hb).get hx
      subst hA
      have hxD := getD_of hx
      have HXD := Lib.hid hxD
      by_cases hj0 : j < k0
      · obtain ⟨o1, o2, o3⟩ := HK.out.ok j hj0
        rw [hxD] at o1 o2 o3
        rw [HN.out] at o2
        obtain ⟨p, rfl⟩ : ∃ p : Nat, x = (p : Int) := ⟨x.toNat, by omega⟩
        have hpn : p < n := by omega
        rw [Int.toNat_natCast] at o3
        obtain ⟨y, hy⟩ : ∃ y, (invR L j)[p]? = some y := ⟨(invR L j)[p]'(by rw [invR_len, HN.out]; exact hpn), List.getElem?_eq_getElem _⟩
        rw [getD_of hy] at o3
        have y0 : wr.cell? ⟨g, p, none⟩ = some (.int .i64 y) := (how.cellAt p (by omega)).trans (by rw [List.getElem?_map, hy]; rfl)
        have f0 := how.frozenAt p
        have hst := (how.stored p (.int .i64 (j : Int))).1
        rw [← List.map_set, show (invR L j).set p (j : Int) = invR L (j + 1) by show _ = (invR L j).set _ _; rw [hxD, Int.toNat_natCast]] at hst
        have HST := Lib.hid hst
        have HB3 : Hid (Below w.heap.size w (wr.setCell ⟨g, p, none⟩ (.int .i64 (j : Int)))) := Lib.hid (hb.setCell (p := ⟨g, p, none⟩) (how.lt g rfl).1 _)
        have d1 : decide (0 ≤ y) = false := decide_eq_false (by omega)
        have hpI : (p : Int) < (n : Int) := by omega
        have hp0 : (0 : Int) ≤ (p : Int) := by omega
        clear how hb hx hxD hst hy HXD
        go_wp2_with fail
        go_roundw
        case rel => exact ⟨j + 1, by omega, by go_num, HST.out, HB3.out⟩
        case measure => simp [intOf]; omega
      · obtain rfl : j = k0 := by omega
        have hno := HK.out.stop (by rw [HN.out]; exact hlt)
        have hxm := hxD
        have fin : ∀ er, er = Ending.returned (.tuple #[.slice none 0 0, .int .i64 1]) → InvP n L j w er wr := fun er he => ⟨Or.inr ⟨hlt, he⟩, HB.out⟩
        have FIN := Lib.hid fin
        clear fin
        by_cases hx0 : x < 0
        · have d1 : decide (x < 0) = true := decide_eq_true hx0
          clear how hb hx hxD hxm hno HXD hx0
          go_wp2_with fail
          go_ret2
          exact FIN.out _ rfl
        · have d1 : decide (x < 0) = false := decide_eq_false hx0
          by_cases hxn : (n : Int) ≤ x
          · have d2 : decide ((n : Int) ≤ x) = true := decide_eq_true hxn
            clear how hb hx hxD hxm hno HXD hx0
            go_wp2_with fail
            go_ret2
            exact FIN.out _ rfl
          · obtain ⟨p, rfl⟩ : ∃ p : Nat, x = (p : Int) := ⟨x.toNat, by omega⟩
            have hpn : p < n := by omega
            have hpI : (p : Int) < (n : Int) := by omega
            have hp0 : (0 : Int) ≤ (p : Int) := by omega
            obtain ⟨y, hy⟩ : ∃ y, (invR L j)[p]? = some y := ⟨(invR L j)[p]'(by rw [invR_len, HN.out]; exact hpn), List.getElem?_eq_getElem _⟩
            have y0 : wr.cell? ⟨g, p, none⟩ = some (.int .i64 y) := (how.cellAt p (by omega)).trans (by rw [List.getElem?_map, hy]; rfl)
            have hy0 : 0 ≤ y := Int.not_lt.1 fun hlt' => hno ⟨by rw [hxD]; omega, by rw [hxD, HN.out]; omega, by rw [hxD, Int.toNat_natCast, getD_of hy]; exact hlt'⟩
            have d3 : decide (0 ≤ y) = true := decide_eq_true hy0
            clear how hb hx hxD hxm hno HXD hx0 hxn hy d1
            go_wp2_with fail
            go_ret2
            exact FIN.out _ rfl
    · have hjn : j = n := by omega
      subst hjn
      have hkj : k0 = j := by omega
      clear how hb
      go_wp2_with fail
      go_ret2
      exact ⟨Or.inl ⟨hkj, g, rfl, ORow.of HOW.out (by rw [invR_len, HN.out])⟩, HB.out⟩
end Go.Proofs.Ytmlgbmfjnbhamaa
