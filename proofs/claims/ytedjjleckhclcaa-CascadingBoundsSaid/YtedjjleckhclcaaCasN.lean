/- Walks: the reference's Rank, Check, Total; the law's small. -/
import Derived.Test.YtedjjleckhclcaaCasM
namespace Go.Proofs.Ytedjjleckhclcaa
open Go.RowKit
set_option maxRecDepth 100000

theorem rk_take {L : List Int} {k : Nat} {x : Int} (h : L[k]? = some x) (key : Int) : rk (L.take (k + 1)) key = rk (L.take k) key + if x < key then 1 else 0 := by
  unfold rk
  rw [List.take_add_one, h, Option.toList_some, List.countP_append, List.countP_singleton]
  simp
set_option maxHeartbeats 2000000 in
theorem rank_any (A : Option Addr) (cp : Nat) (L : List Int) (P : Nat → Prop) (key : Int) (w : World) (hm : L.length ≤ maxLen) (hA : IntsAt P w A L) :
    Calls Try.prog 13 #[.slice A L.length cp, .int .i64 key] w fun e w' => e = .returned (.int .i64 (rk L key)) ∧ w = w' := by
  unfold maxLen at hm
  have HA := Lib.hid hA
  clear hA
  go_enter Try.func13, Try.ntmps13
  go_wp2_with fail
  go_loopw [5, 6] (fun u i wr => ∃ k q : Nat, k ≤ L.length ∧ i = .int .i64 k ∧ u = .int .i64 q ∧ q = rk (L.take k) key ∧ q ≤ k ∧ w = wr) (fun _ i _ => L.length - (intOf i).toNat)
  case atStart => exact ⟨0, 0, by omega, rfl, rfl, by simp [rk], by omega, rfl⟩
  case round =>
    obtain ⟨k, q, hk, rfl, rfl, hq, hqk, rfl⟩ := hrel
    have HQ := Lib.hid hq
    clear hq
    by_cases hlt : k < L.length
    · obtain ⟨x, hx⟩ : ∃ x, L[k]? = some x := ⟨L[k], List.getElem?_eq_getElem hlt⟩
      obtain ⟨b, off, hAe, _, hc⟩ := HA.out (by omega)
      subst hAe
      have h0 := hc k x hx
      have HT := Lib.hid (rk_take hx key)
      clear hc hx
      by_cases hxk : x < key
      · have HN : Hid (q + 1 = rk (L.take (k + 1)) key) := by rw [HT.out, if_pos hxk, ← HQ.out]; exact Lib.hid rfl
        go_wp2_with fail
        go_roundw
        case rel => exact ⟨k + 1, q + 1, by omega, by go_num, by go_num, HN.out, by omega, by trivial⟩
        case measure => simp [intOf]; omega
      · have hxk' : key ≤ x := by omega
        have HN : Hid (q = rk (L.take (k + 1)) key) := by rw [HT.out, if_neg hxk, ← HQ.out]; exact Lib.hid rfl
        go_wp2_with fail
        go_roundw
        case rel => exact ⟨k + 1, q, by omega, by go_num, rfl, HN.out, by omega, by trivial⟩
        case measure => simp [intOf]; omega
    · have HN : Hid (q = rk L key) := by rw [HQ.out, List.take_of_length_le (by omega)]; exact Lib.hid rfl
      go_wp2_with fail
      go_ret
      exact ⟨retI (by rw [← HN.out]), rfl⟩

/-- The elements up to an index stand right. -/
def okTo (c : List Int) (k : Nat) : Prop := ∀ (j : Nat) (x : Int), j < k → c[j]? = some x → (-1048576 ≤ x ∧ x ≤ 1048576) ∧ ∀ y, 0 < j → c[j - 1]? = some y → y ≤ x
theorem okTo_all {c : List Int} (h : okTo c c.length) : okCat c = true := by
  have h1 : srt c := srt_adj fun i x y hx hy => (h (i + 1) y (List.getElem?_eq_some_iff.1 hy).1 hy).2 x (by omega) (by simpa using hx)
  have h2 : c.all okKey = true := List.all_eq_true.2 fun x hx => by
    obtain ⟨i, hi, rfl⟩ := List.mem_iff_getElem.1 hx
    have := (h i _ hi (List.getElem?_eq_getElem hi)).1
    simp [okKey, this]
  unfold okCat
  rw [decide_eq_true h1, h2]
  rfl
theorem okCat_key {c : List Int} {k : Nat} {x : Int} (hx : c[k]? = some x) (h : x < -1048576 ∨ 1048576 < x) : okCat c = false := by
  unfold okCat
  have : c.all okKey = false := by
    rw [List.all_eq_false]
    exact ⟨x, List.mem_of_getElem? hx, by simp [okKey]; omega⟩
  rw [this, Bool.and_false]
theorem okCat_srt {c : List Int} {k : Nat} {x y : Int} (hx : c[k]? = some x) (hk : 0 < k) (hy : c[k - 1]? = some y) (h : x < y) : okCat c = false := by
  unfold okCat
  obtain ⟨j, rfl⟩ : ∃ j, k = j + 1 := ⟨k - 1, by omega⟩
  rw [srt_bad (i := j) (x := y) (y := x) (by simpa using hy) hx h]
  rfl
theorem okTo_next {c : List Int} {k : Nat} {x : Int} (h : okTo c k) (hx : c[k]? = some x) (h1 : -1048576 ≤ x ∧ x ≤ 1048576) (h2 : ∀ y, 0 < k → c[k - 1]? = some y → y ≤ x) : okTo c (k + 1) := fun j z hj hz => by
  rcases Nat.lt_or_ge j k with hl | hl
  · exact h j z hl hz
  · have : j = k := by omega
    subst this
    rw [hx] at hz
    obtain rfl := Option.some.inj hz
    exact ⟨h1, h2⟩
theorem ckM_1c {M : List (List Int)} {i : Nat} {c : List Int} (h1 : ¬ 32 < M.length) (h2 : M.any longC = false) (hc : M[i]? = some c) (h : okCat c = false) : ckM M = 1 :=
  ckM_1b h1 h2 (List.any_eq_true.2 ⟨c, List.mem_of_getElem? hc, by rw [h]; rfl⟩)

set_option maxHeartbeats 8000000 in
theorem check_any (A : Option Addr) (cp : Nat) (M : List (List Int)) (P : Nat → Prop) (w : World) (hm : M.length ≤ maxLen) (hA : RowsAt P w A M) :
    Calls Try.prog 10 #[.slice A M.length cp] w fun e w' => e = .returned (.int .i64 (ckM M)) ∧ ∃ q, w' = w.drewN q := by
  unfold maxLen at hm
  have HA := Lib.hid hA
  obtain ⟨m, hmm⟩ : ∃ m, M.length = m := ⟨_, rfl⟩
  have HM := Lib.hid hmm
  rw [hmm] at hm ⊢
  clear hA hmm
  by_cases h1 : 32 < m
  · have HE := Lib.hid (ckM_4a (M := M) (by rw [HM.out]; exact h1))
    go_enter Try.func10, Try.ntmps10
    go_wp2_with fail
    go_ret
    exact ⟨retI HE.out.symm, 0, rfl⟩
  have H1 := Lib.hid (show ¬ 32 < M.length by rw [HM.out]; exact h1)
  have h1' : m ≤ 32 := by omega
  go_enter Try.func10, Try.ntmps10
  go_wp2_with fail
  go_loopw [3] (fun i wr => ∃ k : Nat, k ≤ m ∧ i = .int .i64 k ∧ (∀ (i : Nat) (u : List Int), i < k → M[i]? = some u → longC u = false) ∧ w = wr) (fun i _ => m - (intOf i).toNat)
  case atStart => exact ⟨0, by omega, rfl, fun i t hi => absurd hi (by omega), rfl⟩
  case round =>
    obtain ⟨k, hk, rfl, hno, rfl⟩ := hrel
    have HN := Lib.hid hno
    clear hno
    by_cases hlt : k < m
    · obtain ⟨c, hc⟩ : ∃ c, M[k]? = some c := ⟨M[k]'(by rw [HM.out]; exact hlt), List.getElem?_eq_getElem _⟩
      obtain ⟨b, off, hAe, _, hcc⟩ := HA.out (by rw [HM.out]; omega)
      subst hAe
      obtain ⟨A', c', r0, r1, r2, _⟩ := hcc k c hc
      have HC := Lib.hid hc
      clear hcc hc
      by_cases hl : 1000 < c.length
      · have HE := Lib.hid (ckM_4b (M := M) (any_hit' M k c HC.out (by unfold longC; exact decide_eq_true hl)))
        go_wp2_with fail
        go_ret
        exact ⟨retI HE.out.symm, 0, rfl⟩
      · have hl' : c.length ≤ 1000 := by omega
        have HL := Lib.hid (show longC c = false by unfold longC; exact decide_eq_false hl)
        clear hl
        go_wp2_with fail
        go_roundw
        case rel => exact ⟨k + 1, by omega, by go_num, any_snoc' M k c HC.out HL.out HN.out, by trivial⟩
        case measure => simp [intOf]; omega
    · have hkm : k = M.length := by rw [HM.out]; omega
      have H2 := Lib.hid (any_none' M (hkm ▸ HN.out))
      clear hkm
      by_cases h0 : m = 0
      · have HE := Lib.hid (ckM_1a (M := M) (by rw [HM.out]; exact h0))
        subst h0
        go_wp2_with fail
        go_ret
        exact ⟨retI HE.out.symm, 0, rfl⟩
      have h0b : ((m : Int) == 0) = false := by simp; omega
      go_wp2_with fail
      go_loopw [4, 5] (fun i _ wr => ∃ k q : Nat, k ≤ m ∧ i = .int .i64 k ∧ (∀ (i : Nat) (u : List Int), i < k → M[i]? = some u → (fun c => !okCat c) u = false) ∧ wr = w.drewN q) (fun i _ _ => m - (intOf i).toNat)
      case atStart => exact ⟨0, 0, by omega, rfl, fun i t hi => absurd hi (by omega), rfl⟩
      case round =>
        obtain ⟨i, q, hi, rfl, hno, hw⟩ := hrel
        have HNO := Lib.hid hno
        have HW := Lib.hid hw
        clear hno hw
        by_cases hlt : i < m
        · obtain ⟨c, hc⟩ : ∃ c, M[i]? = some c := ⟨M[i]'(by rw [HM.out]; exact hlt), List.getElem?_eq_getElem _⟩
          have HCI := Lib.hid hc
          clear hc
          go_wp2_with fail
          obtain ⟨w2, hw2⟩ : ∃ w2 : World, w2 = wr := ⟨_, rfl⟩
          rw [← hw2] at HW ⊢
          clear hw2
          go_loopw [5] (fun i wr => ∃ k q : Nat, k ≤ c.length ∧ i = .int .i64 k ∧ okTo c k ∧ wr = w.drewN q) (fun i _ => c.length - (intOf i).toNat)
          case atStart => exact ⟨0, q, by omega, rfl, fun j x hj => absurd hj (by omega), HW.out⟩
          case round =>
            obtain ⟨k, q2, hk2, rfl, hok, hw⟩ := hrel
            have HOK := Lib.hid hok
            have HW2 := Lib.hid hw
            have hA2 : RowsAt P wr A M := by rw [hw]; exact HA.out
            obtain ⟨b, off, hAe, _, hcc⟩ := hA2 (by rw [HM.out]; omega)
            subst hAe
            obtain ⟨A', c', r0, r1, r2, r3⟩ := hcc i c HCI.out
            have HR3 := Lib.hid r3
            unfold maxLen at r2
            have hci : (c.length : Int) ≤ 9223372036854775807 := by omega
            clear hok hw hA2 hcc r3
            by_cases hlt2 : k < c.length
            · obtain ⟨x, hx⟩ : ∃ x, c[k]? = some x := ⟨c[k], List.getElem?_eq_getElem hlt2⟩
              obtain ⟨b', off', hAe', _, hc2⟩ := HR3.out (by omega)
              subst hAe'
              have x0 := hc2 k x hx
              have HX := Lib.hid hx
              have HY0 := Lib.hid hc2
              have hkI : (k : Int) < (c.length : Int) := by omega
              have hiI : (i : Int) < (m : Int) := by omega
              clear hx hc2
              by_cases g1 : x < -1048576
              · have hd : decide (x < -1048576) = true := decide_eq_true g1
                have HE := Lib.hid (ckM_1c H1.out H2.out HCI.out (okCat_key HX.out (.inl g1)))
                go_wp2_with fail
                go_quiet (fail)
                go_wp2_with fail
                go_ret
                exact ⟨retI HE.out.symm, _, by rw [HW2.out]; exact World.drewN_drewN _ _ _⟩
              have hd1 : decide (x < -1048576) = false := decide_eq_false g1
              by_cases g2 : 1048576 < x
              · have hd : decide (1048576 < x) = true := decide_eq_true g2
                have HE := Lib.hid (ckM_1c H1.out H2.out HCI.out (okCat_key HX.out (.inr g2)))
                go_wp2_with fail
                go_quiet (fail)
                go_wp2_with fail
                go_ret
                exact ⟨retI HE.out.symm, _, by rw [HW2.out]; exact World.drewN_drewN _ _ _⟩
              have hd2 : decide (1048576 < x) = false := decide_eq_false g2
              have HB := Lib.hid (show -1048576 ≤ x ∧ x ≤ 1048576 by omega)
              by_cases g3 : 0 < k
              · have hd3 : decide ((0 : Int) < (k : Int)) = true := decide_eq_true (by omega)
                obtain ⟨y, hy⟩ : ∃ y, c[k - 1]? = some y := ⟨c[k - 1], List.getElem?_eq_getElem (by omega)⟩
                have y0 := HY0.out (k - 1) y hy
                have HY := Lib.hid hy
                clear hy
                have ek : ((k : Int) - 1) = ((k - 1 : Nat) : Int) := by omega
                have ek2 : ((k - 1 : Nat) : Int) < (c.length : Int) := by omega
                by_cases g4 : x < y
                · have hd : decide (x < y) = true := decide_eq_true g4
                  have HE := Lib.hid (ckM_1c H1.out H2.out HCI.out (okCat_srt HX.out g3 HY.out g4))
                  go_wp2_with fail
                  go_quiet (fail)
                  go_wp2_with fail
                  go_ret
                  exact ⟨retI HE.out.symm, _, by rw [HW2.out]; exact World.drewN_drewN _ _ _⟩
                · have hd : decide (x < y) = false := decide_eq_false g4
                  have HN2 := Lib.hid (okTo_next HOK.out HX.out HB.out (fun z _ hz => by rw [HY.out] at hz; obtain rfl := Option.some.inj hz; omega))
                  go_wp2_with fail
                  go_quiet (fail)
                  go_wp2_with fail
                  go_roundw
                  case rel => exact ⟨k + 1, _, by omega, by go_num, HN2.out, by rw [HW2.out]; exact World.drewN_drewN _ _ _⟩
                  case measure => simp [intOf]; omega
              · have hd3 : decide ((0 : Int) < (k : Int)) = false := decide_eq_false (by omega)
                have HN2 := Lib.hid (okTo_next HOK.out HX.out HB.out (fun z h0 _ => absurd h0 g3))
                go_wp2_with fail
                go_quiet (fail)
                go_wp2_with fail
                go_roundw
                case rel => exact ⟨k + 1, _, by omega, by go_num, HN2.out, by rw [HW2.out]; exact World.drewN_drewN _ _ _⟩
                case measure => simp [intOf]; omega
            · have hkc : k = c.length := by omega
              have HE := Lib.hid (show okCat c = true from okTo_all (hkc ▸ HOK.out))
              clear hkc
              go_wp2_with fail
              go_roundw
              case rel => exact ⟨i + 1, q2, by omega, by go_num, any_snoc' M i c HCI.out (by rw [HE.out]; rfl) HNO.out, HW2.out⟩
              case measure => simp [intOf]; omega
        · have him : i = M.length := by rw [HM.out]; omega
          have HE := Lib.hid (ckM_0 (M := M) H1.out H2.out (by rw [HM.out]; exact h0) (any_none' M (him ▸ HNO.out)))
          clear him
          go_wp2_with fail
          go_ret
          exact ⟨retI HE.out.symm, q, HW.out⟩
end Go.Proofs.Ytedjjleckhclcaa
