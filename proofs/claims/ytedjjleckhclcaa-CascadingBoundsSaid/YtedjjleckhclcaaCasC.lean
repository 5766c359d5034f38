/- Walks: slices.Concat of entries; merge. -/
import Derived.Laws.AppendOwnNone
import Derived.Test.YtedjjleckhclcaaCasB
namespace Go.Proofs.Ytedjjleckhclcaa
open Go.RowKit
set_option maxRecDepth 100000

theorem flat_take {α : Type} {LL : List (List α)} {k : Nat} {l : List α} (h : LL[k]? = some l) : (LL.take (k + 1)).flatten = (LL.take k).flatten ++ l := by
  rw [List.take_add_one, h]
  simp
theorem flat_le {α : Type} (LL : List (List α)) (k : Nat) : (LL.take k).flatten.length ≤ LL.flatten.length := by
  have : LL.flatten = (LL.take k).flatten ++ (LL.drop k).flatten := by rw [← List.flatten_append, List.take_append_drop]
  rw [this, List.length_append]
  omega
/-- The slices that Concat is given. -/
def CatAt (n₀ : Nat) (w : World) (B : Nat) (LL : List (List CE)) : Prop :=
  ∀ (k : Nat) (l : List CE), LL[k]? = some l → ∃ A c, w.cell? ⟨B, k, none⟩ = some (.slice A l.length c) ∧ l.length ≤ c ∧ c ≤ maxLen ∧ (A = none → c = 0) ∧ EntsAt n₀ w A l
theorem CatAt.below {n₀ : Nat} {w w' : World} {B : Nat} {LL : List (List CE)} (h : CatAt n₀ w B LL) (hB : B < n₀) (hb : Below n₀ w w') : CatAt n₀ w' B LL := fun k l hl => by
  obtain ⟨A, c, h0, h1, h2, h3, h4⟩ := h k l hl
  exact ⟨A, c, (hb.cell (p := ⟨B, k, none⟩) hB).trans h0, h1, h2, h3, h4.below hb⟩
theorem entC_nil_of {L : List CE} (h : L.length = 0) : L = [] := List.length_eq_zero_iff.1 h
theorem keep_fits {w wr w' : World} {g : Nat} (hb : Below w.heap.size w wr) (hg : wr.grownBy w' (some g)) (h : w.heap.size ≤ g) : Below w.heap.size w w' := hb.grown hg hb.size (fun k e => by cases e; exact h)

set_option maxHeartbeats 4000000 in
theorem concat_any (B : Nat) (LL : List (List CE)) (w : World) (hB : B < w.heap.size) (hm : LL.length ≤ 100) (ht : LL.flatten.length ≤ 20000) (hc : CatAt w.heap.size w B LL) :
    Calls Try.prog 43 #[.slice (some ⟨B, 0, none⟩) LL.length LL.length] w fun e w' => ∃ v, e = .returned v ∧ w'.ownsRow w.heap.size 61 2 v LL.flatten.length (entC LL.flatten) ∧ Below w.heap.size w w' := by
  have HC := Lib.hid hc
  have HLE := Lib.hid (fun k => flat_le LL k)
  clear hc
  obtain ⟨m, hmm⟩ : ∃ m, LL.length = m := ⟨_, rfl⟩
  obtain ⟨T, hT⟩ : ∃ T, LL.flatten.length = T := ⟨_, rfl⟩
  rw [hmm]
  have HM := Lib.hid hmm
  have HT := Lib.hid hT
  rw [hmm] at hm
  rw [hT] at ht
  clear hmm hT
  obtain ⟨i0, hi, hz0, hz1, hz2⟩ := info_parts Try.infoEntry
  go_enter Try.func43, Try.ntmps43
  go_wp2_with fail
  go_loopw [3, 11] (fun u i wr => ∃ k q : Nat, k ≤ m ∧ i = .int .i64 k ∧ u = .int .i64 q ∧ q = (LL.take k).flatten.length ∧ q ≤ T ∧ w = wr) (fun _ i _ => m - (intOf i).toNat)
  case atStart => exact ⟨0, 0, by omega, rfl, rfl, by simp, by omega, rfl⟩
  case round =>
    obtain ⟨k, q, hk, rfl, rfl, hq, hqT, rfl⟩ := hrel
    have HQ := Lib.hid hq
    clear hq
    by_cases hlt : k < m
    · obtain ⟨l, hl⟩ : ∃ l, LL[k]? = some l := ⟨LL[k]'(by rw [HM.out]; exact hlt), List.getElem?_eq_getElem _⟩
      obtain ⟨A, c, c0, c1, c2, c3, c4⟩ := HC.out k l hl
      have HL := Lib.hid hl
      have hq2 : q + l.length ≤ T := by
        have := HLE.out (k + 1)
        rw [flat_take hl, List.length_append, ← HQ.out, HT.out] at this
        exact this
      have HQ2 := Lib.hid (show q + l.length = (LL.take (k + 1)).flatten.length by rw [flat_take hl, List.length_append, ← HQ.out])
      clear hl c1 c2 c3 c4
      go_wp2_with fail
      go_roundw
      case rel => exact ⟨k + 1, q + l.length, by omega, by go_num, by go_num, HQ2.out, hq2, by trivial⟩
      case measure => simp [intOf]; omega
    · have hkm : k = m := by omega
      have hqT' : q = T := by rw [HQ.out, hkm, ← HM.out, List.take_length, HT.out]
      clear hkm HQ hqT
      subst hqT'
      by_cases h0 : q = 0
      · subst h0
        have HN : Hid (LL.flatten = []) := List.length_eq_zero_iff.1 HT.out
        have HN2 : Hid (∀ (k : Nat) (l : List CE), LL[k]? = some l → l = []) := fun k l hl => List.flatten_eq_nil_iff.1 HN.out l (List.mem_of_getElem? hl)
        go_wp2_with fail
        refine (grow_none _).mono ?_
        rintro e w1 ⟨rfl, rfl⟩
        go_wp2_with fail
        go_loopw [6, 27] (fun u i wr => ∃ k : Nat, k ≤ m ∧ i = .int .i64 k ∧ u = .slice none 0 0 ∧ Below w.heap.size w wr) (fun _ i _ => m - (intOf i).toNat)
        case atStart => exact ⟨0, by omega, rfl, rfl, Below.refl _ _⟩
        case round =>
          obtain ⟨k, hk, rfl, rfl, hbw⟩ := hrel
          have HBW := Lib.hid hbw
          have HCR := Lib.hid (HC.out.below hB hbw)
          clear hbw
          by_cases hlt : k < m
          · obtain ⟨l, hl⟩ : ∃ l, LL[k]? = some l := ⟨LL[k]'(by rw [HM.out]; exact hlt), List.getElem?_eq_getElem _⟩
            obtain ⟨A, c, c0, c1, c2, c3, c4⟩ := HCR.out k l hl
            obtain rfl := HN2.out k l hl
            dsimp only [List.length_nil] at c0
            cases A with
            | none =>
              obtain rfl := c3 rfl
              clear hl c1 c2 c3 c4
              go_wp2_with (at_builtin; refine wpList_append_own_none rfl (.tmp 31) (.tmp 32) 59 rfl w.heap.size 61 i0 2 Try.underlying59 hi (.slice none 0 0) 0 [] rfl (World.ownsRow_nil _ _ _ _) rfl ?_)
              go_roundw
              case rel => exact ⟨k + 1, by omega, by go_num, rfl, HBW.out⟩
              case measure => simp [intOf]; omega
            | some ad =>
              have hsz := HBW.out.size
              clear hl c1 c2 c3 c4
              go_wp2_with (at_builtin; refine wpList_append_own _ rfl (.tmp 31) (.tmp 32) 59 rfl w.heap.size 61 i0 _ 2 16 Try.underlying59 hi hz0 hz1 hz2 rfl (by decide) (.slice none 0 0) 0 [] rfl (World.ownsRow_nil _ _ _ _) ad 0 c [] rfl rfl (fun j u hj => by simp at hj) (fun u hu => by simp at hu) (by unfold maxLen; omega) (by omega) hsz ?_; intro v' w1 hown' hgrow hnil)
              obtain rfl := hnil.2 ⟨rfl, rfl⟩
              have HB2 := Lib.hid (HBW.out.grown hgrow hsz (fun k e => by simp [Value.ownBlock] at e))
              clear hown' hgrow hnil
              go_wp2_with fail
              go_roundw
              case rel => exact ⟨k + 1, by omega, by go_num, rfl, HB2.out⟩
              case measure => simp [intOf]; omega
          · go_wp2_with fail
            go_ret
            exact ⟨_, rfl, by rw [HN.out]; exact World.ownsRow_nil _ _ _ _, HBW.out⟩
      · go_wp2_with fail
        refine (grow_some q (by omega) (by omega) _).mono ?_
        rintro e w1 ⟨cap, hcap, hcm, rfl, ho, hb⟩
        have HO := Lib.hid ho
        have HB1 := Lib.hid hb
        clear ho hb
        go_wp2_with fail
        go_loopw [6, 27] (fun u i wr => ∃ k n : Nat, k ≤ m ∧ i = .int .i64 k ∧ n = (LL.take k).flatten.length ∧ u = .slice (some ⟨w.heap.size, 0, none⟩) n cap ∧ wr.ownsRow w.heap.size 61 2 (.slice (some ⟨w.heap.size, 0, none⟩) n cap) n (entC (LL.take k).flatten) ∧ Below w.heap.size w wr) (fun _ i _ => m - (intOf i).toNat)
        case atStart => exact ⟨0, 0, by omega, rfl, rfl, rfl, HO.out, HB1.out⟩
        case round =>
          clear HO HB1
          obtain ⟨k, n, hk, rfl, hn, rfl, hown, hbw⟩ := hrel
          have HNL := Lib.hid hn
          clear hn
          have HOWN := Lib.hid hown
          have HBW := Lib.hid hbw
          have HCR := Lib.hid (HC.out.below hB hbw)
          clear hown hbw
          by_cases hlt : k < m
          · obtain ⟨l, hl⟩ : ∃ l, LL[k]? = some l := ⟨LL[k]'(by rw [HM.out]; exact hlt), List.getElem?_eq_getElem _⟩
            obtain ⟨A, c, c0, c1, c2, c3, c4⟩ := HCR.out k l hl
            have HL := Lib.hid hl
            have C3 := Lib.hid c3
            have C4 := Lib.hid c4
            have C1 := Lib.hid c1
            have hle : n + l.length ≤ q := by
              have := HLE.out (k + 1)
              rw [flat_take hl, List.length_append, HT.out, ← HNL.out] at this
              exact this
            clear hl c1 c2 c3 c4
            go_wp2_with (at_builtin; refine wpList_append_fits_any _ rfl (.tmp 31) (.tmp 32) 59 rfl w.heap.size 61 i0 2 Try.underlying59 hi hz1 w.heap.size n cap (entC (LL.take k).flatten) rfl HOWN.out A l.length c (entC l) rfl (entC_len l) ?d1 ?d2 (entC_one l) (by omega) ?_)
            case d1 =>
              intro hA
              have := C3.out hA
              have := C1.out
              omega
            case d2 =>
              intro ad hA j u hu
              have hpos : 0 < l.length := by
                have := (List.getElem?_eq_some_iff.1 hu).1
                rw [entC_len] at this
                omega
              obtain ⟨b, off, hA', _, hcc⟩ := C4.out hpos
              rw [hA'] at hA
              injection hA with hA
              subst hA
              rw [add_off]
              exact hcc j u hu
            intro w2 hown2 hgrow2
            have HB2 := Lib.hid (keep_fits HBW.out hgrow2 (Nat.le_refl _))
            have HO2 := Lib.hid hown2
            clear hown2 hgrow2
            go_wp2_with fail
            go_roundw
            case rel => exact ⟨k + 1, n + l.length, by omega, by go_num, by rw [flat_take HL.out, List.length_append, ← HNL.out], rfl, by rw [flat_take HL.out, entC_app]; exact HO2.out, HB2.out⟩
            case measure => simp [intOf]; omega
          · have hkm : k = LL.length := by rw [HM.out]; omega
            have HO3 := HOWN.out
            have e3 : (LL.take k).flatten = LL.flatten := by rw [hkm, List.take_length]
            have e4 := HNL.out
            rw [e3] at HO3 e4
            have HE4 := Lib.hid e4
            clear e4
            have HO4 := Lib.hid HO3
            have HE3 := Lib.hid e3
            clear HO3 e3 hkm
            go_wp2_with fail
            go_ret
            exact ⟨_, rfl, by rw [← HE4.out]; exact HO4.out, HBW.out⟩
end Go.Proofs.Ytedjjleckhclcaa
