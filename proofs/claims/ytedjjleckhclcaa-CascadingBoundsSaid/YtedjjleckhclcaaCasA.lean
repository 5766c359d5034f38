/- Walks: the catalogs' conditions: Make's and isCatalog's functions, slices.IndexFunc and ContainsFunc with them. -/
import Derived.Test.YtedjjleckhclcaaCasS
namespace Go.Proofs.Ytedjjleckhclcaa
open Go.RowKit
set_option maxRecDepth 100000

abbrev fnLong : Value := .func (.func 24) #[] #[]
abbrev fnBad : Value := .func (.func 25) #[] #[]
abbrev fnKey : Value := .func (.func 36) #[] #[]
set_option maxHeartbeats 1000000 in
theorem long_any (A : Option Addr) (cp : Nat) (c : List Int) (w : World) (hm : c.length ≤ maxLen) : Calls Try.prog 24 #[.slice A c.length cp] w fun e w' => e = .returned (.bool (longC c)) ∧ w = w' := by
  unfold maxLen at hm
  have HR := Lib.hid (show longC c = decide ((1000 : Int) < (c.length : Int)) by unfold longC; rw [Bool.eq_iff_iff]; simp; omega)
  go_enter Try.func24, Try.ntmps24
  go_wp2_with fail
  go_ret
  exact ⟨retB (by rw [HR.out]), rfl⟩
set_option maxHeartbeats 1000000 in
theorem key_any (x : Int) (w : World) : Calls Try.prog 36 #[.int .i64 x] w fun e w' => e = .returned (.bool (!okKey x)) ∧ w = w' := by
  by_cases h1 : x < -1048576
  · have HR := Lib.hid (show (!okKey x) = true by unfold okKey; simp; omega)
    have hd : decide (x < -1048576) = true := decide_eq_true h1
    go_enter Try.func36, Try.ntmps36
    go_wp2_with fail
    go_ret
    exact ⟨retB HR.out.symm, rfl⟩
  · by_cases h2 : 1048576 < x
    · have HR := Lib.hid (show (!okKey x) = true by unfold okKey; simp; omega)
      have hg : -1048576 ≤ x := by omega
      go_enter Try.func36, Try.ntmps36
      go_wp2_with fail
      go_ret
      exact ⟨retB HR.out.symm, rfl⟩
    · have HR := Lib.hid (show (!okKey x) = false by unfold okKey; simp; omega)
      have hg : -1048576 ≤ x := by omega
      have hg2 : x ≤ 1048576 := by omega
      go_enter Try.func36, Try.ntmps36
      go_wp2_with fail
      go_ret
      exact ⟨retB HR.out.symm, rfl⟩

set_option maxHeartbeats 2000000 in
theorem idxLong_any (A : Option Addr) (cp : Nat) (M : List (List Int)) (P : Nat → Prop) (w : World) (hlen : M.length ≤ maxLen) (hl : RowsAt P w A M) :
    Calls Try.prog 33 #[.slice A M.length cp, fnLong] w fun e w' => ∃ r : Int, e = .returned (.int .i64 r) ∧ decide (0 ≤ r) = M.any longC ∧ w = w' := by
  unfold maxLen at hlen
  have HL := Lib.hid hl
  clear hl
  go_enter Try.func33, Try.ntmps33
  go_wp2_with fail
  go_loopw [8] (fun i wr => ∃ k : Nat, k ≤ M.length ∧ i = .int .i64 k ∧ (∀ (i : Nat) (u : List Int), i < k → M[i]? = some u → longC u = false) ∧ wr = w) (fun i _ => M.length - (intOf i).toNat)
  case atStart => exact ⟨0, by omega, rfl, fun i t hi => absurd hi (by omega), rfl⟩
  case round =>
    obtain ⟨k, hk, rfl, hno, hw⟩ := hrel
    have HW := Lib.hid hw
    have HL := Lib.hid (show RowsAt P wr A M by rw [hw]; exact HL.out)
    have HN := Lib.hid hno
    clear hno hw
    by_cases hlt : k < M.length
    · obtain ⟨t, ht⟩ : ∃ t, M[k]? = some t := ⟨M[k], List.getElem?_eq_getElem hlt⟩
      obtain ⟨b, off, hA, hblt, hc⟩ := HL.out (by omega)
      subst hA
      obtain ⟨A', c', h0, h1, h2, h3⟩ := hc k t ht
      have HT := Lib.hid ht
      have HC := Lib.hid (long_any A' c' t wr (Nat.le_trans h1 h2))
      clear hc ht hblt h1 h2 h3
      go_wp2_with (go_at_call 24; refine HC.out.mono ?_; rintro e w1 ⟨rfl, rfl⟩)
      · have hbig : longC t = true := by assumption
        go_ret
        exact ⟨_, rfl, by rw [any_hit' M k t HT.out hbig]; simp, HW.out.symm⟩
      · have hbig : longC t = false := by assumption
        have HBig := Lib.hid hbig
        clear hbig
        go_roundw
        case rel => exact ⟨k + 1, by omega, by go_num, any_snoc' M k t HT.out HBig.out HN.out, by first | exact HW.out | trivial⟩
        case measure => simp [intOf]; omega
    · have hkL : k = M.length := by omega
      have HE := Lib.hid (any_none' M (hkL ▸ HN.out))
      clear hkL
      go_wp2_with fail
      go_ret
      exact ⟨_, rfl, by rw [HE.out]; rfl, HW.out.symm⟩
set_option maxHeartbeats 400000 in
theorem conLong_any (A : Option Addr) (cp : Nat) (M : List (List Int)) (P : Nat → Prop) (w : World) (hlen : M.length ≤ maxLen) (hl : RowsAt P w A M) :
    Calls Try.prog 23 #[.slice A M.length cp, fnLong] w fun e w' => e = .returned (.bool (M.any longC)) ∧ w = w' := by
  have HC := Lib.hid (idxLong_any A cp M P w hlen hl)
  clear hl hlen
  go_enter Try.func23, Try.ntmps23
  go_wp2_with fail
  refine HC.out.mono ?_
  rintro e w1 ⟨r, rfl, hr, hw⟩
  have HR := Lib.hid hr
  have HW := Lib.hid hw
  clear hr hw
  go_wp2_with fail
  go_ret
  exact ⟨retB (by rw [← HR.out]), HW.out⟩

set_option maxHeartbeats 2000000 in
theorem idxKey_any (A : Option Addr) (cp : Nat) (M : List Int) (P : Nat → Prop) (w : World) (hlen : M.length ≤ maxLen) (hl : IntsAt P w A M) :
    Calls Try.prog 42 #[.slice A M.length cp, fnKey] w fun e w' => ∃ r : Int, e = .returned (.int .i64 r) ∧ decide (0 ≤ r) = M.any (fun x => !okKey x) ∧ w = w' := by
  unfold maxLen at hlen
  have HL := Lib.hid hl
  clear hl
  go_enter Try.func42, Try.ntmps42
  go_wp2_with fail
  go_loopw [8] (fun i wr => ∃ k : Nat, k ≤ M.length ∧ i = .int .i64 k ∧ (∀ (i : Nat) (u : Int), i < k → M[i]? = some u → (fun x => !okKey x) u = false) ∧ wr = w) (fun i _ => M.length - (intOf i).toNat)
  case atStart => exact ⟨0, by omega, rfl, fun i t hi => absurd hi (by omega), rfl⟩
  case round =>
    obtain ⟨k, hk, rfl, hno, rfl⟩ := hrel
    have HN := Lib.hid hno
    clear hno
    by_cases hlt : k < M.length
    · obtain ⟨t, ht⟩ : ∃ t, M[k]? = some t := ⟨M[k], List.getElem?_eq_getElem hlt⟩
      obtain ⟨b, off, hA, hblt, hc⟩ := HL.out (by omega)
      subst hA
      have h0 := hc k t ht
      have HT := Lib.hid ht
      clear hc ht hblt
      cases hbig : (!okKey t)
      · have HBig := Lib.hid hbig
        have HC := Lib.hid (show Calls Try.prog 36 #[.int .i64 t] wr fun e w' => e = .returned (.bool false) ∧ wr = w' by rw [← hbig]; exact key_any t wr)
        clear hbig
        go_wp2_with (go_at_call 36; refine HC.out.mono ?_; rintro e w1 ⟨rfl, rfl⟩)
        go_roundw
        case rel => exact ⟨k + 1, by omega, by go_num, any_snoc' M k t HT.out HBig.out HN.out, by trivial⟩
        case measure => simp [intOf]; omega
      · have HBig := Lib.hid hbig
        have HC := Lib.hid (show Calls Try.prog 36 #[.int .i64 t] wr fun e w' => e = .returned (.bool true) ∧ wr = w' by rw [← hbig]; exact key_any t wr)
        clear hbig
        go_wp2_with (go_at_call 36; refine HC.out.mono ?_; rintro e w1 ⟨rfl, rfl⟩)
        go_ret
        exact ⟨_, rfl, by rw [any_hit' (f := fun x => !okKey x) M k t HT.out HBig.out]; simp, rfl⟩
    · have hkL : k = M.length := by omega
      have HE := Lib.hid (any_none' M (hkL ▸ HN.out))
      clear hkL
      go_wp2_with fail
      go_ret
      exact ⟨_, rfl, by rw [HE.out]; rfl, rfl⟩
set_option maxHeartbeats 400000 in
theorem conKey_any (A : Option Addr) (cp : Nat) (M : List Int) (P : Nat → Prop) (w : World) (hlen : M.length ≤ maxLen) (hl : IntsAt P w A M) :
    Calls Try.prog 35 #[.slice A M.length cp, fnKey] w fun e w' => e = .returned (.bool (M.any (fun x => !okKey x))) ∧ w = w' := by
  have HC := Lib.hid (idxKey_any A cp M P w hlen hl)
  clear hl hlen
  go_enter Try.func35, Try.ntmps35
  go_wp2_with fail
  refine HC.out.mono ?_
  rintro e w1 ⟨r, rfl, hr, rfl⟩
  have HR := Lib.hid hr
  clear hr
  go_wp2_with fail
  go_ret
  exact ⟨retB (by rw [← HR.out]), rfl⟩
theorem okCat_no {c : List Int} (h : decide (srt c) = false) : okCat c = false := by unfold okCat; rw [h]; rfl
theorem okCat_yes {c : List Int} (h : decide (srt c) = true) : okCat c = !(c.any fun x => !okKey x) := by
  unfold okCat
  rw [h, Bool.true_and, List.not_any_eq_all_not]
  simp
set_option maxHeartbeats 1000000 in
theorem isCat_any (A : Option Addr) (cp : Nat) (c : List Int) (w : World) (hm : c.length ≤ maxLen) (P : Nat → Prop) (hl : IntsAt P w A c) : Calls Try.prog 26 #[.slice A c.length cp] w fun e w' => e = .returned (.bool (okCat c)) ∧ ∃ q, w' = w.drewN q := by
  have HS := Lib.hid (sorted_any P A cp c w hm hl)
  have HK := Lib.hid (fun q => conKey_any A cp c P (w.drewN q) hm (hl.drewN q))
  clear hl
  cases hb : decide (srt c)
  · have HR := Lib.hid (okCat_no hb)
    rw [hb] at HS
    clear hb
    go_enter Try.func26, Try.ntmps26
    go_wp2_with fail
    refine HS.out.mono ?_
    rintro e w1 ⟨rfl, q, rfl⟩
    go_wp2_with fail
    go_ret
    exact ⟨retB HR.out.symm, q, rfl⟩
  · have HR := Lib.hid (okCat_yes hb)
    rw [hb] at HS
    clear hb
    go_enter Try.func26, Try.ntmps26
    go_wp2_with fail
    refine HS.out.mono ?_
    rintro e w1 ⟨rfl, q, rfl⟩
    go_wp2_with fail
    refine (HK.out q).mono ?_
    rintro e w1 ⟨rfl, rfl⟩
    go_wp2_with fail
    go_ret
    exact ⟨retB HR.out.symm, q, rfl⟩
set_option maxHeartbeats 1000000 in
theorem bad_any (A : Option Addr) (cp : Nat) (c : List Int) (w : World) (hm : c.length ≤ maxLen) (P : Nat → Prop) (hl : IntsAt P w A c) : Calls Try.prog 25 #[.slice A c.length cp] w fun e w' => e = .returned (.bool (!okCat c)) ∧ ∃ q, w' = w.drewN q := by
  have HC := Lib.hid (isCat_any A cp c w hm P hl)
  clear hl
  go_enter Try.func25, Try.ntmps25
  go_wp2_with fail
  refine HC.out.mono ?_
  rintro e w1 ⟨rfl, hq⟩
  have HQ := Lib.hid hq
  clear hq
  go_wp2_with fail
  go_ret
  exact ⟨rfl, HQ.out⟩
abbrev badC (c : List Int) : Bool := !okCat c

set_option maxHeartbeats 2000000 in
theorem idxBad_any (A : Option Addr) (cp : Nat) (M : List (List Int)) (P : Nat → Prop) (w : World) (hlen : M.length ≤ maxLen) (hl : RowsAt P w A M) :
    Calls Try.prog 33 #[.slice A M.length cp, fnBad] w fun e w' => ∃ r : Int, e = .returned (.int .i64 r) ∧ decide (0 ≤ r) = M.any (fun c => !okCat c) ∧ ∃ q, w' = w.drewN q := by
  unfold maxLen at hlen
  have HL := Lib.hid hl
  clear hl
  go_enter Try.func33, Try.ntmps33
  go_wp2_with fail
  go_loopw [8] (fun i wr => ∃ k : Nat, k ≤ M.length ∧ i = .int .i64 k ∧ (∀ (i : Nat) (u : List Int), i < k → M[i]? = some u → (fun c => !okCat c) u = false) ∧ ∃ q, wr = w.drewN q) (fun i _ => M.length - (intOf i).toNat)
  case atStart => exact ⟨0, by omega, rfl, fun i t hi => absurd hi (by omega), 0, rfl⟩
  case round =>
    obtain ⟨k, hk, rfl, hno, q, hw⟩ := hrel
    have HW := Lib.hid hw
    have HL := Lib.hid (show RowsAt P wr A M by rw [hw]; exact HL.out)
    have HN := Lib.hid hno
    clear hno hw
    by_cases hlt : k < M.length
    · obtain ⟨t, ht⟩ : ∃ t, M[k]? = some t := ⟨M[k], List.getElem?_eq_getElem hlt⟩
      obtain ⟨b, off, hA, hblt, hc⟩ := HL.out (by omega)
      subst hA
      obtain ⟨A', c', h0, h1, h2, h3⟩ := hc k t ht
      have HT := Lib.hid ht
      have HC := Lib.hid (bad_any A' c' t wr (Nat.le_trans h1 h2) P h3)
      clear hc ht hblt h1 h2 h3
      go_wp2_with (go_at_call 25; refine HC.out.mono ?_; rintro e w1 ⟨rfl, q2, rfl⟩)
      · have hbig : (fun c => !okCat c) t = true := by assumption
        go_ret
        exact ⟨_, rfl, by rw [any_hit' M k t HT.out hbig]; simp, _, by rw [HW.out]; exact World.drewN_drewN _ _ _⟩
      · have hbig : (fun c => !okCat c) t = false := by assumption
        have HBig := Lib.hid hbig
        clear hbig
        go_roundw
        case rel => exact ⟨k + 1, by omega, by go_num, any_snoc' M k t HT.out HBig.out HN.out, _, by rw [HW.out]; exact World.drewN_drewN _ _ _⟩
        case measure => simp [intOf]; omega
    · have hkL : k = M.length := by omega
      have HE := Lib.hid (any_none' M (hkL ▸ HN.out))
      clear hkL
      go_wp2_with fail
      go_ret
      exact ⟨_, rfl, by rw [HE.out]; rfl, _, HW.out⟩
set_option maxHeartbeats 400000 in
theorem conBad_any (A : Option Addr) (cp : Nat) (M : List (List Int)) (P : Nat → Prop) (w : World) (hlen : M.length ≤ maxLen) (hl : RowsAt P w A M) :
    Calls Try.prog 23 #[.slice A M.length cp, fnBad] w fun e w' => e = .returned (.bool (M.any (fun c => !okCat c))) ∧ ∃ q, w' = w.drewN q := by
  have HC := Lib.hid (idxBad_any A cp M P w hlen hl)
  clear hl hlen
  go_enter Try.func23, Try.ntmps23
  go_wp2_with fail
  refine HC.out.mono ?_
  rintro e w1 ⟨r, rfl, hr, hw⟩
  have HR := Lib.hid hr
  have HW := Lib.hid hw
  clear hr hw
  go_wp2_with fail
  go_ret
  exact ⟨retB (by rw [← HR.out]), HW.out⟩
end Go.Proofs.Ytedjjleckhclcaa
