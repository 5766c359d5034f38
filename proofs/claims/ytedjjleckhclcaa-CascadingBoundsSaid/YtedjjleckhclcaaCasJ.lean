/- Walks: isLess, find. -/
import Derived.Test.YtedjjleckhclcaaScopeMany
import Derived.Test.YtedjjleckhclcaaCasI
namespace Go.Proofs.Ytedjjleckhclcaa
open Go.RowKit
set_option maxRecDepth 100000

abbrev ixBox (g n : Nat) (c : Int) : Obj := .cells #[.slice (some ⟨g, 0, none⟩) n n, .int .i64 c] 46
set_option maxHeartbeats 1000000 in
theorem isLess_any (x g n : Nat) (c e key : Int) (w : World) (hb : w.heap[x]? = some (ixBox g n c)) (h0 : 0 ≤ c) (h1 : c ≤ 1000000) :
    Calls Try.prog 30 #[.pointer (some ⟨x, 0, none⟩), .int .i64 e, .int .i64 key] w fun r w' => r = .returned (.bool (decide (e < key))) ∧ w' = w.setCell ⟨x, 1, none⟩ (.int .i64 (c + 1)) := by
  obtain ⟨⟨c0, c1⟩, f0, f1⟩ := bk2 hb
  clear hb
  go_enter Try.func30, Try.ntmps30
  go_wp2_with fail
  go_ret
  exact ⟨rfl, rfl⟩
/-- The same but for one block. -/
abbrev But (x : Nat) (w w' : World) : Prop := w.grownBy w' (some x)
theorem but_refl (x : Nat) (w : World) : But x w w := ⟨rfl, rfl, rfl, Nat.le_refl _, fun _ _ _ => rfl⟩
theorem but_trans {x : Nat} {a b c : World} (h : But x a b) (k : But x b c) : But x a c :=
  ⟨k.os.trans h.os, k.tape.trans h.tape, k.output.trans h.output, Nat.le_trans h.size k.size, fun i hi hne => (k.block i (Nat.lt_of_lt_of_le hi h.size) hne).trans (h.block i hi hne)⟩
theorem but_set {x : Nat} (w : World) (i : Nat) (v : Value) : But x w (w.setCell ⟨x, i, none⟩ v) :=
  ⟨rfl, rfl, rfl, by simp, fun b _ hne => setCell_other (fun e => hne (by rw [e]))⟩
theorem but_below {x : Nat} {a b c : World} (h : But x a b) (k : Below b.heap.size b c) : But x a c :=
  ⟨k.os.trans h.os, k.tape.trans h.tape, k.output.trans h.output, Nat.le_trans h.size k.size, fun i hi hne => (k.block i (Nat.lt_of_lt_of_le hi h.size)).trans (h.block i hi hne)⟩
theorem ix_set {w : World} {x g n : Nat} {c d : Int} (h : w.heap[x]? = some (ixBox g n c)) : (w.setCell ⟨x, 1, none⟩ (.int .i64 d)).heap[x]? = some (ixBox g n d) := setCell_at h
theorem but_ints {x : Nat} {w w' : World} {A : Option Addr} {L : List Int} (h : IntsAt (fun b => b < w.heap.size ∧ b ≠ x) w A L) (hb : But x w w') : IntsAt (fun b => b < w.heap.size ∧ b ≠ x) w' A L :=
  h.keep fun b _ hp => World.cell?_of_block (hb.block b hp.1 (fun e => hp.2 (by injection e)))
/-- The halves of a search. -/
def FS (x g n : Nat) (c key : Int) (L : List Int) (w : World) (lo hi d : Nat) (W : World) : Prop :=
  lo ≤ rk L key ∧ rk L key ≤ hi ∧ hi ≤ L.length ∧ (∀ K, L.length < 2 ^ K → d ≤ K ∧ hi - lo < 2 ^ (K - d)) ∧ W.heap[x]? = some (ixBox g n (c + d)) ∧ But x w W ∧ d + (hi - lo) ≤ 2000
theorem fs_start {x g n : Nat} {c key : Int} {L : List Int} {w : World} (hb : w.heap[x]? = some (ixBox g n c)) (hl : L.length ≤ 2000) : FS x g n c key L w 0 L.length 0 w :=
  ⟨Nat.zero_le _, rk_le _ _, Nat.le_refl _, fun K hK => ⟨Nat.zero_le _, by simpa using hK⟩, by simpa using hb, but_refl _ _, by omega⟩
theorem pow_half {K d a : Nat} (h0 : d ≤ K) (h : a < 2 ^ (K - d)) (h1 : 0 < a) : d + 1 ≤ K ∧ a / 2 < 2 ^ (K - (d + 1)) := by
  obtain ⟨t, ht⟩ : ∃ t, K - d = t := ⟨_, rfl⟩
  cases t with
  | zero => rw [ht] at h; simp at h; omega
  | succ t =>
    rw [ht, Nat.pow_succ] at h
    rw [show K - (d + 1) = t by omega]
    omega
theorem fs_lo {x g n lo hi d mid : Nat} {c key e : Int} {L : List Int} {w W : World} (h : FS x g n c key L w lo hi d W) (hs : srt L) (hlt : lo < hi) (hm : mid = (lo + hi) / 2) (he : L[mid]? = some e) (hk : e < key) :
    FS x g n c key L w (mid + 1) hi (d + 1) (W.setCell ⟨x, 1, none⟩ (.int .i64 (c + d + 1))) := by
  obtain ⟨h1, h2, h3, h4, h5, h6, h7⟩ := h
  have := (rk_get hs key he).1 hk
  refine ⟨this, h2, h3, fun K hK => ?_, ?_, but_trans h6 (but_set _ _ _), by omega⟩
  · have := h4 K hK
    have h8 := pow_half this.1 this.2 (by omega)
    exact ⟨h8.1, by omega⟩
  · have := ix_set (d := c + d + 1) h5
    rw [show c + ((d + 1 : Nat) : Int) = c + d + 1 by omega]
    exact this
theorem fs_hi {x g n lo hi d mid : Nat} {c key e : Int} {L : List Int} {w W : World} (h : FS x g n c key L w lo hi d W) (hs : srt L) (hlt : lo < hi) (hm : mid = (lo + hi) / 2) (he : L[mid]? = some e) (hk : key ≤ e) :
    FS x g n c key L w lo mid (d + 1) (W.setCell ⟨x, 1, none⟩ (.int .i64 (c + d + 1))) := by
  obtain ⟨h1, h2, h3, h4, h5, h6, h7⟩ := h
  have : ¬ mid < rk L key := fun h => by have := (rk_get hs key he).2 h; omega
  refine ⟨h1, by omega, by omega, fun K hK => ?_, ?_, but_trans h6 (but_set _ _ _), by omega⟩
  · have := h4 K hK
    have h8 := pow_half this.1 this.2 (by omega)
    exact ⟨h8.1, by omega⟩
  · have := ix_set (d := c + d + 1) h5
    rw [show c + ((d + 1 : Nat) : Int) = c + d + 1 by omega]
    exact this
/-- What find hands back: the rank, and how many comparisons. -/
def FindPost (x g n : Nat) (c : Int) (L : List Int) (key : Int) (w : World) (r : Ending) (w' : World) : Prop :=
  r = .returned (.int .i64 (rk L key)) ∧ ∃ d : Nat, w'.heap[x]? = some (ixBox g n (c + d)) ∧ (∀ K, L.length < 2 ^ K → d ≤ K) ∧ But x w w'
set_option maxHeartbeats 4000000 in
theorem find_any (x g n : Nat) (c key : Int) (w : World) (A : Option Addr) (cp : Nat) (L : List Int) (hb : w.heap[x]? = some (ixBox g n c)) (h0 : 0 ≤ c) (h1 : c ≤ 10000) (hs : srt L) (hl : L.length ≤ 2000) (hA : IntsAt (fun b => b < w.heap.size ∧ b ≠ x) w A L) :
    Calls Try.prog 29 #[.pointer (some ⟨x, 0, none⟩), .slice A L.length cp, .int .i64 key] w (FindPost x g n c L key w) := by
  have HS := Lib.hid hs
  have HA := Lib.hid hA
  have H0 := Lib.hid (fs_start (key := key) hb hl)
  clear hs hA hb
  go_enter Try.func29, Try.ntmps29
  go_wp2_with fail
  refine wp_scope_many (fun l a' w' => ∃ (lo hi d : Nat) (u9 u12 u13 u14 u15 u16 u17 u18 u19 u20 u21 u22 u23 u24 u25 u26 u27 u28 : Value),
      a' = { tmps := #[.pointer (some ⟨x, 0, none⟩), .slice A L.length cp, .int .i64 key, undef, undef, undef, .int .i64 0, .int .i64 lo, .int .i64 hi, u9, .slice A L.length cp, .int .i64 L.length, u12, u13, u14, u15, u16, u17, u18, u19, u20, u21, u22, u23, u24, u25, u26, u27, u28, undef], defers := [] } ∧ FS x g n c key L w lo hi d w' ∧ (l = 1 ∨ (l = 0 ∧ lo = hi)))
    (fun l a' _ => if l = 1 then 2 + ((intOf (a'.tmps.getD 8 undef)).toNat - (intOf (a'.tmps.getD 7 undef)).toNat) else 0) ?first ?pass
  case first =>
    have hb0 := H0.out.2.2.2.2.1
    have hc0 : c + ((0 : Nat) : Int) = c := by simp
    rw [hc0] at hb0
    have HB := Lib.hid hb0
    have HC0 := Lib.hid hc0
    clear hb0 hc0
    by_cases heq : L.length = 0
    · obtain rfl := List.length_eq_zero_iff.1 heq
      clear heq
      go_wp2_with fail
      go_step3
      go_wp2_with fail
      go_step3
      exact ⟨0, 0, 0, _, _, _, _, _, _, _, _, _, _, _, _, _, _, _, _, _, _, rfl, H0.out, .inr ⟨rfl, rfl⟩⟩
    · have hlt : 0 < L.length := by omega
      obtain ⟨mid, hmid⟩ : ∃ mid, mid = (0 + L.length) / 2 := ⟨_, rfl⟩
      obtain ⟨e, he⟩ : ∃ e, L[mid]? = some e := ⟨L[mid]'(by omega), List.getElem?_eq_getElem _⟩
      obtain ⟨b, off, hAe, hbp, hc⟩ := HA.out (by omega)
      subst hAe
      have e0 := hc mid e he
      have hI1 : (L.length : Int) / 2 = (mid : Int) := by omega
      have hI2 : (mid : Int) < (L.length : Int) := by omega
      have hI3 : ((0 : Int) == (L.length : Int)) = false := by simp; omega
      have HLS := Lib.hid (isLess_any x g n c e key w HB.out (by omega) (by omega))
      have HLO := Lib.hid (fun h => fs_lo H0.out HS.out hlt hmid he h)
      have HHI := Lib.hid (fun h => fs_hi H0.out HS.out hlt hmid he h)
      rw [HC0.out] at HLO HHI
      clear hc he hbp heq hmid
      go_wp2_with fail
      go_step3
      go_wp2_with fail
      refine HLS.out.mono ?_
      rintro r w1 ⟨rfl, rfl⟩
      by_cases hk : e < key
      · have HF := Lib.hid (HLO.out hk)
        clear HLO HHI HLS
        go_wp2_with fail
        go_step3
        exact ⟨mid + 1, L.length, 0 + 1, _, _, _, _, _, _, _, _, _, _, _, _, _, _, _, _, _, _, rfl, HF.out, .inl rfl⟩
      · have hk' : key ≤ e := by omega
        have HF := Lib.hid (HHI.out hk')
        clear HLO HHI HLS
        go_wp2_with fail
        go_step3
        exact ⟨0, mid, 0 + 1, _, _, _, _, _, _, _, _, _, _, _, _, _, _, _, _, _, _, rfl, HF.out, .inl rfl⟩
  case pass =>
    rintro l a' W ⟨lo, hi, d, u9, u12, u13, u14, u15, u16, u17, u18, u19, u20, u21, u22, u23, u24, u25, u26, u27, u28, rfl, hfs, hl0⟩
    rcases hl0 with rfl | ⟨rfl, rfl⟩
    · refine ⟨_, rfl, ?_⟩
      have HFS := Lib.hid hfs
      clear hfs H0
      have FSX := HFS.out
      obtain ⟨f1, f2, f3, _, f5, f6, f7⟩ := FSX
      have hIA := HA.out
      by_cases heq : lo = hi
      · subst heq
        go_wp2_with fail
        go_step3
        exact ⟨⟨lo, lo, d, _, _, _, _, _, _, _, _, _, _, _, _, _, _, _, _, _, _, rfl, HFS.out, .inr ⟨rfl, rfl⟩⟩, by simp⟩
      · have hlt : lo < hi := by omega
        obtain ⟨mid, hmid⟩ : ∃ mid, mid = (lo + hi) / 2 := ⟨_, rfl⟩
        obtain ⟨e, he⟩ : ∃ e, L[mid]? = some e := ⟨L[mid]'(by omega), List.getElem?_eq_getElem _⟩
        obtain ⟨b, off, hAe, hbp, hc⟩ := but_ints hIA f6 (by omega)
        subst hAe
        have e0 := hc mid e he
        have hI1 : ((lo : Int) + (hi : Int)) / 2 = (mid : Int) := by omega
        have hI2 : (mid : Int) < (L.length : Int) := by omega
        have hI3 : ((lo : Int) == (hi : Int)) = false := by simp; omega
        have HLS := Lib.hid (isLess_any x g n (c + d) e key W f5 (by omega) (by omega))
        have HLO := Lib.hid (fun h => fs_lo HFS.out HS.out hlt hmid he h)
        have HHI := Lib.hid (fun h => fs_hi HFS.out HS.out hlt hmid he h)
        have HMID := Lib.hid hmid
        clear hIA hc he hbp f5 f6 heq hmid
        go_wp2_with fail
        refine HLS.out.mono ?_
        rintro r w1 ⟨rfl, rfl⟩
        by_cases hk : e < key
        · have HF := Lib.hid (HLO.out hk)
          clear HLO HHI HLS
          go_wp2_with fail
          go_step3
          exact ⟨⟨mid + 1, hi, d + 1, _, _, _, _, _, _, _, _, _, _, _, _, _, _, _, _, _, _, rfl, HF.out, .inl rfl⟩, by have := HMID.out; simp [intOf]; omega⟩
        · have hk' : key ≤ e := by omega
          have HF := Lib.hid (HHI.out hk')
          clear HLO HHI HLS
          go_wp2_with fail
          go_step3
          exact ⟨⟨lo, mid, d + 1, _, _, _, _, _, _, _, _, _, _, _, _, _, _, _, _, _, _, rfl, HF.out, .inl rfl⟩, by have := HMID.out; simp [intOf]; omega⟩
    · refine ⟨_, rfl, ?_⟩
      have HFS := Lib.hid hfs
      have hr : lo = rk L key := Nat.le_antisymm hfs.1 hfs.2.1
      have HR := Lib.hid hr
      clear hfs H0 hr
      go_wp2_with fail
      simp only [Exit.jumps]
      go_ret
      exact ⟨retI (by rw [← HR.out]), d, HFS.out.2.2.2.2.1, fun K hK => (HFS.out.2.2.2.1 K hK).1, HFS.out.2.2.2.2.2.1⟩
end Go.Proofs.Ytedjjleckhclcaa
