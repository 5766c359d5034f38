/- Walks: which lists of tokens the laws speak of; LexJoins. -/
import Derived.Test.YthbcfcbonmphfaaDoorJoinC
import Derived.Test.YthbcfcbonmphfaaDoorLexI
namespace Go.Proofs.YthbcfcbonmphfaaDoor
set_option maxRecDepth 100000
open Go.RowKit

def bigT (t : Tk) : Bool := decide (60 < t.t.length)
def smallB (L : List Tk) : Bool := decide (L.length ≤ 60) && !(L.any bigT)
set_option maxHeartbeats 400000 in
theorem big_any (t : Tk) (w : World) (hs : t.t.length ≤ maxLen) : Calls Tryd.prog 68 #[.agg #[.int .i64 t.k, .string ⟨t.t.toArray⟩, .int .i64 t.n, .int .i64 t.a, .int .i64 t.b]] w fun e w' => e = .returned (.bool (bigT t)) ∧ Below w.heap.size w w' := by
  unfold maxLen at hs
  go_enter Tryd.func68, Tryd.ntmps68
  go_wp2
  all_goals
    go_ret
    exact ⟨ret_bool (by unfold bigT; rw [Bool.eq_iff_iff]; simp; try omega), (Below.refl _ _).alloc (Nat.le_refl _) _⟩

/-- The texts can be read. -/
def Texts (L : List Tk) : Prop := ∀ (i : Nat) (t : Tk), L[i]? = some t → t.t.length ≤ maxLen
def idxI (L : List Tk) : Int := match L.findIdx? bigT with | some i => i | none => -1
theorem idx_hit (L : List Tk) (k : Nat) (t : Tk) (h : L[k]? = some t) (hb : bigT t = true) : L.any bigT = true := List.any_eq_true.2 ⟨t, List.mem_of_getElem? h, hb⟩
theorem idx_none (L : List Tk) (hno : ∀ (i : Nat) (u : Tk), i < L.length → L[i]? = some u → bigT u = false) : L.any bigT = false := by
  rw [List.any_eq_false]
  intro t ht
  obtain ⟨i, hi, rfl⟩ := List.mem_iff_getElem.1 ht
  rw [hno i _ hi (List.getElem?_eq_getElem hi)]
  exact Bool.false_ne_true

theorem big_snoc (L : List Tk) (k : Nat) (t : Tk) (h : L[k]? = some t) (hb : bigT t = false) (hno : ∀ (i : Nat) (u : Tk), i < k → L[i]? = some u → bigT u = false) : ∀ (i : Nat) (u : Tk), i < k + 1 → L[i]? = some u → bigT u = false := by
  intro i u hi hu
  rcases Nat.lt_or_ge i k with hl | hl
  · exact hno i u hl hu
  · have : i = k := by omega
    subst this
    rw [h] at hu
    rw [← Option.some.inj hu]
    exact hb

set_option maxHeartbeats 1000000 in
theorem indexFunc_any (A : Option Addr) (cap : Nat) (L : List Tk) (w : World) (hlen : L.length ≤ 60) (hT : Texts L) (hl : SlT w A L) :
    Calls Tryd.prog 117 #[.slice A L.length cap, .func (.func 68) #[] #[]] w fun e w' => ∃ r : Int, e = .returned (.int .i64 r) ∧ decide (0 ≤ r) = L.any bigT ∧ Below w.heap.size w w' := by
  have HL := Lib.hid hl
  have HX := Lib.hid hT
  clear hl hT
  go_enter Tryd.func117, Tryd.ntmps117
  go_wp2_with fail
  go_loopw [8] (fun i wr => ∃ k : Nat, k ≤ L.length ∧ i = .int .i64 k ∧ (∀ (i : Nat) (u : Tk), i < k → L[i]? = some u → bigT u = false) ∧ Below w.heap.size w wr) (fun i _ => L.length - (intOf i).toNat)
  case atStart => exact ⟨0, by omega, rfl, fun i t hi => absurd hi (by omega), Below.refl _ _⟩
  case round =>
    obtain ⟨k, hk, rfl, hno, hbw⟩ := hrel
    have HN := Lib.hid hno
    have HB := Lib.hid hbw
    clear hno hbw
    by_cases hlt : k < L.length
    · obtain ⟨t, ht⟩ : ∃ t, L[k]? = some t := ⟨L[k], List.getElem?_eq_getElem hlt⟩
      obtain ⟨b, off, hA, hblt, hc⟩ := HL.out (by omega)
      subst hA
      obtain ⟨h0, h1, h2, h3, h4⟩ := cells5 HB.out hblt (hc k t ht)
      have HT := Lib.hid ht
      have HTS := Lib.hid (HX.out k t ht)
      clear hc ht
      go_wp2_with (go_at_call 68; refine (big_any t _ HTS.out).mono ?_; rintro e w1 ⟨rfl, hb1⟩)
      · have hbig : bigT t = true := by assumption
        go_ret
        exact ⟨_, rfl, by rw [idx_hit L k t HT.out hbig]; simp, HB.out.trans (hb1.mono HB.out.size)⟩
      · have hbig : bigT t = false := by assumption
        have HBig := Lib.hid hbig
        have HB1 := Lib.hid (HB.out.trans (hb1.mono HB.out.size))
        clear hbig hb1
        go_roundw
        case rel => exact ⟨k + 1, by omega, by go_num, big_snoc L k t HT.out HBig.out HN.out, HB1.out⟩
        case measure => simp [intOf]; omega
    · have hkL : k = L.length := by omega
      have HE := Lib.hid (idx_none L (hkL ▸ HN.out))
      clear hkL
      go_wp2
      go_ret
      exact ⟨_, rfl, by rw [HE.out]; rfl, HB.out⟩

set_option maxHeartbeats 400000 in
theorem containsFunc_any (A : Option Addr) (cap : Nat) (L : List Tk) (w : World) (hlen : L.length ≤ 60) (hT : Texts L) (hl : SlT w A L) :
    Calls Tryd.prog 67 #[.slice A L.length cap, .func (.func 68) #[] #[]] w fun e w' => e = .returned (.bool (L.any bigT)) ∧ Below w.heap.size w w' := by
  have HC := Lib.hid (indexFunc_any A cap L w hlen hT hl)
  clear hl hT
  go_enter Tryd.func67, Tryd.ntmps67
  go_wp2_with fail
  refine HC.out.mono ?_
  rintro e w1 ⟨r, rfl, hr, hb⟩
  have HR := Lib.hid hr
  have HB := Lib.hid hb
  clear hr hb
  go_wp2
  all_goals
    go_ret
    exact ⟨ret_bool (by rw [← HR.out]), HB.out⟩

set_option maxHeartbeats 400000 in
theorem small_any (A : Option Addr) (cap : Nat) (L : List Tk) (w : World) (hm : L.length ≤ maxLen) (hT : Texts L) (hl : SlT w A L) :
    Calls Tryd.prog 23 #[.slice A L.length cap] w fun e w' => e = .returned (.bool (smallB L)) ∧ Below w.heap.size w w' := by
  unfold maxLen at hm
  by_cases h : L.length ≤ 60
  · have HC := Lib.hid (containsFunc_any A cap L w h hT hl)
    have E := Lib.hid (show smallB L = !(L.any bigT) from by unfold smallB; rw [decide_eq_true h, Bool.true_and])
    have hI : decide ((L.length : Int) ≤ 60) = true := by simp; omega
    clear hl hT h
    go_enter Tryd.func23, Tryd.ntmps23
    go_wp2_with fail
    refine HC.out.mono ?_
    rintro e w1 ⟨rfl, hb⟩
    go_wp2
    go_ret
    exact ⟨ret_bool (by rw [E.out]), hb⟩
  · have E := Lib.hid (show smallB L = false from by unfold smallB; rw [decide_eq_false h, Bool.false_and])
    have hI : decide ((L.length : Int) ≤ 60) = false := by simp; omega
    clear hl hT h
    go_enter Tryd.func23, Tryd.ntmps23
    go_wp2
    go_ret
    exact ⟨ret_bool (by rw [E.out]), Below.refl _ _⟩

theorem small_of (L : List Tk) (h : smallB L = true) : Small L := by
  unfold smallB at h
  rw [Bool.and_eq_true] at h
  have h1 : L.length ≤ 60 := by simpa using h.1
  refine ⟨by omega, fun i t ht => ?_⟩
  have h2 : L.any bigT = false := by simpa using h.2
  rw [List.any_eq_false] at h2
  have := h2 t (List.mem_of_getElem? ht)
  unfold bigT at this
  simp at this
  omega

set_option maxHeartbeats 400000 in
theorem lexJoins_any (A : Option Addr) (cap : Nat) (L : List Tk) (w : World) (hp : Pairs w) (hm : L.length ≤ maxLen) (hT : Texts L) (hl : SlT w A L) :
    Calls Tryd.prog 5 #[.slice A L.length cap] w fun e w' => e = .returned (.bool true) ∧ Below w.heap.size w w' := by
  have HP := Lib.hid hp
  have HL := Lib.hid hl
  have HT := Lib.hid hT
  have HM := Lib.hid hm
  clear hp hl hT hm
  cases hs : smallB L
  all_goals
    have HS := Lib.hid hs
    clear hs
    go_enter Tryd.func5, Tryd.ntmps5
    go_wp2_with fail
    refine (awake_any _ HP.out).mono ?_
    rintro e w1 ⟨rfl, hb1⟩
    have HB1 := Lib.hid hb1
    clear hb1
    go_wp2_with fail
    have hc := small_any A cap L w1 HM.out HT.out (HL.out.below HB1.out)
    rw [HS.out] at hc
    refine hc.mono ?_
    rintro e w2 ⟨rfl, hb2⟩
    have HB2 := Lib.hid (HB1.out.trans (hb2.mono HB1.out.size))
    clear hb2 hc
  · go_wp2
    go_ret
    exact ⟨rfl, HB2.out⟩
  · have HSm := Lib.hid (small_of L HS.out)
    go_wp2_with fail
    refine (join_any A cap L w2 (HP.out.below HB2.out HP.out.lt) HSm.out (HL.out.below HB2.out)).mono ?_
    unfold joinV
    rintro e w3 ⟨rfl, hb3⟩
    have HB3 := Lib.hid (HB2.out.trans (hb3.mono HB2.out.size))
    clear hb3
    go_wp2_with fail
    refine (refJoin_any A cap L w3 HSm.out (HL.out.below HB3.out)).mono ?_
    unfold joinV
    rintro e w4 ⟨rfl, hb4⟩
    have HB4 := Lib.hid (HB3.out.trans (hb4.mono HB3.out.size))
    clear hb4
    go_wp2
    go_goals
    all_goals
      go_ret
      exact ⟨rfl, HB4.out⟩
end Go.Proofs.YthbcfcbonmphfaaDoor
