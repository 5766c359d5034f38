/- Walks: LexBack. -/
import Derived.Test.YtgjiacnfgfkalaaDoorBackA
namespace Go.Proofs.YtgjiacnfgfkalaaDoor
open Go.RowKit

theorem endsL_open : ∀ (L : List Tk), (∀ (i : Nat) (t : Tk), L[i]? = some t → t.k ≠ 5) → endsL L = L.map kt ++ [(5, [], 0)]
  | [], _ => rfl
  | t :: L, h => by
    unfold endsL
    rw [if_neg (h 0 t rfl), endsL_open L (fun i u hu => h (i + 1) u (by simpa using hu))]
    rfl
theorem endsL_shut : ∀ (L : List Tk) (m : Nat), L.length = m + 1 → (∀ (i : Nat) (t : Tk), i < m → L[i]? = some t → t.k ≠ 5) → (∀ t, L[m]? = some t → t.k = 5 ∧ t.t = [] ∧ t.n = 0) → endsL L = L.map kt
  | [], _, h, _, _ => by simp at h
  | [t], m, h, _, h2 => by
    have : m = 0 := by simpa using h.symm
    subst this
    obtain ⟨a, b, c⟩ := h2 t rfl
    unfold endsL
    rw [if_pos a]
    simp [kt, a, b, c]
  | t :: u :: L, m, h, h1, h2 => by
    obtain ⟨m', rfl⟩ : ∃ m', m = m' + 1 := ⟨m - 1, by simp at h; omega⟩
    unfold endsL
    rw [if_neg (h1 0 t (by omega) rfl), endsL_shut (u :: L) m' (by simpa using h) (fun i x hi hx => h1 (i + 1) x (by omega) (by simpa using hx)) (fun x hx => h2 x (by simpa using hx))]
    rfl
theorem jval_at (L : List Tk) (h : jval L = true) (i : Nat) (t : Tk) (ht : L[i]? = some t) : validT t.k t.t t.n = true ∧ (t.k = 5 → i + 1 = L.length) := by
  have hi : i < L.length := (List.getElem?_eq_some_iff.1 ht).1
  have := List.all_eq_true.1 h i (List.mem_range.2 hi)
  rw [ht] at this
  have h2 : tkOk L i t = true := this
  unfold tkOk at h2
  simp only [Bool.and_eq_true, Bool.not_eq_true', Bool.and_eq_false_iff, decide_eq_false_iff_not, ne_eq, Decidable.not_not] at h2
  refine ⟨h2.1, fun h5 => ?_⟩
  rcases h2.2 with h | h
  · exact absurd h5 h
  · exact h
/-- The end of a list of tokens. -/
def tkEnd : Tk := ⟨5, [], 0, 0, 0⟩
theorem ends_more (L : List Tk) (h : jval L = true) (hl : ∀ t, L[L.length - 1]? = some t → t.k ≠ 5) : endsL L = (L ++ [tkEnd]).map kt := by
  rw [endsL_open L, List.map_append]
  · rfl
  · intro i t ht h5
    have := (jval_at L h i t ht).2 h5
    have e : i = L.length - 1 := by omega
    subst e
    exact hl t ht h5
theorem ends_same (L : List Tk) (h : jval L = true) (t : Tk) (ht : L[L.length - 1]? = some t) (h5 : t.k = 5) : endsL L = L.map kt := by
  have hi := (List.getElem?_eq_some_iff.1 ht).1
  refine endsL_shut L (L.length - 1) (by omega) (fun i u hi' hu h5' => ?_) (fun u hu => ?_)
  · have := (jval_at L h i u hu).2 h5'
    omega
  · rw [ht] at hu
    have e := Option.some.inj hu
    subst e
    have hv := (jval_at L h _ t ht).1
    unfold validT at hv
    rw [if_neg (by omega), if_neg (by omega), if_neg (by omega), if_neg (by omega), if_pos h5] at hv
    have : t.t = [] ∧ t.n = 0 := by simpa using hv
    exact ⟨h5, this.1, this.2⟩

/-- What Join and Tokens come to, one after the other. -/
theorem tokens_back (L : List Tk) (x : List UInt8) (w : World) (hp : Pairs w) (hv : jval L = true) (hg : jgo L true [] = some x) :
    Calls Tryd.prog 15 #[.string ⟨x.toArray⟩] w fun e w' => ∃ v r, e = .returned (.tuple #[v, .agg #[.int .i64 0, .int .i64 0], .int .i64 0]) ∧ w'.ownsRow w.heap.size 25 5 v r.length (tksCells r) ∧ r.map kt = endsL L ∧ Below w.heap.size w w' := by
  obtain ⟨hx, r, hr, hm⟩ := back L x hv hg
  refine (tokens_any ⟨x.toArray⟩ w (by show x.toArray.size ≤ _; simpa using hx) hp).mono ?_
  rintro e w' ⟨hb, hT⟩
  have e1 : toks (ByteArray.mk x.toArray).data.toList 1 1 = .ok r := by
    have : (ByteArray.mk x.toArray).data.toList = x := by simp
    rw [this]; exact hr
  rw [e1] at hT
  simp only at hT
  obtain ⟨v, he, ho⟩ := hT
  exact ⟨v, r, he, ho, hm, hb⟩
theorem endsL_le : ∀ (L : List Tk), (endsL L).length ≤ L.length + 1
  | [] => by simp [endsL]
  | t :: L => by
    unfold endsL
    split
    · simp
    · have := endsL_le L; simp; omega
theorem endsL_len : ∀ (L : List Tk), L.length < maxLen → (endsL L).length ≤ maxLen
  | [], _ => by unfold maxLen; simp [endsL]
  | t :: L, h => by
    unfold endsL
    split
    · unfold maxLen; simp
    · have := endsL_le L
      simp at h ⊢; omega
theorem jres_cases (L : List Tk) : (∃ x, jval L = true ∧ jgo L true [] = some x ∧ jres L = (x, 0)) ∨ ∃ e : Int, e ≠ 0 ∧ jres L = ([], e) := by
  unfold jres
  split
  · cases hg : jgo L true [] with
    | none => exact .inr ⟨4, by decide, rfl⟩
    | some x => exact .inl ⟨x, by assumption, rfl, rfl⟩
  · exact .inr ⟨1, by decide, rfl⟩

theorem same_lists (A1 A2 : Option Addr) (c1 c2 : Nat) (L M : List Tk) (w : World) (hm : L.length ≤ maxLen) (h1 : SlT w A1 L) (h2 : SlT w A2 M) (hk : L.map kt = M.map kt) :
    Calls Tryd.prog 22 #[.slice A1 L.length c1, .slice A2 M.length c2] w fun e w' => e = .returned (.bool true) ∧ ∃ q, w' = w.drewN q := by
  have e : M.length = L.length := by have := congrArg List.length hk; simpa using this.symm
  rw [e]
  exact same_true A1 A2 c1 c2 L.length L M w rfl hm h1 h2 hk

set_option maxRecDepth 100000 in
set_option maxHeartbeats 2000000 in
theorem lexBack_ok (A : Option Addr) (cap : Nat) (L : List Tk) (w : World) (hp : Pairs w) (hm : L.length ≤ maxLen) (hT : Texts L) (hl : SlT w A L) (hs : smallB L = true) (x : List UInt8) (hv : jval L = true) (hg : jgo L true [] = some x) (hj : jres L = (x, 0)) :
    Calls Tryd.prog 6 #[.slice A L.length cap] w fun e w' => e = .returned (.bool true) ∧ Below w.heap.size w w' := by
  have HP := Lib.hid hp
  have HL := Lib.hid hl
  have HT := Lib.hid hT
  have HM := Lib.hid hm
  have HS := Lib.hid hs
  have HSm := Lib.hid (small_of L hs)
  have HV := Lib.hid hv
  have HG := Lib.hid hg
  have HJ := Lib.hid hj
  have hlen := (small_of L hs).1
  clear hp hl hT hm hs hv hg hj
  obtain ⟨i0, hi, hz0, hz1, hz2⟩ := info_parts Tryd.infoToken
  go_enter Tryd.func6, Tryd.ntmps6
  go_wp2_with fail
  refine (awake_any _ HP.out).mono ?_
  rintro e w1 ⟨rfl, hb1⟩
  have HB1 := Lib.hid hb1
  clear hb1
  go_wp2_with fail
  have hc := small_any A cap L w1 HM.out HT.out (HL.out.below HB1.out)
  rw [HS.out] at hc
  refine hc.mono ?_
  rintro e w2 ⟨rfl, hb2⟩
  have HB2 := Lib.hid (HB1.out.trans (hb2.mono HB1.out.size))
  clear hb2 hc
  go_wp2_with fail
  have hc := join_any A cap L w2 (HP.out.below HB2.out HP.out.lt) HSm.out (HL.out.below HB2.out)
  unfold joinV at hc
  rw [HJ.out] at hc
  refine hc.mono ?_
  rintro e w3 ⟨rfl, hb3⟩
  have HB3 := Lib.hid (HB2.out.trans (hb3.mono HB2.out.size))
  clear hb3 hc
  go_wp2_with fail
  refine (tokens_back L x w3 (HP.out.below HB3.out HP.out.lt) HV.out HG.out).mono ?_
  rintro e w4 ⟨v4, r, rfl, ho4, hm4, hb4⟩
  obtain ⟨A4, c4, rfl, hsl4, _⟩ := slT_own ho4
  have HB4 := Lib.hid (HB3.out.trans (hb4.mono HB3.out.size))
  have HS4 := Lib.hid hsl4
  have HM4 := Lib.hid hm4
  have hrl : r.length ≤ maxLen := by have := congrArg List.length hm4; rw [List.length_map] at this; rw [this]; exact endsL_len L (by unfold maxLen; omega)
  have HRL := Lib.hid hrl
  clear hb4 ho4 hsl4 hm4 hrl
  have HB5 := Lib.hid (HB4.out.alloc HB4.out.size (.cells #[.int .i64 0, .int .i64 0] 23))
  have HP5 := Lib.hid (heap_alloc_new w4 (.cells #[.int .i64 0, .int .i64 0] 23))
  have hS5 : SlT (w4.alloc (.cells #[.int .i64 0, .int .i64 0] 23)) A4 r := HS4.out.below ((Below.refl _ _).alloc (Nat.le_refl _) _)
  have HS5 := Lib.hid hS5
  clear hS5
  rcases Nat.eq_zero_or_pos L.length with h0 | h0
  · have hb0 : ((L.length : Int) == 0) = true := beq_iff_eq.2 (by omega)
    have HE := Lib.hid (ends_more L HV.out (fun t ht => by rw [List.getElem?_eq_none (by omega)] at ht; cases ht))
    clear h0
    go_wp2_with fail
    refine (clone_any A cap L _ (by omega) (HL.out.below HB5.out)).mono ?_
    rintro e w6 ⟨v6, rfl, ho6, hb6⟩
    have HO6 := Lib.hid ho6
    have HB6 := Lib.hid hb6
    clear ho6 hb6
    have hm1 : L.length + 1 ≤ maxLen := by unfold maxLen; omega
    have hw6 := HB6.out.size
    go_wp2_with (at_builtin; refine wpList_append_own _ rfl (.tmp 42) (.tmp 44) 30 rfl _ 25 i0 _ 5 48 Tryd.underlying30 hi hz0 hz1 hz2 rfl (by decide) _ L.length (tksCells L) rfl (HO6.out.alloc _) ⟨w6.heap.size, 0, none⟩ 1 1 [.int .i64 5, .string ⟨#[]⟩, .int .i64 0, .int .i64 0, .int .i64 0] rfl rfl ?c1 ?c2 hm1 ?c4 ?c5 ?_)
    case c1 => exact World.news_of_block (cs := #[.int .i64 5, .string ⟨#[]⟩, .int .i64 0, .int .i64 0, .int .i64 0]) (t := 25) (fr := (0, 0)) (heap_alloc_new _ _)
    case c2 => simp [Value.oneCell']
    case c4 => omega
    case c5 => have := HB6.out.size; simp at this ⊢; omega
    intro v7 w7 ho7 hg7 _
    obtain ⟨M, hM⟩ : ∃ M, M = L ++ [tkEnd] := ⟨_, rfl⟩
    have hO7 : w7.ownsRow (w4.alloc (.cells #[.int .i64 0, .int .i64 0] 23)).heap.size 25 5 v7 (L.length + 1) (tksCells M) := by
      rw [hM, ← tksCells_snoc, show (w4.alloc (.cells #[.int .i64 0, .int .i64 0] 23)).heap.size = w4.heap.size + 1 from by simp]; exact ho7
    have hbW : Below (w4.alloc (.cells #[.int .i64 0, .int .i64 0] 23)).heap.size (w4.alloc (.cells #[.int .i64 0, .int .i64 0] 23)) w7 :=
      (HB6.out.alloc HB6.out.size _).grown hg7 (by have := HB6.out.size; simp at this ⊢; omega) (fun k e => (HO6.out.lt k e).1)
    have HMk := Lib.hid (show r.map kt = M.map kt from by rw [hM]; exact HM4.out.trans HE.out)
    clear hM ho7 hg7
    obtain ⟨A7, c7, rfl, hsl7, _⟩ := slT_own hO7
    have HS7 := Lib.hid hsl7
    have HSg := Lib.hid (HS5.out.below hbW)
    obtain ⟨⟨p0, p1⟩, _, _⟩ := blk2 ((hbW.block w4.heap.size (by simp)).trans HP5.out)
    have HB7 := Lib.hid (HB5.out.trans (hbW.mono HB5.out.size))
    clear hO7 hbW hsl7
    go_wp2_with fail
    refine (same_lists A4 A7 c4 c7 r M w7 HRL.out HSg.out HS7.out HMk.out).mono ?_
    rintro e w8 ⟨rfl, q, rfl⟩
    have HB8 := Lib.hid (below_drewN HB7.out q)
    go_wp2
    go_ret
    exact ⟨rfl, HB8.out⟩
  · have hb0 : ((L.length : Int) == 0) = false := beq_eq_false_iff_ne.2 (by omega)
    obtain ⟨t, ht⟩ : ∃ t, L[L.length - 1]? = some t := ⟨L[L.length - 1], List.getElem?_eq_getElem (by omega)⟩
    obtain ⟨b, off, hA, hblt, hc⟩ := HL.out h0
    subst hA
    obtain ⟨x0, _⟩ := cells5 HB5.out hblt (hc _ t ht)
    have hidx : ((L.length : Int) - 1).toNat = L.length - 1 := by omega
    by_cases h5 : t.k = 5
    · have h5b : (t.k != 5) = false := by rw [h5]; rfl
      have HE := Lib.hid (ends_same L HV.out t ht h5)
      clear h5 ht hc
      go_wp2_with fail
      refine (same_lists A4 _ c4 cap r L _ HRL.out HS5.out (HL.out.below HB5.out) (HM4.out.trans HE.out)).mono ?_
      rintro e w8 ⟨rfl, q, rfl⟩
      have HB8 := Lib.hid (below_drewN HB5.out q)
      go_wp2
      go_ret
      exact ⟨rfl, HB8.out⟩
    · have h5b : (t.k != 5) = true := by simpa using h5
      have HE := Lib.hid (ends_more L HV.out (fun u hu => by rw [ht] at hu; rw [← Option.some.inj hu]; exact h5))
      clear h5 ht hc
      go_wp2_with fail
      refine (clone_any _ cap L _ (by omega) (HL.out.below HB5.out)).mono ?_
      rintro e w6 ⟨v6, rfl, ho6, hb6⟩
      have HO6 := Lib.hid ho6
      have HB6 := Lib.hid hb6
      clear ho6 hb6
      have hm1 : L.length + 1 ≤ maxLen := by unfold maxLen; omega
      have hw6 := HB6.out.size
      go_wp2_with (at_builtin; refine wpList_append_own _ rfl (.tmp 42) (.tmp 44) 30 rfl _ 25 i0 _ 5 48 Tryd.underlying30 hi hz0 hz1 hz2 rfl (by decide) _ L.length (tksCells L) rfl (HO6.out.alloc _) ⟨w6.heap.size, 0, none⟩ 1 1 [.int .i64 5, .string ⟨#[]⟩, .int .i64 0, .int .i64 0, .int .i64 0] rfl rfl ?c1 ?c2 hm1 ?c4 ?c5 ?_)
      case c1 => exact World.news_of_block (cs := #[.int .i64 5, .string ⟨#[]⟩, .int .i64 0, .int .i64 0, .int .i64 0]) (t := 25) (fr := (0, 0)) (heap_alloc_new _ _)
      case c2 => simp [Value.oneCell']
      case c4 => omega
      case c5 => have := HB6.out.size; simp at this ⊢; omega
      intro v7 w7 ho7 hg7 _
      obtain ⟨M, hM⟩ : ∃ M, M = L ++ [tkEnd] := ⟨_, rfl⟩
      have hO7 : w7.ownsRow (w4.alloc (.cells #[.int .i64 0, .int .i64 0] 23)).heap.size 25 5 v7 (L.length + 1) (tksCells M) := by
        rw [hM, ← tksCells_snoc, show (w4.alloc (.cells #[.int .i64 0, .int .i64 0] 23)).heap.size = w4.heap.size + 1 from by simp]; exact ho7
      have hbW : Below (w4.alloc (.cells #[.int .i64 0, .int .i64 0] 23)).heap.size (w4.alloc (.cells #[.int .i64 0, .int .i64 0] 23)) w7 :=
        (HB6.out.alloc HB6.out.size _).grown hg7 (by have := HB6.out.size; simp at this ⊢; omega) (fun k e => (HO6.out.lt k e).1)
      have HMk := Lib.hid (show r.map kt = M.map kt from by rw [hM]; exact HM4.out.trans HE.out)
      clear hM ho7 hg7
      obtain ⟨A7, c7, rfl, hsl7, _⟩ := slT_own hO7
      have HS7 := Lib.hid hsl7
      have HSg := Lib.hid (HS5.out.below hbW)
      obtain ⟨⟨p0, p1⟩, _, _⟩ := blk2 ((hbW.block w4.heap.size (by simp)).trans HP5.out)
      have HB7 := Lib.hid (HB5.out.trans (hbW.mono HB5.out.size))
      clear hO7 hbW hsl7
      go_wp2_with fail
      refine (same_lists A4 A7 c4 c7 r M w7 HRL.out HSg.out HS7.out HMk.out).mono ?_
      rintro e w8 ⟨rfl, q, rfl⟩
      have HB8 := Lib.hid (below_drewN HB7.out q)
      go_wp2
      go_ret
      exact ⟨rfl, HB8.out⟩

set_option maxHeartbeats 1000000 in
theorem lexBack_any (A : Option Addr) (cap : Nat) (L : List Tk) (w : World) (hp : Pairs w) (hm : L.length ≤ maxLen) (hT : Texts L) (hl : SlT w A L) :
    Calls Tryd.prog 6 #[.slice A L.length cap] w fun e w' => e = .returned (.bool true) ∧ Below w.heap.size w w' := by
  cases hs : smallB L
  · have HP := Lib.hid hp
    have HL := Lib.hid hl
    have HT := Lib.hid hT
    have HM := Lib.hid hm
    have HS := Lib.hid hs
    clear hp hl hT hm hs
    go_enter Tryd.func6, Tryd.ntmps6
    go_wp2_with fail
    refine (awake_any _ HP.out).mono ?_
    rintro e w1 ⟨rfl, hb1⟩
    have HB1 := Lib.hid hb1
    clear hb1
    go_wp2_with fail
    have hc := small_any A cap L w1 HM.out HT.out (HL.out.below HB1.out)
    rw [HS.out] at hc
    refine hc.mono ?_
    rintro e w2 ⟨rfl, hb2⟩
    have HB2 := Lib.hid (HB1.out.trans (hb2.mono HB1.out.size))
    clear hb2 hc
    go_wp2
    go_ret
    exact ⟨rfl, HB2.out⟩
  · rcases jres_cases L with ⟨x, hv, hg, hj⟩ | ⟨er, her, hj⟩
    · exact lexBack_ok A cap L w hp hm hT hl hs x hv hg hj
    · have HP := Lib.hid hp
      have HL := Lib.hid hl
      have HT := Lib.hid hT
      have HM := Lib.hid hm
      have HSm := Lib.hid (small_of L hs)
      have HS := Lib.hid hs
      have HJ := Lib.hid hj
      have heb : (er != 0) = true := by simpa using her
      clear hp hl hT hm hs hj her
      go_enter Tryd.func6, Tryd.ntmps6
      go_wp2_with fail
      refine (awake_any _ HP.out).mono ?_
      rintro e w1 ⟨rfl, hb1⟩
      have HB1 := Lib.hid hb1
      clear hb1
      go_wp2_with fail
      have hc := small_any A cap L w1 HM.out HT.out (HL.out.below HB1.out)
      rw [HS.out] at hc
      refine hc.mono ?_
      rintro e w2 ⟨rfl, hb2⟩
      have HB2 := Lib.hid (HB1.out.trans (hb2.mono HB1.out.size))
      clear hb2 hc
      go_wp2_with fail
      have hc := join_any A cap L w2 (HP.out.below HB2.out HP.out.lt) HSm.out (HL.out.below HB2.out)
      unfold joinV at hc
      rw [HJ.out] at hc
      refine hc.mono ?_
      rintro e w3 ⟨rfl, hb3⟩
      have HB3 := Lib.hid (HB2.out.trans (hb3.mono HB2.out.size))
      clear hb3 hc
      go_wp2
      go_ret
      exact ⟨rfl, HB3.out⟩
end Go.Proofs.YtgjiacnfgfkalaaDoor
