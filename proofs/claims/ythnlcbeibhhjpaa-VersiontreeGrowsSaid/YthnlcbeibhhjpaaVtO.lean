/- An index of versions: Len, Depth, Ancestor, Common at numbers that are none, Tree. -/
import Derived.Test.YthnlcbeibhhjpaaVtN
namespace Go.Proofs.Ythnlcbeibhhjpaa
open Go.RowKit
set_option maxRecDepth 100000
theorem parV_at {Vs : List Vn} {i : Nat} {v : Vn} (h : Vs[i]? = some v) : (parV Vs)[i]? = some v.1 := by unfold parV; rw [List.getElem?_map, h]; rfl
theorem parV_of {Vs : List Vn} {i : Nat} {x : Int} (h : (parV Vs)[i]? = some x) : ∃ v, Vs[i]? = some v ∧ v.1 = x := vn_par rfl h
theorem VsOk.vp {Vs : List Vn} (h : VsOk Vs) (hl : Vs.length ≤ 1000) : VP (parV Vs) := by
  have hp := (List.getElem?_eq_some_iff.1 h.root).1
  refine ⟨by rw [parV_len]; omega, by rw [parV_len]; exact hl, parV_at h.root, fun i x hx => ?_⟩
  obtain ⟨v, hv, rfl⟩ := parV_of hx
  obtain ⟨p, j, u, h1, h2, _⟩ := h.rest (i + 1) v hv (by omega)
  omega
/-- The way up of a version is as long as its depth says. -/
theorem VsOk.up {Vs : List Vn} (h : VsOk Vs) : ∀ (k : Nat) (v : Vn), Vs[k]? = some v → ∃ l, Up (parV Vs) k l ∧ (l.length : Int) = v.2.1 + 1 := fun k => by
  induction k using Nat.strongRecOn with
  | ind k ih =>
    intro v hv
    by_cases h0 : k = 0
    · subst h0
      rw [h.root] at hv
      have := Option.some.inj hv
      subst this
      exact ⟨[0], .root (parV_at h.root), rfl⟩
    · obtain ⟨p, j, u, h1, h2, h3, h4, _⟩ := h.rest k v hv (by omega)
      obtain ⟨l, hl, hn⟩ := ih p h2 u h3
      refine ⟨(k : Int) :: l, .step (by rw [parV_at hv, h1]) (by omega) hl, ?_⟩
      simp only [List.length_cons]
      omega
set_option maxHeartbeats 4000000 in
theorem ix_len (B x m : Nat) (Vs : List Vn) (w : World) (h : IxM B x Vs w) (hm : Vs.length = m) (_hml : m ≤ 1000) :
    Calls Try.prog 22 #[.pointer (some ⟨x, 0, none⟩)] w fun e w' => e = .returned (.int .i64 m) ∧ Below w.heap.size w w' := by
  obtain ⟨⟨tl, G, cap, mv, E, hr, ht⟩, hok⟩ := h
  rw [hm] at hr
  obtain ⟨⟨b0, b1⟩, _, _⟩ := bk2 hr.box
  clear hr ht hok hm
  go_enter Try.func22, Try.ntmps22
  go_wp2_with fail
  go_ret
  exact ⟨rfl, Below.refl _ _⟩
theorem ints_two {w : World} {a b : Int} : IntsAt (fun _ => True) (w.alloc (.cells #[.int .i64 a, .int .i64 b] 3)) (some ⟨w.heap.size, 0, none⟩) [a, b] := ints_blk [a, b] (bdNew w _) rfl trivial
theorem ints_uno {w : World} {a : Int} : IntsAt (fun _ => True) (w.alloc (.cells #[.int .i64 a] 3)) (some ⟨w.heap.size, 0, none⟩) [a] := ints_blk [a] (bdNew w _) rfl trivial
set_option maxHeartbeats 4000000 in
theorem ix_depth_yes (B x m a : Nat) (Vs : List Vn) (v : Vn) (w : World) (h : IxM B x Vs w) (hm : Vs.length = m) (hml : m ≤ 1000) (hv : Vs[a]? = some v) :
    Calls Try.prog 24 #[.pointer (some ⟨x, 0, none⟩), .int .i64 (a : Int)] w fun e w' => e = .returned (.tuple #[.int .i64 v.2.1, .int .i64 0]) ∧ Below w.heap.size w w' := by
  have hal : a < m := by have := (List.getElem?_eq_some_iff.1 hv).1; omega
  obtain ⟨⟨tl, G, cap, mv, E, hr, ht⟩, hok⟩ := h
  rw [hm] at hr
  obtain ⟨g, cap', hvv, hg, hgl⟩ := hr.row.form (by omega)
  have hG : G = some ⟨g, 0, none⟩ := by injection hvv
  subst hG
  obtain ⟨x0, x1, x2⟩ := vn_at hr.row hm hv
  have hw1 : Below w.heap.size w (w.alloc (.cells #[.int .i64 (a : Int)] 3)) := (Below.refl _ _).alloc (Nat.le_refl _) _
  have HCK := Lib.hid (ixCheck_yes (fun _ => True) x tl m cap 1 1 (some ⟨g, 0, none⟩) (some ⟨w.heap.size, 0, none⟩) [(a : Int)] (w.alloc (.cells #[.int .i64 (a : Int)] 3)) (hr.below hw1).box rfl (by omega) ints_uno (fun y hy => by
    have : y = (a : Int) := by simpa using hy
    omega))
  obtain ⟨⟨b0, b1⟩, _, _⟩ := bk2 hr.box
  have hxl := bdLt hr.box
  have haI : (a : Int) < (m : Int) := by omega
  have HB := Lib.hid hw1
  obtain ⟨d, hd⟩ : ∃ d, d = v.2.1 := ⟨_, rfl⟩
  rw [← hd] at x1 ⊢
  clear hr ht hok hm hv hvv hw1 x0 x2 hd
  go_enter Try.func24, Try.ntmps24
  go_wp2_with fail
  refine HCK.out.mono ?_
  rintro er w1 ⟨rfl, rfl⟩
  go_wp2_with fail
  go_ret2
  exact ⟨rfl, HB.out⟩
set_option maxHeartbeats 4000000 in
theorem ix_depth_no (B x m : Nat) (a : Int) (Vs : List Vn) (w : World) (h : IxM B x Vs w) (hm : Vs.length = m) (_hml : m ≤ 1000) (hv : ¬ (0 ≤ a ∧ a < (m : Int))) :
    Calls Try.prog 24 #[.pointer (some ⟨x, 0, none⟩), .int .i64 a] w fun e w' => e = .returned (.tuple #[.int .i64 0, .int .i64 24]) ∧ Below w.heap.size w w' := by
  obtain ⟨⟨tl, G, cap, mv, E, hr, ht⟩, hok⟩ := h
  rw [hm] at hr
  have hw1 : Below w.heap.size w (w.alloc (.cells #[.int .i64 a] 3)) := (Below.refl _ _).alloc (Nat.le_refl _) _
  have HCK := Lib.hid (ixCheck_no (fun _ => True) x tl m cap 1 1 G (some ⟨w.heap.size, 0, none⟩) [a] (w.alloc (.cells #[.int .i64 a] 3)) (hr.below hw1).box rfl (by omega) ints_uno (fun h => hv (h a (by simp))))
  have HB := Lib.hid hw1
  clear hr ht hok hm hw1 hv
  go_enter Try.func24, Try.ntmps24
  go_wp2_with fail
  refine HCK.out.mono ?_
  rintro er w1 ⟨rfl, rfl⟩
  go_wp2_with fail
  go_ret2
  exact ⟨rfl, HB.out⟩
set_option maxHeartbeats 4000000 in
theorem ix_anc_yes (B x m a b : Nat) (Vs : List Vn) (w : World) (h : IxM B x Vs w) (hm : Vs.length = m) (hml : m ≤ 1000) (ha : a < m) (hb : b < m) (bb : Bool) (hbb : bb = true ↔ AncV Vs a b) :
    Calls Try.prog 25 #[.pointer (some ⟨x, 0, none⟩), .int .i64 (a : Int), .int .i64 (b : Int)] w fun e w' => e = .returned (.tuple #[.bool bb, .int .i64 0]) ∧ Below w.heap.size w w' := by
  obtain ⟨⟨tl, G, cap, mv, E, hr, ht⟩, hok⟩ := h
  rw [hm] at hr
  have hw1 : Below w.heap.size w (w.alloc (.cells #[.int .i64 (a : Int), .int .i64 (b : Int)] 3)) := (Below.refl _ _).alloc (Nat.le_refl _) _
  have HCK := Lib.hid (ixCheck_yes (fun _ => True) x tl m cap 2 2 G (some ⟨w.heap.size, 0, none⟩) [(a : Int), (b : Int)] (w.alloc (.cells #[.int .i64 (a : Int), .int .i64 (b : Int)] 3)) (hr.below hw1).box rfl (by omega) ints_two (fun y hy => by
    have : y = (a : Int) ∨ y = (b : Int) := by simpa using hy
    omega))
  have HI := Lib.hid (isAnc_any B x tl cap m a b G mv E Vs _ (hr.below hw1) hm hml ht ha hb bb hbb)
  have HB := Lib.hid hw1
  clear hr ht hok hm hw1 hbb
  go_enter Try.func25, Try.ntmps25
  go_wp2_with fail
  refine HCK.out.mono ?_
  rintro er w1 ⟨rfl, rfl⟩
  go_wp2_with fail
  refine HI.out.mono ?_
  rintro er w1 ⟨rfl, q, rfl⟩
  go_wp2_with fail
  go_ret2
  exact ⟨rfl, bdN HB.out q⟩
set_option maxHeartbeats 4000000 in
theorem ix_anc_no (B x m : Nat) (a b : Int) (Vs : List Vn) (w : World) (h : IxM B x Vs w) (hm : Vs.length = m) (_hml : m ≤ 1000) (hv : ¬ ((0 ≤ a ∧ a < (m : Int)) ∧ (0 ≤ b ∧ b < (m : Int)))) :
    Calls Try.prog 25 #[.pointer (some ⟨x, 0, none⟩), .int .i64 a, .int .i64 b] w fun e w' => e = .returned (.tuple #[.bool false, .int .i64 24]) ∧ Below w.heap.size w w' := by
  obtain ⟨⟨tl, G, cap, mv, E, hr, ht⟩, hok⟩ := h
  rw [hm] at hr
  have hw1 : Below w.heap.size w (w.alloc (.cells #[.int .i64 a, .int .i64 b] 3)) := (Below.refl _ _).alloc (Nat.le_refl _) _
  have HCK := Lib.hid (ixCheck_no (fun _ => True) x tl m cap 2 2 G (some ⟨w.heap.size, 0, none⟩) [a, b] (w.alloc (.cells #[.int .i64 a, .int .i64 b] 3)) (hr.below hw1).box rfl (by omega) ints_two (fun h => hv ⟨h a (by simp), h b (by simp)⟩))
  have HB := Lib.hid hw1
  clear hr ht hok hm hw1 hv
  go_enter Try.func25, Try.ntmps25
  go_wp2_with fail
  refine HCK.out.mono ?_
  rintro er w1 ⟨rfl, rfl⟩
  go_wp2_with fail
  go_ret2
  exact ⟨rfl, HB.out⟩
set_option maxHeartbeats 4000000 in
theorem ix_common_no (B x m : Nat) (a b : Int) (Vs : List Vn) (w : World) (h : IxM B x Vs w) (hm : Vs.length = m) (_hml : m ≤ 1000) (hv : ¬ ((0 ≤ a ∧ a < (m : Int)) ∧ (0 ≤ b ∧ b < (m : Int)))) :
    Calls Try.prog 26 #[.pointer (some ⟨x, 0, none⟩), .int .i64 a, .int .i64 b] w fun e w' => e = .returned (.tuple #[.int .i64 0, .int .i64 24]) ∧ Below w.heap.size w w' := by
  obtain ⟨⟨tl, G, cap, mv, E, hr, ht⟩, hok⟩ := h
  rw [hm] at hr
  have hw1 : Below w.heap.size w (w.alloc (.cells #[.int .i64 a, .int .i64 b] 3)) := (Below.refl _ _).alloc (Nat.le_refl _) _
  have HCK := Lib.hid (ixCheck_no (fun _ => True) x tl m cap 2 2 G (some ⟨w.heap.size, 0, none⟩) [a, b] (w.alloc (.cells #[.int .i64 a, .int .i64 b] 3)) (hr.below hw1).box rfl (by omega) ints_two (fun h => hv ⟨h a (by simp), h b (by simp)⟩))
  have HB := Lib.hid hw1
  clear hr ht hok hm hw1 hv
  go_enter Try.func26, Try.ntmps26
  go_wp2_with fail
  refine HCK.out.mono ?_
  rintro er w1 ⟨rfl, rfl⟩
  go_wp2_with fail
  go_ret2
  exact ⟨rfl, HB.out⟩
set_option maxHeartbeats 8000000 in
theorem ix_tree (B x m : Nat) (Vs : List Vn) (w : World) (h : IxM B x Vs w) (hm : Vs.length = m) (hml : m ≤ 1000) :
    Calls Try.prog 23 #[.pointer (some ⟨x, 0, none⟩)] w fun e w' => (∃ A cp, e = .returned (.agg #[.slice A m cp]) ∧ ORow w.heap.size w' A cp (parV Vs)) ∧ Below w.heap.size w w' := by
  have hpos := h.pos
  obtain ⟨⟨tl, G, cap, mv, E, hr, ht⟩, hok⟩ := h
  rw [hm] at hr hpos
  obtain ⟨g, cap', hvv, hg, hgl⟩ := hr.row.form (by omega)
  have hG : G = some ⟨g, 0, none⟩ := by injection hvv
  subst hG
  have HR := Lib.hid hr
  have HM := Lib.hid hm
  obtain ⟨⟨b0, b1⟩, _, _⟩ := bk2 hr.box
  have hxl := bdLt hr.box
  obtain ⟨i1, hi1, hy0, hy1, hy2⟩ := info_parts Try.infoInt
  clear hr ht hok hm hvv
  go_enter Try.func23, Try.ntmps23
  go_wp2_with fail
  go_loopw [3, 14] (fun s3 s14 wr => ∃ (k cp : Nat) (A3 : Option Addr), k ≤ m ∧ s14 = .int .i64 k ∧ s3 = .slice A3 k cp ∧ wr.ownsRow (w.heap.size + 1) 3 1 (.slice A3 k cp) k ((parV (Vs.take k)).map (Value.int .i64)) ∧ Below (w.heap.size + 1) (w.alloc (.cells #[.slice none 0 0] 24)) wr) (fun _ s14 _ => m - (intOf s14).toNat)
  case atStart => exact ⟨0, 0, none, by omega, rfl, rfl, World.ownsRow_nil _ _ _ _, Below.refl _ _⟩
  case round =>
    obtain ⟨k, cp, A3, hk, rfl, rfl, how, hb⟩ := hrel
    have HOW := Lib.hid how
    have HB := Lib.hid hb
    have hsz := hb.size
    simp at hsz
    have hbw : Below w.heap.size w wr := ((Below.refl _ _).alloc (Nat.le_refl _) _).trans (hb.mono (by omega))
    have HBW := Lib.hid hbw
    have hb2 := (hb.block w.heap.size (by omega)).trans (bdNew w (.cells #[.slice none 0 0] 24))
    obtain ⟨c0, f0⟩ := bk1 hb2
    by_cases hlt : k < m
    · have hltI : (k : Int) < (m : Int) := by omega
      obtain ⟨v, hv⟩ : ∃ v, Vs[k]? = some v := ⟨Vs[k]'(by rw [HM.out]; exact hlt), List.getElem?_eq_getElem _⟩
      obtain ⟨x0, x1, x2⟩ := vn_at (HR.out.below hbw).row HM.out hv
      have HTK : Hid (parV (Vs.take (k + 1)) = parV (Vs.take k) ++ [v.1]) := Lib.hid (by rw [← parV_snoc, List.take_add_one, hv]; rfl)
      obtain ⟨d0, hd0⟩ : ∃ d, d = v.1 := ⟨_, rfl⟩
      obtain ⟨d1, hd1⟩ : ∃ d, d = v.2.1 := ⟨_, rfl⟩
      obtain ⟨d2, hd2⟩ : ∃ d, d = v.2.2 := ⟨_, rfl⟩
      rw [← hd0] at x0 HTK
      rw [← hd1] at x1
      rw [← hd2] at x2
      have hgw : g < wr.heap.size := by have := hbw.size; omega
      clear hv hd0 hd1 hd2 how hb hbw hb2
      go_wp2_with (at_builtin; refine wpList_append_lies _ rfl (.tmp 18) (.tmp 21) 22 rfl (w.heap.size + 1) 3 i1 _ 1 8 Try.underlying22 hi1 hy0 hy1 hy2 rfl (by decide) (.slice A3 k cp) k ((parV (Vs.take k)).map (Value.int .i64)) rfl ((HOW.out.alloc (.cells #[.int .i64 d0, .int .i64 d1, .int .i64 d2] 69)).alloc (.cells #[.int .i64 d0] 3)) ⟨wr.heap.size + 1, 0, none⟩ 1 1 [.int .i64 d0] rfl rfl (World.news_of_block (cs := #[.int .i64 d0]) (t := 3) (fr := (0, 0)) (by
        have := heap_alloc_new (wr.alloc (.cells #[.int .i64 d0, .int .i64 d1, .int .i64 d2] 69)) (.cells #[.int .i64 d0] 3)
        rw [show (wr.alloc (.cells #[.int .i64 d0, .int .i64 d1, .int .i64 d2] 69)).heap.size = wr.heap.size + 1 by simp] at this
        exact this)) (by simp [Value.oneCell']) (by omega) (by unfold maxLen; omega) (by omega) (by simp; omega) (wr.heap.size + 2) (by simp) ?_)
      intro g2 cap2 W6 hown6 hgrow6 hat6 hlt6
      have hb6 : Below (w.heap.size + 1) (w.alloc (.cells #[.slice none 0 0] 24)) W6 := ((HB.out.alloc (by omega) _).alloc (by simp; omega) _).grown hgrow6 (by simp; omega) (fun k' e => by have := (HOW.out.lt k' e).1; omega)
      have HB6 := Lib.hid hb6
      have HO6 : Hid (W6.ownsRow (w.heap.size + 1) 3 1 (.slice (some ⟨g2, 0, none⟩) (k + 1) cap2) (k + 1) ((parV (Vs.take (k + 1))).map (Value.int .i64))) := Lib.hid (by rw [HTK.out]; simpa using hown6)
      clear hown6 hgrow6 hat6 hlt6 hb6 c0 f0 x0 x1 x2
      go_wp2_with fail
      go_roundw
      case rel => exact ⟨k + 1, cap2, some ⟨g2, 0, none⟩, by omega, by go_num, rfl, HO6.out, HB6.out⟩
      case measure => simp [intOf]; omega
    · have hkm : k = m := by omega
      have HB2 := Lib.hid hb2
      have HKM := Lib.hid hkm
      have hkI : ((k : Int) < (m : Int)) ↔ False := by simp; omega
      clear how hb hbw hb2 hkm
      go_wp2_with fail
      refine bodyPost_ret (v := .agg #[.slice A3 k cp]) (by simp [results, Try.results23, go_sem, c0]) rfl ⟨⟨A3, cp, by rw [HKM.out], ?_⟩, ?_⟩
      · have hpl : (parV Vs).length = k := by rw [parV_len, HM.out, HKM.out]
        have h1 := HOW.out
        rw [HKM.out, List.take_of_length_le (by rw [HM.out]; omega), ← HKM.out] at h1
        have h2 : ORow (w.heap.size + 1) wr A3 cp (parV Vs) := by unfold ORow; rw [hpl]; exact h1
        exact (h2.setOther HB2.out (by decide)).more (by omega)
      · exact HBW.out.setCell (p := ⟨w.heap.size, 0, none⟩) (Nat.le_refl _) _
end Go.Proofs.Ythnlcbeibhhjpaa
