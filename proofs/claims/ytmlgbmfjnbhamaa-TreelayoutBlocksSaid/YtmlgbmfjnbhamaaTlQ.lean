/- The reference's Path; Path with what is out of range; the example of the chapter; the law's own functions. -/
import Derived.Test.YtmlgbmfjnbhamaaTlP
namespace Go.Proofs.Ytmlgbmfjnbhamaa
open Go.RowKit
set_option maxRecDepth 100000
theorem path_noh (h leaf : Int) (w : World) (hno : ¬ (1 ≤ h ∧ h ≤ 16)) : Calls Try.prog 13 #[.int .i64 h, .int .i64 leaf] w fun e w' => e = .returned (.tuple #[.slice none 0 0, .int .i64 2]) ∧ w = w' := by
  have HH := Lib.hid (isHeight_any h w false (by simpa using hno))
  clear hno
  go_enter Try.func13, Try.ntmps13
  go_wp2_with fail
  refine HH.out.mono ?_
  rintro er w1 ⟨rfl, rfl⟩
  go_wp2_with fail
  go_ret2
  exact ⟨rfl, rfl⟩
theorem path_nol (h : Nat) (leaf : Int) (w : World) (hh : 1 ≤ h ∧ h ≤ 16) (hno : leaf < 0 ∨ ((2 ^ (h - 1) : Nat) : Int) ≤ leaf) : Calls Try.prog 13 #[.int .i64 (h : Int), .int .i64 leaf] w fun e w' => e = .returned (.tuple #[.slice none 0 0, .int .i64 2]) ∧ w = w' := by
  have HH := Lib.hid (isHeight_any (h : Int) w true (by simp; omega))
  obtain ⟨t, ht⟩ : ∃ t, t = h - 1 := ⟨_, rfl⟩
  have hht : (h : Int) - 1 = (t : Int) := by omega
  rw [← ht] at hno
  obtain ⟨M, hM⟩ : ∃ M, M = 2 ^ t := ⟨_, rfl⟩
  have hM2 : M ≤ 32768 := by rw [hM]; exact Nat.le_trans (Nat.pow_le_pow_right (by omega) (show t ≤ 15 by omega)) (by decide)
  have hsh : (2 : Int) ^ t = (M : Int) := by rw [hM]; push_cast; rfl
  rw [← hM] at hno
  have ht15 : t ≤ 15 := by omega
  clear ht hM
  by_cases h1 : leaf < 0
  · have d1 : decide (leaf < 0) = true := decide_eq_true h1
    clear hno h1
    go_enter Try.func13, Try.ntmps13
    go_wp2_with fail
    refine HH.out.mono ?_
    rintro er w1 ⟨rfl, rfl⟩
    go_wp2_with fail
    go_ret2
    exact ⟨rfl, rfl⟩
  · have d1 : decide (leaf < 0) = false := decide_eq_false h1
    have d2 : decide ((M : Int) ≤ leaf) = true := decide_eq_true (by omega)
    clear hno h1
    go_enter Try.func13, Try.ntmps13
    go_wp2_with fail
    refine HH.out.mono ?_
    rintro er w1 ⟨rfl, rfl⟩
    go_wp2_with fail
    go_ret2
    exact ⟨rfl, rfl⟩
set_option maxHeartbeats 8000000 in
theorem refPath_any (h leaf m : Nat) (w : World) (hh : 1 ≤ h ∧ h ≤ 16) (hl : leaf < 2 ^ (h - 1)) (hm : m = (pathL h leaf).length) : Calls Try.prog 16 #[.int .i64 (h : Int), .int .i64 (leaf : Int)] w fun e w' => (∃ g cp, e = .returned (.slice (some ⟨g, 0, none⟩) m cp) ∧ ORow w.heap.size w' (some ⟨g, 0, none⟩) cp (pathL h leaf)) ∧ Below w.heap.size w w' := by
  obtain ⟨t, ht⟩ : ∃ t, t = h - 1 := ⟨_, rfl⟩
  have hht : (h : Int) - 1 = (t : Int) := by omega
  rw [← ht] at hl
  obtain ⟨M, hM⟩ : ∃ M, M = 2 ^ t := ⟨_, rfl⟩
  have hM2 : M ≤ 32768 := by rw [hM]; exact Nat.le_trans (Nat.pow_le_pow_right (by omega) (show t ≤ 15 by omega)) (by decide)
  have hM1 : 1 ≤ M := by rw [hM]; exact Nat.one_le_two_pow
  have HC := Lib.hid (count_any t (M - 1) w (by omega) (by rw [hM]))
  have hMh : 2 ^ h = M * 2 := by rw [hM, ← Nat.pow_succ]; congr 1; omega
  rw [← hM] at hl
  obtain ⟨x0, hx0⟩ : ∃ x0, x0 = M - 1 + leaf := ⟨_, rfl⟩
  have hx0I : ((M - 1 : Nat) : Int) + (leaf : Int) = (x0 : Int) := by omega
  obtain ⟨U, hU⟩ : ∃ U, U = upF h x0 := ⟨_, rfl⟩
  have hpl : pathL h leaf = 0 :: (intsN U).reverse := by unfold pathL; rw [← ht, ← hM, ← hx0, ← hU]
  have hxf : x0 + 1 ≤ 2 ^ h := by rw [hMh]; omega
  have hUl : U.length ≤ 16 := by rw [hU]; have := upF_len h x0; omega
  have hmU : m = U.length + 1 := by rw [hm, hpl]; simp [intsN]
  obtain ⟨i1, hi1, hy0, hy1, hy2⟩ := info_parts Try.infoInt
  have HU := Lib.hid hU
  have HPL := Lib.hid hpl
  have HXF := Lib.hid hxf
  have HMU := Lib.hid hmU
  have hx0l : x0 ≤ 70000 := by omega
  have ht15 : t ≤ 15 := by omega
  clear hm hpl hU hMh hxf hmU hx0 ht hM
  go_enter Try.func16, Try.ntmps16
  go_wp2_with fail
  refine HC.out.mono ?_
  rintro er w1 ⟨rfl, rfl⟩
  go_wp2_with fail
  go_loopw [5, 6] (fun s7 s6 wr => ∃ (x f j cp : Nat) (dn : List Nat) (A7 : Option Addr), U = dn ++ upF f x ∧ x + 1 ≤ 2 ^ f ∧ x ≤ 70000 ∧ s7 = .int .i64 x ∧ j = dn.length ∧ s6 = .slice A7 j cp ∧ wr.ownsRow w.heap.size 3 1 (.slice A7 j cp) j ((intsN dn).map (Value.int .i64)) ∧ Below w.heap.size w wr) (fun s7 _ _ => (intOf s7).toNat)
  case atStart => exact ⟨x0, h, 0, 0, [], none, HU.out, HXF.out, hx0l, rfl, rfl, rfl, World.ownsRow_nil _ _ _ _, Below.refl _ _⟩
  case round =>
    obtain ⟨x, f, j, cp, dn, A7, hl2, hxf, hxl, rfl, hj, rfl, how, hb⟩ := hrel
    have HOW := Lib.hid how
    have HB := Lib.hid hb
    have HL := Lib.hid hl2
    have HJ := Lib.hid hj
    have hsz := hb.size
    have hjl : j ≤ 16 := by rw [hl2, List.length_append] at hUl; omega
    by_cases hx : 0 < x
    · obtain ⟨f', hf', hup, hlt⟩ := upF_step hxf hx
      have d4 : decide ((0 : Int) < (x : Int)) = true := decide_eq_true (by omega)
      obtain ⟨y, hy⟩ : ∃ y, y = (x - 1) / 2 := ⟨_, rfl⟩
      rw [← hy] at hup hlt
      have hyx : y < x := by omega
      have hyI : ((x : Int) - 1).tdiv 2 = (y : Int) := by rw [Int.tdiv_eq_ediv_of_nonneg (by omega)]; omega
      have HUP := Lib.hid hup
      have HLT := Lib.hid hlt
      clear hl2 hxf hj how hb hf' hup hlt hy
      go_wp2_with (at_builtin; refine wpList_append_lies _ rfl (.tmp 16) (.tmp 18) 23 rfl w.heap.size 3 i1 _ 1 8 Try.underlying23 hi1 hy0 hy1 hy2 rfl (by decide) (.slice A7 j cp) j ((intsN dn).map (Value.int .i64)) rfl (HOW.out.alloc _) ⟨wr.heap.size, 0, none⟩ 1 1 [.int .i64 (x : Int)] rfl rfl (World.news_of_block (cs := #[.int .i64 (x : Int)]) (t := 3) (fr := (0, 0)) (heap_alloc_new wr _)) (by simp [Value.oneCell']) (by omega) (by unfold maxLen; omega) (by omega) (by simp; omega) (wr.heap.size + 1) (by simp) ?_)
      intro g2 cap2 W6 hown6 hgrow6 hat6 hlt6
      have hb6 : Below w.heap.size w W6 := (HB.out.alloc hsz _).grown hgrow6 (by simp; omega) (fun k' e => by have := (HOW.out.lt k' e).1; omega)
      have HB6 := Lib.hid hb6
      have HO6 : Hid (W6.ownsRow w.heap.size 3 1 (.slice (some ⟨g2, 0, none⟩) (j + 1) cap2) (j + 1) ((intsN (dn ++ [x])).map (Value.int .i64))) := Lib.hid (by simpa [intsN] using hown6)
      clear hown6 hgrow6 hat6 hlt6 hb6
      go_wp2_with fail
      go_roundw
      case rel => exact ⟨y, f', j + 1, cap2, dn ++ [x], some ⟨g2, 0, none⟩, by rw [List.append_assoc]; exact HL.out.trans (by rw [HUP.out]; rfl), HLT.out, by omega, by go_num, by rw [List.length_append, ← HJ.out]; rfl, rfl, HO6.out, HB6.out⟩
      case measure => simp [intOf]; omega
    · have d4 : decide ((0 : Int) < (x : Int)) = false := decide_eq_false (by omega)
      rw [show x = 0 by omega, upF_zero, List.append_nil] at hl2
      subst hl2
      clear hxf hj how hb HL
      obtain ⟨wo, hwo⟩ : ∃ wo, wo = wr.alloc (.cells #[.int .i64 0] 3) := ⟨_, rfl⟩
      have hzo : wo.heap.size = wr.heap.size + 1 := by rw [hwo]; simp
      have HRO : Hid (wo.ownsRow w.heap.size 3 1 (.slice (some ⟨wr.heap.size, 0, none⟩) (0 + 1) 1) (0 + 1) ((0 :: (intsN U).reverse.take 0).map (Value.int .i64))) := Lib.hid (by
        rw [hwo]
        exact ⟨rfl, Or.inr ⟨wr.heap.size, 1, [.int .i64 0].toArray, rfl, hsz, heap_alloc_new wr _, Nat.le_refl _, by unfold maxLen; omega, by simp, rfl⟩⟩)
      have HBO : Hid (Below w.heap.size w wo) := Lib.hid (by rw [hwo]; exact HB.out.alloc hsz _)
      have HRU : Hid (wo.ownsRow w.heap.size 3 1 (.slice A7 j cp) j ((intsN U).map (Value.int .i64))) := Lib.hid (by rw [hwo]; exact HOW.out.alloc _)
      have HSEP : Hid (∀ b, (Value.slice A7 j cp).ownBlock = some b → b < wr.heap.size) := Lib.hid (fun b hb => (HOW.out.lt b hb).2)
      have HWO := Lib.hid hwo
      have hszo : w.heap.size ≤ wo.heap.size := by omega
      clear hwo HOW HB
      go_wp2_with fail
      rw [← HWO.out]
      obtain ⟨wz, rfl⟩ : ∃ wz, wz = wr := ⟨_, rfl⟩
      go_loopw [7, 8] (fun s7 s8 W => ∃ (q : Nat) (i : Int) (g9 cq : Nat), q ≤ j ∧ i = (j : Int) - 1 - (q : Int) ∧ s8 = .int .i64 i ∧ s7 = .slice (some ⟨g9, 0, none⟩) (q + 1) cq ∧ wz.heap.size ≤ g9 ∧ W.ownsRow w.heap.size 3 1 (.slice (some ⟨g9, 0, none⟩) (q + 1) cq) (q + 1) ((0 :: (intsN U).reverse.take q).map (Value.int .i64)) ∧ W.ownsRow w.heap.size 3 1 (.slice A7 j cp) j ((intsN U).map (Value.int .i64)) ∧ Below w.heap.size w W ∧ wz.heap.size < W.heap.size) (fun _ s8 _ => (intOf s8 + 1).toNat)
      case atStart => exact ⟨0, _, wz.heap.size, 1, by omega, by simp, rfl, rfl, Nat.le_refl _, HRO.out, HRU.out, HBO.out, by omega⟩
      case round =>
        obtain ⟨q, i, g9, cq, hq, hi, rfl, rfl, hg9, how2, hrow, hb2, hwz⟩ := hrel
        have HI := Lib.hid hi
        have HOW2 := Lib.hid how2
        have HROW := Lib.hid hrow
        have HB2 := Lib.hid hb2
        have hsz2 := hb2.size
        by_cases hqj : q < j
        · obtain ⟨t', ht'⟩ : ∃ t' : Nat, i = (t' : Int) := ⟨i.toNat, by omega⟩
          subst ht'
          have htj : t' = j - 1 - q := by omega
          have htI : (t' : Int) < (j : Int) := by omega
          have ht0 : (0 : Int) ≤ (t' : Int) := by omega
          obtain ⟨e, he⟩ : ∃ e, (intsN U)[t']? = some e := ⟨(intsN U)[t']'(by have := HJ.out; unfold intsN; rw [List.length_map]; omega), List.getElem?_eq_getElem _⟩
          obtain ⟨g, cp', hv, hg, hgl⟩ := hrow.form (by omega)
          have hA : A7 = some ⟨g, 0, none⟩ := by injection hv
          subst hA
          have y0 : wr.cell? ⟨g, t', none⟩ = some (.int .i64 e) := (hrow.cellAt t' (by omega)).trans (by rw [List.getElem?_map, he]; rfl)
          have hgW : g < wr.heap.size := by omega
          have HTK : Hid ((intsN U).reverse.take (q + 1) = (intsN U).reverse.take q ++ [e]) := Lib.hid (by
            have hjl' : (intsN U).length = j := by rw [HJ.out]; simp [intsN]
            rw [List.take_add_one, List.getElem?_reverse (by omega), hjl', show j - 1 - q = t' by omega, he]; rfl)
          clear he htj hi how2 hb2 hrow hv
          go_wp2_with (at_builtin; refine wpList_append_lies _ rfl (.tmp 31) (.tmp 36) 23 rfl w.heap.size 3 i1 _ 1 8 Try.underlying23 hi1 hy0 hy1 hy2 rfl (by decide) (.slice (some ⟨g9, 0, none⟩) (q + 1) cq) (q + 1) ((0 :: (intsN U).reverse.take q).map (Value.int .i64)) rfl (HOW2.out.alloc _) ⟨wr.heap.size, 0, none⟩ 1 1 [.int .i64 e] rfl rfl (World.news_of_block (cs := #[.int .i64 e]) (t := 3) (fr := (0, 0)) (heap_alloc_new wr _)) (by simp [Value.oneCell']) (by omega) (by unfold maxLen; omega) (by omega) (by simp; omega) (wr.heap.size + 1) (by simp) ?_)
          intro g2 cap2 W6 hown6 hgrow6 hat6 hlt6
          have hb6 : Below w.heap.size w W6 := (HB2.out.alloc hsz2 _).grown hgrow6 (by simp; omega) (fun k' e => by have := (HOW2.out.lt k' e).1; omega)
          have HB6 := Lib.hid hb6
          have HO6 : Hid (W6.ownsRow w.heap.size 3 1 (.slice (some ⟨g2, 0, none⟩) (q + 1 + 1) cap2) (q + 1 + 1) ((0 :: (intsN U).reverse.take (q + 1)).map (Value.int .i64))) := Lib.hid (by rw [HTK.out]; simpa using hown6)
          have HR6 : Hid (W6.ownsRow w.heap.size 3 1 (.slice (some ⟨g, 0, none⟩) j cp) j ((intsN U).map (Value.int .i64))) := Lib.hid ((HROW.out.alloc _).kept hgrow6 (Or.inr fun e1 => by
            have h1 := HSEP.out g rfl
            have h2 : g = g9 := by simpa [Value.ownBlock] using e1
            omega))
          have hz6 : wz.heap.size < W6.heap.size := by have := hgrow6.size; simp at this; omega
          have hg2 : wz.heap.size ≤ g2 := by
            rcases hat6 with h1 | h1
            · have : g9 = g2 := by simpa [Value.ownBlock] using h1
              omega
            · omega
          clear hown6 hgrow6 hat6 hlt6 hb6 y0
          go_wp2_with fail
          go_roundw
          case rel =>
            exact ⟨q + 1, (t' : Int) - 1, g2, cap2, by omega, by have := HI.out; omega, by go_num, rfl, hg2, HO6.out, HR6.out, HB6.out, hz6⟩
          case measure => simp [intOf]
        · have hqe : q = j := by omega
          subst hqe
          have hi1' : i = -1 := by omega
          subst hi1'
          have hml : (pathL h leaf).length = m := by rw [HPL.out, HMU.out]; simp [intsN]
          have hqm : q + 1 = m := by rw [HMU.out, ← HJ.out]
          subst hqm
          have HML := Lib.hid hml
          clear hi how2 hb2 hrow hml
          go_wp2_with fail
          go_ret
          refine ⟨⟨g9, cq, rfl, ?_⟩, HB2.out⟩
          have h1 := HOW2.out
          rw [List.take_of_length_le (by rw [List.length_reverse, HJ.out]; simp [intsN]), ← HPL.out] at h1
          exact ORow.of h1 HML.out
end Go.Proofs.Ytmlgbmfjnbhamaa
