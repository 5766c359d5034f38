/- Both Paths. -/
import Derived.Test.YtmlgbmfjnbhamaaRevU
import Derived.Test.YtmlgbmfjnbhamaaTlF
namespace Go.Proofs.Ytmlgbmfjnbhamaa
open Go.RowKit
set_option maxRecDepth 100000
/-- A node's way up, the root left out. -/
def upF : Nat → Nat → List Nat
  | 0, _ => []
  | f + 1, v => if v = 0 then [] else v :: upF f ((v - 1) / 2)
def intsN (l : List Nat) : List Int := l.map fun t : Nat => (t : Int)
theorem upF_len : ∀ f v, (upF f v).length ≤ f
  | 0, v => by simp [upF]
  | f + 1, v => by
    unfold upF
    split
    · simp
    · have := upF_len f ((v - 1) / 2); simp; omega
theorem upF_full : ∀ f v, v + 2 ≤ 2 ^ (f + 1) → 2 ^ f ≤ v + 1 → (upF f v).length = f
  | 0, v, _, _ => rfl
  | f + 1, v, h1, h2 => by
    rw [Nat.pow_succ] at h1 h2
    unfold upF
    have hp : 1 ≤ 2 ^ f := Nat.one_le_two_pow
    rw [if_neg (by omega), List.length_cons, upF_full f ((v - 1) / 2) (by omega) (by omega)]
theorem upF_zero (f : Nat) : upF f 0 = [] := by cases f <;> simp [upF]
theorem upF_step {f v : Nat} (h : v + 1 ≤ 2 ^ f) (hv : 0 < v) : ∃ f', f = f' + 1 ∧ upF f v = v :: upF f' ((v - 1) / 2) ∧ (v - 1) / 2 + 1 ≤ 2 ^ f' := by
  cases f with
  | zero => simp at h; omega
  | succ f =>
    refine ⟨f, rfl, ?_, ?_⟩
    · show (if v = 0 then [] else _) = _
      rw [if_neg (by omega)]
    · rw [Nat.pow_succ] at h; omega
/-- The nodes from the root to a leaf. -/
def pathL (h leaf : Nat) : List Int := 0 :: (intsN (upF h (2 ^ (h - 1) - 1 + leaf))).reverse
theorem pathL_len (h leaf : Nat) : (pathL h leaf).length ≤ h + 1 := by
  unfold pathL intsN
  have := upF_len h (2 ^ (h - 1) - 1 + leaf)
  simp
  exact this
set_option maxHeartbeats 8000000 in
theorem path_yes (h leaf m : Nat) (w : World) (hh : 1 ≤ h ∧ h ≤ 16) (hl : leaf < 2 ^ (h - 1)) (hm : m = (pathL h leaf).length) : Calls Try.prog 13 #[.int .i64 (h : Int), .int .i64 (leaf : Int)] w fun e w' => (∃ g cp, e = .returned (.tuple #[.slice (some ⟨g, 0, none⟩) m cp, .int .i64 0]) ∧ ORow w.heap.size w' (some ⟨g, 0, none⟩) cp (pathL h leaf)) ∧ Below w.heap.size w w' := by
  have HH := Lib.hid (isHeight_any (h : Int) w true (by simp; omega))
  obtain ⟨t, ht⟩ : ∃ t, t = h - 1 := ⟨_, rfl⟩
  have hht : (h : Int) - 1 = (t : Int) := by omega
  rw [← ht] at hl
  obtain ⟨M, hM⟩ : ∃ M, M = 2 ^ t := ⟨_, rfl⟩
  have hM2 : M ≤ 32768 := by rw [hM]; exact Nat.le_trans (Nat.pow_le_pow_right (by omega) (show t ≤ 15 by omega)) (by decide)
  have hsh : (2 : Int) ^ t = (M : Int) := by rw [hM]; push_cast; rfl
  have hMh : 2 ^ h = M * 2 := by rw [hM, ← Nat.pow_succ]; congr 1; omega
  rw [← hM] at hl
  obtain ⟨x0, hx0⟩ : ∃ x0, x0 = M - 1 + leaf := ⟨_, rfl⟩
  have hx0I : (M : Int) - 1 + (leaf : Int) = (x0 : Int) := by omega
  obtain ⟨U, hU⟩ : ∃ U, U = upF h x0 := ⟨_, rfl⟩
  have hpl : pathL h leaf = 0 :: (intsN U).reverse := by unfold pathL; rw [← ht, ← hM, ← hx0, ← hU]
  have hxf : x0 + 1 ≤ 2 ^ h := by rw [hMh]; omega
  have hUl : U.length ≤ 16 := by rw [hU]; have := upF_len h x0; omega
  have hmU : m = U.length + 1 := by rw [hm, hpl]; simp [intsN]
  obtain ⟨i1, hi1, hy0, hy1, hy2⟩ := info_parts Try.infoInt
  have d1 : decide ((leaf : Int) < 0) = false := decide_eq_false (by omega)
  have d2 : decide ((M : Int) ≤ (leaf : Int)) = false := decide_eq_false (by omega)
  have d3 : decide (M ≤ leaf) = false := decide_eq_false (by omega)
  have HU := Lib.hid hU
  have HPL := Lib.hid hpl
  have HXF := Lib.hid hxf
  have HMU := Lib.hid hmU
  have hx0l : x0 ≤ 70000 := by omega
  have ht15 : t ≤ 15 := by omega
  clear hm hpl hU hMh hxf hmU hx0 ht
  have HMM := Lib.hid hM
  clear hM
  go_enter Try.func13, Try.ntmps13
  go_wp2_with fail
  refine HH.out.mono ?_
  rintro er w1 ⟨rfl, rfl⟩
  go_wp2_with fail
  go_loopw [6, 7] (fun s6 s7 wr => ∃ (x f j cp : Nat) (dn : List Nat) (A7 : Option Addr), U = dn ++ upF f x ∧ x + 1 ≤ 2 ^ f ∧ x ≤ 70000 ∧ s7 = .int .i64 x ∧ j = dn.length ∧ s6 = .slice A7 j cp ∧ wr.ownsRow w.heap.size 3 1 (.slice A7 j cp) j ((intsN dn).map (Value.int .i64)) ∧ Below w.heap.size w wr) (fun _ s7 _ => (intOf s7).toNat)
  case atStart => exact ⟨x0, h, 0, 0, [], none, HU.out, HXF.out, hx0l, rfl, rfl, rfl, World.ownsRow_nil _ _ _ _, Below.refl _ _⟩
  case round =>
    obtain ⟨x, f, j, cp, dn, A7, hl2, hxf, hxl, rfl, hj, rfl, how, hb⟩ := hrel
    have HOW := Lib.hid how
    have HB := Lib.hid hb
    have HL := Lib.hid hl2
    have HJ := Lib.hid hj
    have hsz := hb.size
    have hjl : j ≤ 16 := by rw [hl2, List.length_append] at hUl; omega
    by_cases hx : 0 < x
    · obtain ⟨f', hf', hup, hlt⟩ := upF_step hxf hx
      have d4 : decide ((0 : Int) < (x : Int)) = true := decide_eq_true (by omega)
      obtain ⟨y, hy⟩ : ∃ y, y = (x - 1) / 2 := ⟨_, rfl⟩
      rw [← hy] at hup hlt
      have hyx : y < x := by omega
      have hyI : ((x : Int) - 1).tdiv 2 = (y : Int) := by rw [Int.tdiv_eq_ediv_of_nonneg (by omega)]; omega
      have HUP := Lib.hid hup
      have HLT := Lib.hid hlt
      clear hl2 hxf hj how hb hf' hup hlt hy
      go_wp2_with (at_builtin; refine wpList_append_lies _ rfl (.tmp 33) (.tmp 35) 23 rfl w.heap.size 3 i1 _ 1 8 Try.underlying23 hi1 hy0 hy1 hy2 rfl (by decide) (.slice A7 j cp) j ((intsN dn).map (Value.int .i64)) rfl (HOW.out.alloc _) ⟨wr.heap.size, 0, none⟩ 1 1 [.int .i64 (x : Int)] rfl rfl (World.news_of_block (cs := #[.int .i64 (x : Int)]) (t := 3) (fr := (0, 0)) (heap_alloc_new wr _)) (by simp [Value.oneCell']) (by omega) (by unfold maxLen; omega) (by omega) (by simp; omega) (wr.heap.size + 1) (by simp) ?_)
      intro g2 cap2 W6 hown6 hgrow6 hat6 hlt6
      have hb6 : Below w.heap.size w W6 := (HB.out.alloc hsz _).grown hgrow6 (by simp; omega) (fun k' e => by have := (HOW.out.lt k' e).1; omega)
      have HB6 := Lib.hid hb6
      have HO6 : Hid (W6.ownsRow w.heap.size 3 1 (.slice (some ⟨g2, 0, none⟩) (j + 1) cap2) (j + 1) ((intsN (dn ++ [x])).map (Value.int .i64))) := Lib.hid (by simpa [intsN] using hown6)
      clear hown6 hgrow6 hat6 hlt6 hb6
      go_wp2_with fail
      go_roundw
      case rel => exact ⟨y, f', j + 1, cap2, dn ++ [x], some ⟨g2, 0, none⟩, by rw [List.append_assoc]; exact HL.out.trans (by rw [HUP.out]; rfl), HLT.out, by omega, by go_num, by rw [List.length_append, ← HJ.out]; rfl, rfl, HO6.out, HB6.out⟩
      case measure => simp [intOf]; omega
    · obtain rfl : x = 0 := by omega
      rw [upF_zero, List.append_nil] at hl2
      subst hl2
      clear hxf hj how hb HL
      go_wp2_with (at_builtin; refine wpList_append_lies _ rfl (.tmp 37) (.tmp 38) 23 rfl w.heap.size 3 i1 _ 1 8 Try.underlying23 hi1 hy0 hy1 hy2 rfl (by decide) (.slice A7 j cp) j ((intsN U).map (Value.int .i64)) rfl (HOW.out.alloc _) ⟨wr.heap.size, 0, none⟩ 1 1 [.int .i64 0] rfl rfl (World.news_of_block (cs := #[.int .i64 0]) (t := 3) (fr := (0, 0)) (heap_alloc_new wr _)) (by simp [Value.oneCell']) (by omega) (by unfold maxLen; omega) (by omega) (by simp; omega) (wr.heap.size + 1) (by simp) ?_)
      intro g2 cap2 W6 hown6 hgrow6 hat6 hlt6
      have hb6 : Below w.heap.size w W6 := (HB.out.alloc hsz _).grown hgrow6 (by simp; omega) (fun k' e => by have := (HOW.out.lt k' e).1; omega)
      have HB6 := Lib.hid hb6
      have hjm : j + 1 = m := by rw [HMU.out, ← HJ.out]
      have HR := Lib.hid (reverse_any w.heap.size g2 (j + 1) cap2 ((intsN U ++ [0]).map (Value.int .i64)) (intsN U ++ [0]) rfl W6 (by omega) (by simpa using hown6) (by omega))
      have hfin : ((intsN U ++ [0]).map (Value.int .i64)).reverse = (pathL h leaf).map (Value.int .i64) := by rw [HPL.out]; simp
      rw [hfin] at HR
      have hml : (pathL h leaf).length = m := by rw [HPL.out, HMU.out]; simp [intsN]
      subst hjm
      have HML := Lib.hid hml
      clear hown6 hgrow6 hat6 hlt6 hb6 hfin hml
      go_wp2_with fail
      refine HR.out.mono ?_
      rintro er w9 ⟨rfl, hr9, hb9⟩
      have HR9 := Lib.hid hr9
      have HB9 := Lib.hid hb9
      clear hr9 hb9
      go_wp2_with fail
      go_ret2
      exact ⟨⟨g2, cap2, rfl, ORow.of HR9.out HML.out⟩, HB6.out.trans HB9.out⟩
end Go.Proofs.Ytmlgbmfjnbhamaa
