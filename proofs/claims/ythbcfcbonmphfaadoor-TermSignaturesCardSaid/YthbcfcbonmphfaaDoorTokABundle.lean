/- Walks of the reference: move, Number, classify, symbol. -/
import Derived.Test.YthbcfcbonmphfaaDoorTermBBundle
import Derived.Test.YthbcfcbonmphfaaDoorLexEBundle
import Derived.Test.YthbcfcbonmphfaaDoorPlacSBundle
namespace Go.Proofs.YthbcfcbonmphfaaDoor
set_option maxRecDepth 100000
open Go.RowKit

set_option maxHeartbeats 400000 in
theorem move_nl (x y : Int) (w : World) (hx0 : 0 ≤ x) (hx : x ≤ 1000000000) :
    Calls Tryd.prog 64 #[.agg #[.int .i64 x, .int .i64 y], .int .u8 10] w fun e w' => e = .returned (.agg #[.int .i64 (x + 1), .int .i64 1]) ∧ Below w.heap.size w w' := by
  go_enter Tryd.func64, Tryd.ntmps64
  go_wp2
  exact bodyPost_ret (v := .agg #[.int .i64 (x + 1), .int .i64 1]) (by simp [results, Tryd.results64, go_sem]) rfl ⟨rfl, ((Below.refl _ _).alloc (Nat.le_refl _) _).alloc (by simp) _⟩
set_option maxHeartbeats 400000 in
theorem move_no (x y c : Int) (w : World) (hy0 : 0 ≤ y) (hy : y ≤ 1000000000) (hc : (c == 10) = false) :
    Calls Tryd.prog 64 #[.agg #[.int .i64 x, .int .i64 y], .int .u8 c] w fun e w' => e = .returned (.agg #[.int .i64 x, .int .i64 (y + 1)]) ∧ Below w.heap.size w w' := by
  go_enter Tryd.func64, Tryd.ntmps64
  go_wp2
  exact bodyPost_ret (v := .agg #[.int .i64 x, .int .i64 (y + 1)]) (by simp [results, Tryd.results64, go_sem]) rfl ⟨rfl, ((Below.refl _ _).alloc (Nat.le_refl _) _).alloc (by simp) _⟩

set_option maxHeartbeats 400000 in
theorem refNumber_lead (s : ByteArray) (w : World) (h1 : 1 < s.size) (h48 : ((s[0].toNat : Int) == 48) = true) :
    Calls Tryd.prog 116 #[.string s] w fun e w' => e = .returned (.tuple #[.int .i64 0, .bool false]) ∧ w = w' := by
  have hI : ((s.size : Int) == 0) = false := beq_eq_false_iff_ne.2 (by omega)
  have h1I : (1 : Int) < (s.size : Int) := by omega
  go_enter Tryd.func116, Tryd.ntmps116
  go_wp2
  go_ret2
  exact ⟨rfl, rfl⟩
set_option maxHeartbeats 400000 in
theorem refNumber_go (s : ByteArray) (w : World) (hs : s.size ≤ maxLen) (h0 : 0 < s.size) (h1 : ¬ (1 < s.size ∧ ∃ h : 0 < s.size, (s[0].toNat : Int) = 48)) :
    Calls Tryd.prog 116 #[.string s] w fun e w' => e = .returned (.tuple #[.int .i64 ((numGo s.data.toList 0).getD 0), .bool (numGo s.data.toList 0).isSome]) ∧ w = w' := by
  unfold maxLen at hs
  have hI : ((s.size : Int) == 0) = false := beq_eq_false_iff_ne.2 (by omega)
  have hc : s.size = 1 ∨ ∃ h : 0 < s.size, (1 : Int) < (s.size : Int) ∧ ((s[0].toNat : Int) == 48) = false := by
    by_cases h2 : 1 < s.size
    · exact Or.inr ⟨by omega, by omega, by simp; intro e; exact h1 ⟨h2, by omega, by omega⟩⟩
    · exact Or.inl (by omega)
  clear h1
  rcases hc with hc | ⟨_, hc, hc2⟩
  · have hcI : ¬ (1 : Int) < (s.size : Int) := by omega
    have HC := Lib.hid hc
    clear hc
    go_enter Tryd.func116, Tryd.ntmps116
    go_wp2
    go_loop [4, 5] (fun n i => ∃ k m : Nat, k ≤ s.size ∧ m ≤ 1099511627776 ∧ n = .int .i64 m ∧ i = .int .i64 k ∧ numGo s.data.toList 0 = numGo (s.data.toList.drop k) m) (fun _ i => s.size - (intOf i).toNat)
    case atStart => exact ⟨0, 0, Nat.zero_le _, by omega, rfl, rfl, rfl⟩
    case round =>
      obtain ⟨k, m, hk, hm, rfl, rfl, hnum⟩ := hrel
      have HA := Lib.hid hnum
      clear hnum
      by_cases hlt : k < s.size
      · go_wp2_with (go_at_call 109; refine (digit_any _ _).mono ?_; rintro e w' ⟨rfl, rfl⟩)
        · go_ret2
          have h5 : (!decide (cls (s[k].toNat : Int) = 5)) = true := by assumption
          exact ⟨by rw [HA.out, numGo_no s k m hlt (by simpa using h5)]; rfl, rfl⟩
        · go_ret2
          have h5 : (!decide (cls (s[k].toNat : Int) = 5)) = false := by assumption
          have hb : 1099511627776 < (m : Int) * 10 + ((s[k].toNat : Int) - 48) % 256 := by assumption
          exact ⟨by rw [HA.out, numGo_big s k m hlt (digit_big s[k] m (by simpa using h5) (by omega))]; rfl, rfl⟩
        · have h5 : (!decide (cls (s[k].toNat : Int) = 5)) = false := by assumption
          have hb : (m : Int) * 10 + ((s[k].toNat : Int) - 48) % 256 ≤ 1099511627776 := by assumption
          have D := digit_fits s[k] m (by simpa using h5) (by omega)
          have HD := Lib.hid D
          have HE := Lib.hid (show (m : Int) * 10 + ((s[k].toNat : Int) - 48) % 256 = ((10 * m + (s[k].toNat - 48) : Nat) : Int) from by rw [← D.2.2]; omega)
          clear D
          go_round
          case rel => exact ⟨k + 1, _, by omega, HD.out.2.1, congrArg _ HE.out, by go_num, by rw [HA.out]; exact numGo_step s k m hlt HD.out.1 HD.out.2.1⟩
          case measure => simp [intOf]; omega
      · go_wp2
        go_ret2
        have : k = s.size := by omega
        subst this
        exact ⟨by rw [HA.out, numGo_end]; rfl, rfl⟩
  · go_enter Tryd.func116, Tryd.ntmps116
    go_wp2
    go_loop [4, 5] (fun n i => ∃ k m : Nat, k ≤ s.size ∧ m ≤ 1099511627776 ∧ n = .int .i64 m ∧ i = .int .i64 k ∧ numGo s.data.toList 0 = numGo (s.data.toList.drop k) m) (fun _ i => s.size - (intOf i).toNat)
    case atStart => exact ⟨0, 0, Nat.zero_le _, by omega, rfl, rfl, rfl⟩
    case round =>
      obtain ⟨k, m, hk, hm, rfl, rfl, hnum⟩ := hrel
      have HA := Lib.hid hnum
      clear hnum
      by_cases hlt : k < s.size
      · go_wp2_with (go_at_call 109; refine (digit_any _ _).mono ?_; rintro e w' ⟨rfl, rfl⟩)
        · go_ret2
          have h5 : (!decide (cls (s[k].toNat : Int) = 5)) = true := by assumption
          exact ⟨by rw [HA.out, numGo_no s k m hlt (by simpa using h5)]; rfl, rfl⟩
        · go_ret2
          have h5 : (!decide (cls (s[k].toNat : Int) = 5)) = false := by assumption
          have hb : 1099511627776 < (m : Int) * 10 + ((s[k].toNat : Int) - 48) % 256 := by assumption
          exact ⟨by rw [HA.out, numGo_big s k m hlt (digit_big s[k] m (by simpa using h5) (by omega))]; rfl, rfl⟩
        · have h5 : (!decide (cls (s[k].toNat : Int) = 5)) = false := by assumption
          have hb : (m : Int) * 10 + ((s[k].toNat : Int) - 48) % 256 ≤ 1099511627776 := by assumption
          have D := digit_fits s[k] m (by simpa using h5) (by omega)
          have HD := Lib.hid D
          have HE := Lib.hid (show (m : Int) * 10 + ((s[k].toNat : Int) - 48) % 256 = ((10 * m + (s[k].toNat - 48) : Nat) : Int) from by rw [← D.2.2]; omega)
          clear D
          go_round
          case rel => exact ⟨k + 1, _, by omega, HD.out.2.1, congrArg _ HE.out, by go_num, by rw [HA.out]; exact numGo_step s k m hlt HD.out.1 HD.out.2.1⟩
          case measure => simp [intOf]; omega
      · go_wp2
        go_ret2
        have : k = s.size := by omega
        subst this
        exact ⟨by rw [HA.out, numGo_end]; rfl, rfl⟩
theorem refNumber_any (s : ByteArray) (w : World) (hs : s.size ≤ maxLen) (h0 : 0 < s.size) : Calls Tryd.prog 116 #[.string s] w fun e w' => e = .returned (numVal s.data.toList) ∧ w = w' := by
  unfold numVal
  by_cases h : 1 < s.size ∧ ∃ h : 0 < s.size, (s[0].toNat : Int) = 48
  · obtain ⟨h1, h2, h48⟩ := h
    rw [number_lead s h1 h48]
    exact refNumber_lead s w h1 (by simpa using h48)
  · rw [number_go s h]
    exact refNumber_go s w hs h0 h

/-- What the reference's classify hands back. -/
def rcV (l : List UInt8) (x y : Int) : Value := match wordTok l with
  | some u => .tuple #[.agg #[.int .i64 u.1, .string ⟨u.2.1.toArray⟩, .int .i64 u.2.2, .int .i64 x, .int .i64 y], .bool true]
  | none => .tuple #[.agg #[.int .i64 2, .string ⟨#[]⟩, .int .i64 0, .int .i64 x, .int .i64 y], .bool false]
theorem box_kept {w w1 : World} {o1 o2 : Obj} (hb : Below ((w.alloc o1).alloc o2).heap.size ((w.alloc o1).alloc o2) w1) : w1.heap[w.heap.size]? = some o1 ∧ w1.heap[w.heap.size + 1]? = some o2 ∧ Below w.heap.size w w1 := by
  have e : (w.alloc o1).heap.size = w.heap.size + 1 := by simp
  refine ⟨?_, ?_, (((Below.refl _ _).alloc (Nat.le_refl _) _).alloc (by simp) _).trans (hb.mono (by simp; omega))⟩
  · rw [hb.block _ (by simp; omega), Below.heap_alloc _ _ _ (by simp)]; exact heap_alloc_new w o1
  · rw [hb.block _ (by simp), ← e]; exact heap_alloc_new _ o2
theorem refNumber_some (s : ByteArray) (m : Nat) (w : World) (hs : s.size ≤ maxLen) (h0 : 0 < s.size) (h : number s.data.toList = some m) : Calls Tryd.prog 116 #[.string s] w fun e w' => e = .returned (.tuple #[.int .i64 m, .bool true]) ∧ w = w' :=
  (refNumber_any s w hs h0).mono fun _ _ ⟨he, hw⟩ => ⟨by rw [he]; unfold numVal; rw [h]; rfl, hw⟩
theorem refNumber_none (s : ByteArray) (w : World) (hs : s.size ≤ maxLen) (h0 : 0 < s.size) (h : number s.data.toList = none) : Calls Tryd.prog 116 #[.string s] w fun e w' => e = .returned (.tuple #[.int .i64 0, .bool false]) ∧ w = w' :=
  (refNumber_any s w hs h0).mono fun _ _ ⟨he, hw⟩ => ⟨by rw [he]; unfold numVal; rw [h]; rfl, hw⟩
theorem rcV_kw (s : ByteArray) (x y : Int) (h : isKw s.toList = true) : rcV s.data.toList x y = .tuple #[.agg #[.int .i64 3, .string s, .int .i64 0, .int .i64 x, .int .i64 y], .bool true] := by
  rw [Lib.toList_data] at h; unfold rcV wordTok; rw [if_pos h]
theorem rcV_name (s : ByteArray) (x y : Int) (h : isKw s.toList = false) (h2 : isName s.toList = true) : rcV s.data.toList x y = .tuple #[.agg #[.int .i64 1, .string s, .int .i64 0, .int .i64 x, .int .i64 y], .bool true] := by
  rw [Lib.toList_data] at h h2; unfold rcV wordTok; rw [if_neg (by rw [h]; exact Bool.false_ne_true), if_pos h2]
theorem rcV_num (s : ByteArray) (x y : Int) (m : Nat) (h : isKw s.toList = false) (h2 : isName s.toList = false) (h3 : number s.data.toList = some m) : rcV s.data.toList x y = .tuple #[.agg #[.int .i64 2, .string ⟨#[]⟩, .int .i64 m, .int .i64 x, .int .i64 y], .bool true] := by
  rw [Lib.toList_data] at h h2; unfold rcV wordTok; rw [if_neg (by rw [h]; exact Bool.false_ne_true), if_neg (by rw [h2]; exact Bool.false_ne_true), h3]; rfl
theorem rcV_none (s : ByteArray) (x y : Int) (h : isKw s.toList = false) (h2 : isName s.toList = false) (h3 : number s.data.toList = none) : rcV s.data.toList x y = .tuple #[.agg #[.int .i64 2, .string ⟨#[]⟩, .int .i64 0, .int .i64 x, .int .i64 y], .bool false] := by
  rw [Lib.toList_data] at h h2; unfold rcV wordTok; rw [if_neg (by rw [h]; exact Bool.false_ne_true), if_neg (by rw [h2]; exact Bool.false_ne_true), h3]; rfl

set_option maxRecDepth 100000 in
set_option maxHeartbeats 1000000 in
theorem refClassify_any (s : ByteArray) (x y : Int) (w : World) (hs : s.size ≤ maxLen) (h0 : 0 < s.size) :
    Calls Tryd.prog 65 #[.string s, .agg #[.int .i64 x, .int .i64 y]] w fun e w' => e = .returned (rcV s.data.toList x y) ∧ Below w.heap.size w w' := by
  have HS := Lib.hid hs
  have H0 := Lib.hid h0
  clear hs h0
  cases hk : isKw s.toList
  · cases hn : isName s.toList
    · cases hm : number s.data.toList with
      | none =>
        have E := Lib.hid (rcV_none s x y hk hn hm)
        have HM := Lib.hid hm
        clear hm
        go_enter Tryd.func65, Tryd.ntmps65
        go_wp2_with (first | (go_at_call 17; refine (refIsKw_any _ _).mono ?_; rintro e w1 ⟨rfl, hb1⟩; obtain ⟨r1, r2, hB1⟩ := box_kept hb1; obtain ⟨⟨a0, a1⟩, _, _⟩ := blk2 r1; obtain ⟨⟨z0, z1, z2, z3, z4⟩, f0, f1, f2, f3, f4⟩ := blk5 r2; have HR1 := Lib.hid r1; have HR2 := Lib.hid r2; have HB1 := Lib.hid hB1; clear r1 r2 hb1 hB1) | (go_at_call 15; refine (refIsName_any _ _ HS.out).mono ?_; rintro e w2 ⟨rfl, hb2⟩; obtain ⟨⟨b0, b1⟩, _, _⟩ := blk2 ((hb2.block _ (by have := HR1.out; exact (Array.getElem?_eq_some_iff.1 this).1)).trans HR1.out); obtain ⟨⟨y0, y1, y2, y3, y4⟩, g0, g1, g2, g3, g4⟩ := blk5 ((hb2.block _ (by have := HR2.out; exact (Array.getElem?_eq_some_iff.1 this).1)).trans HR2.out); have HB2 := Lib.hid (HB1.out.trans (hb2.mono HB1.out.size)); clear hb2) | (go_at_call 116; refine (refNumber_none _ _ HS.out H0.out HM.out).mono ?_; rintro e w3 ⟨rfl, rfl⟩))
        refine bodyPost_ret (v := .tuple #[.agg #[.int .i64 2, .string ⟨#[]⟩, .int .i64 0, .int .i64 x, .int .i64 y], .bool false]) (by simp [results, Tryd.results65, go_sem, *]) rfl ⟨by rw [E.out], ?_⟩
        first | exact below_set5 HB2.out (by omega) _ _ _ _ _ | exact below_set5 HB1.out (by omega) _ _ _ _ _
      | some m =>
        have E := Lib.hid (rcV_num s x y m hk hn hm)
        have HM := Lib.hid hm
        clear hm
        go_enter Tryd.func65, Tryd.ntmps65
        go_wp2_with (first | (go_at_call 17; refine (refIsKw_any _ _).mono ?_; rintro e w1 ⟨rfl, hb1⟩; obtain ⟨r1, r2, hB1⟩ := box_kept hb1; obtain ⟨⟨a0, a1⟩, _, _⟩ := blk2 r1; obtain ⟨⟨z0, z1, z2, z3, z4⟩, f0, f1, f2, f3, f4⟩ := blk5 r2; have HR1 := Lib.hid r1; have HR2 := Lib.hid r2; have HB1 := Lib.hid hB1; clear r1 r2 hb1 hB1) | (go_at_call 15; refine (refIsName_any _ _ HS.out).mono ?_; rintro e w2 ⟨rfl, hb2⟩; obtain ⟨⟨b0, b1⟩, _, _⟩ := blk2 ((hb2.block _ (by have := HR1.out; exact (Array.getElem?_eq_some_iff.1 this).1)).trans HR1.out); obtain ⟨⟨y0, y1, y2, y3, y4⟩, g0, g1, g2, g3, g4⟩ := blk5 ((hb2.block _ (by have := HR2.out; exact (Array.getElem?_eq_some_iff.1 this).1)).trans HR2.out); have HB2 := Lib.hid (HB1.out.trans (hb2.mono HB1.out.size)); clear hb2) | (go_at_call 116; refine (refNumber_some _ m _ HS.out H0.out HM.out).mono ?_; rintro e w3 ⟨rfl, rfl⟩))
        refine bodyPost_ret (v := .tuple #[.agg #[.int .i64 2, .string ⟨#[]⟩, .int .i64 m, .int .i64 x, .int .i64 y], .bool true]) (by simp [results, Tryd.results65, go_sem, *]) rfl ⟨by rw [E.out], ?_⟩
        first | exact below_set5 HB2.out (by omega) _ _ _ _ _ | exact below_set5 HB1.out (by omega) _ _ _ _ _
    · have E := Lib.hid (rcV_name s x y hk hn)
      go_enter Tryd.func65, Tryd.ntmps65
      go_wp2_with (first | (go_at_call 17; refine (refIsKw_any _ _).mono ?_; rintro e w1 ⟨rfl, hb1⟩; obtain ⟨r1, r2, hB1⟩ := box_kept hb1; obtain ⟨⟨a0, a1⟩, _, _⟩ := blk2 r1; obtain ⟨⟨z0, z1, z2, z3, z4⟩, f0, f1, f2, f3, f4⟩ := blk5 r2; have HR1 := Lib.hid r1; have HR2 := Lib.hid r2; have HB1 := Lib.hid hB1; clear r1 r2 hb1 hB1) | (go_at_call 15; refine (refIsName_any _ _ HS.out).mono ?_; rintro e w2 ⟨rfl, hb2⟩; obtain ⟨⟨b0, b1⟩, _, _⟩ := blk2 ((hb2.block _ (by have := HR1.out; exact (Array.getElem?_eq_some_iff.1 this).1)).trans HR1.out); obtain ⟨⟨y0, y1, y2, y3, y4⟩, g0, g1, g2, g3, g4⟩ := blk5 ((hb2.block _ (by have := HR2.out; exact (Array.getElem?_eq_some_iff.1 this).1)).trans HR2.out); have HB2 := Lib.hid (HB1.out.trans (hb2.mono HB1.out.size)); clear hb2) | (go_at_call 116; refine (refNumber_none _ _ HS.out H0.out HM.out).mono ?_; rintro e w3 ⟨rfl, rfl⟩))
      refine bodyPost_ret (v := .tuple #[.agg #[.int .i64 1, .string s, .int .i64 0, .int .i64 x, .int .i64 y], .bool true]) (by simp [results, Tryd.results65, go_sem, *]) rfl ⟨by rw [E.out], ?_⟩
      first | exact below_set5 HB2.out (by omega) _ _ _ _ _ | exact below_set5 HB1.out (by omega) _ _ _ _ _
  · have E := Lib.hid (rcV_kw s x y hk)
    go_enter Tryd.func65, Tryd.ntmps65
    go_wp2_with (first | (go_at_call 17; refine (refIsKw_any _ _).mono ?_; rintro e w1 ⟨rfl, hb1⟩; obtain ⟨r1, r2, hB1⟩ := box_kept hb1; obtain ⟨⟨a0, a1⟩, _, _⟩ := blk2 r1; obtain ⟨⟨z0, z1, z2, z3, z4⟩, f0, f1, f2, f3, f4⟩ := blk5 r2; have HR1 := Lib.hid r1; have HR2 := Lib.hid r2; have HB1 := Lib.hid hB1; clear r1 r2 hb1 hB1) | (go_at_call 15; refine (refIsName_any _ _ HS.out).mono ?_; rintro e w2 ⟨rfl, hb2⟩; obtain ⟨⟨b0, b1⟩, _, _⟩ := blk2 ((hb2.block _ (by have := HR1.out; exact (Array.getElem?_eq_some_iff.1 this).1)).trans HR1.out); obtain ⟨⟨y0, y1, y2, y3, y4⟩, g0, g1, g2, g3, g4⟩ := blk5 ((hb2.block _ (by have := HR2.out; exact (Array.getElem?_eq_some_iff.1 this).1)).trans HR2.out); have HB2 := Lib.hid (HB1.out.trans (hb2.mono HB1.out.size)); clear hb2) | (go_at_call 116; refine (refNumber_none _ _ HS.out H0.out HM.out).mono ?_; rintro e w3 ⟨rfl, rfl⟩))
    refine bodyPost_ret (v := .tuple #[.agg #[.int .i64 3, .string s, .int .i64 0, .int .i64 x, .int .i64 y], .bool true]) (by simp [results, Tryd.results65, go_sem, *]) rfl ⟨by rw [E.out], ?_⟩
    first | exact below_set5 HB2.out (by omega) _ _ _ _ _ | exact below_set5 HB1.out (by omega) _ _ _ _ _

/-- No symbol of the first k stands at the beginning. -/
def NoPre (s : ByteArray) (k : Nat) : Prop := ∀ (j : Nat) (l : List UInt8), j < k → syms[j]? = some l → pre l s.data.toList = false
theorem noPre_snoc (s : ByteArray) (k : Nat) (l : List UInt8) (h : NoPre s k) (hl : syms[k]? = some l) (hp : pre l s.data.toList = false) : NoPre s (k + 1) := by
  intro j l' hj hl'
  rcases Nat.lt_or_ge j k with h1 | h1
  · exact h j l' h1 hl'
  · have : j = k := by omega
    subst this
    rw [hl] at hl'
    rw [← Option.some.inj hl']
    exact hp
theorem pre_is (l : List UInt8) (s : ByteArray) (h : l.length ≤ s.size) : pre l s.data.toList = ((s.extract 0 l.length).toList == l) := by
  unfold pre
  rw [size_toList, decide_eq_true h, Bool.true_and, Lib.toList_data, extract_take]
theorem pre_short (l : List UInt8) (s : ByteArray) (h : ¬ l.length ≤ s.size) : pre l s.data.toList = false := by
  unfold pre
  rw [size_toList, decide_eq_false h, Bool.false_and]
/-- The symbol at the beginning, as a string. -/
def symV (s : ByteArray) : Value := .string ⟨(s.data.toList.take (symLen s.data.toList)).toArray⟩
theorem symV_hit (s : ByteArray) (k : Nat) (l : List UInt8) (hl : syms[k]? = some l) (h : NoPre s k) (hp : pre l s.data.toList = true) : symV s = .string ⟨l.toArray⟩ := by
  unfold symV
  rw [← (first_sym s.data.toList k l hl h hp).1]
theorem symV_none (s : ByteArray) (h : NoPre s 21) : symV s = .string ⟨#[]⟩ := by
  unfold symV
  rw [no_sym s.data.toList (fun j l hl => h j l (by have := (List.getElem?_eq_some_iff.1 hl).1; exact this) hl)]
  rfl
set_option maxRecDepth 100000 in
set_option maxHeartbeats 1000000 in
theorem refSymbol_any (s : ByteArray) (w : World) (hs : s.size ≤ maxLen) : Calls Tryd.prog 66 #[.string s] w fun e w' => e = .returned (symV s) ∧ Below w.heap.size w w' := by
  unfold maxLen at hs
  go_enter Tryd.func66, Tryd.ntmps66
  go_wp2_with fail
  refine (symbols_op _).mono ?_
  rintro e w1 ⟨b, rfl, hst, hb1⟩
  have HST := Lib.hid hst
  have HB1 := Lib.hid hb1
  clear hst hb1
  go_wp2_with fail
  go_loopw [4] (fun i wr => ∃ k n : Nat, k ≤ 21 ∧ i = .int .i64 k ∧ wr = w1.drewN n ∧ NoPre s k) (fun i _ => 21 - (intOf i).toNat)
  case atStart => exact ⟨0, 0, by omega, rfl, rfl, fun j l hj => absurd hj (by omega)⟩
  case round =>
    obtain ⟨k, n, hk, rfl, rfl, hno⟩ := hrel
    have HN := Lib.hid hno
    clear hno
    by_cases hlt : k < 21
    · obtain ⟨l, hl⟩ : ∃ l, syms[k]? = some l := ⟨syms[k]'hlt, List.getElem?_eq_getElem _⟩
      have hcell := HST.out k l hl
      have HLK := Lib.hid hl
      have hkI : (k : Int) < 21 := by omega
      clear hl
      by_cases h2 : l.length ≤ s.size
      · have hd : decide ((l.length : Int) ≤ (s.size : Int)) = true := by simp; omega
        have h2I : (l.length : Int) ≤ (s.size : Int) := by omega
        have HP := Lib.hid (pre_is l s h2)
        go_wp2
        go_quiet (fail)
        go_wp2
        · have hit : ((s.extract 0 l.length).toList == l) = true := by assumption
          have HE := Lib.hid (symV_hit s k l HLK.out HN.out (by rw [HP.out]; exact hit))
          go_ret
          exact ⟨by rw [HE.out]; rfl, below_drewN HB1.out (n + nq)⟩
        · have miss : ((s.extract 0 l.length).toList == l) = false := by assumption
          have HQ := Lib.hid (noPre_snoc s k l HN.out HLK.out (by rw [HP.out]; exact miss))
          clear miss
          go_roundw
          case rel => exact ⟨k + 1, _, by omega, by go_num, rfl, HQ.out⟩
          case measure => simp [intOf]; omega
      · have hd : decide ((l.length : Int) ≤ (s.size : Int)) = false := by simp; omega
        have HP := Lib.hid (pre_short l s h2)
        go_wp2
        go_quiet (fail)
        go_wp2
        go_roundw
        case rel => exact ⟨k + 1, _, by omega, by go_num, rfl, noPre_snoc s k l HN.out HLK.out HP.out⟩
        case measure => simp [intOf]; omega
    · obtain rfl : k = 21 := by omega
      have HE := Lib.hid (symV_none s HN.out)
      go_wp2
      go_ret
      exact ⟨by rw [HE.out]; rfl, below_drewN HB1.out n⟩
end Go.Proofs.YthbcfcbonmphfaaDoor
