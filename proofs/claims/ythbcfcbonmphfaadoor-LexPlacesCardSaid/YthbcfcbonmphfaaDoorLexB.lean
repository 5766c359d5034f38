/- Walks: names, integers, symbols, valid tokens. -/
import Derived.Test.YthbcfcbonmphfaaDoorLexA
import Derived.Test.YthbcfcbonmphfaaDoorLexT
import Derived.Deep.QuietTactic
import Derived.BigQuiet
namespace Go.Proofs.YthbcfcbonmphfaaDoor
open Go.RowKit
theorem ret_two {a b : Value} {a' b' : Value} (h : a = a') (h2 : b = b') : Ending.returned (.tuple #[a, b]) = .returned (.tuple #[a', b']) := by rw [h, h2]

theorem isName_empty (s : ByteArray) (h : s.size = 0) : false = isName s.toList := by
  rw [Lib.toList_data]; unfold isName; rw [size_toList, h]; rfl
theorem isName_long (s : ByteArray) (h : 40 < s.size) : false = isName s.toList := by
  rw [Lib.toList_data]; unfold isName; rw [size_toList]
  have : decide (s.size ≤ 40) = false := by simp; omega
  rw [this]; simp
theorem all_iff_wl (l : List UInt8) : (l.all isW = true) ↔ wl l = l.length := by
  unfold wl
  induction l with
  | nil => simp
  | cons c l ih =>
    by_cases h : isW c = true
    · rw [List.all_cons, h, Bool.true_and, ih, List.takeWhile_cons_of_pos h]; simp
    · rw [List.all_cons, List.takeWhile_cons_of_neg h]; simp [h]
theorem isName_is (s : ByteArray) (h0 : 0 < s.size) (h : s.size ≤ 40) : isName s.toList = (decide (cls (s[0].toNat : Int) = 4) && decide (wl s.data.toList = s.size) && !isKw s.toList) := by
  rw [Lib.toList_data]; unfold isName
  have e : (s.data.toList.all isW) = decide (wl s.data.toList = s.size) := by
    rw [Bool.eq_iff_iff, all_iff_wl, size_toList]; simp
  rw [size_toList, e, get_any _ s 0 h0]
  simp [h0, h]

set_option maxHeartbeats 400000 in
theorem isName_any (s : ByteArray) (w : World) (hs : s.size ≤ maxLen) : Calls Tryd.prog 14 #[.string s] w fun e w' => e = .returned (.bool (isName s.toList)) ∧ w = w' := by
  by_cases h0 : s.size = 0
  · have he : s.toList = [] := by rw [Lib.toList_data]; exact List.eq_nil_of_length_eq_zero (by rw [size_toList]; exact h0)
    have E := Lib.hid (isName_empty s h0)
    go_enter Tryd.func14, Tryd.ntmps14
    go_wp2
    go_ret
    exact ⟨ret_bool E.out, rfl⟩
  · have h0' : 0 < s.size := by omega
    have he : s.toList.isEmpty = false := by
      rw [Lib.toList_data, List.isEmpty_eq_false_iff]; intro e; have := congrArg List.length e; rw [size_toList] at this; exact h0 this
    have he2 : (s.toList == []) = false := by rw [← he]; cases s.toList <;> rfl
    by_cases h40 : s.size ≤ 40
    · have E := Lib.hid (isName_is s h0' h40)
      have HS := Lib.hid hs
      clear hs h0
      go_enter Tryd.func14, Tryd.ntmps14
      go_wp2_with (first | (go_at_call 54; refine (classify_any _ _).mono ?_; rintro e w' ⟨rfl, rfl⟩) | (go_at_call 55; refine (wordLength_any _ _ HS.out).mono ?_; rintro e w' ⟨rfl, rfl⟩) | (go_at_call 16; refine (iskw_any _ _).mono ?_; rintro e w' ⟨rfl, rfl⟩))
      · go_ret
        have b : (wl s.data.toList : Int) = s.size := by assumption
        have a : cls (s[0].toNat : Int) = 4 := by assumption
        have b' : wl s.data.toList = s.size := by omega
        exact ⟨ret_bool (by rw [E.out]; simp [a, b']), rfl⟩
      · go_ret
        have b : ¬ (wl s.data.toList : Int) = s.size := by assumption
        have b' : ¬ wl s.data.toList = s.size := by omega
        exact ⟨ret_bool (by rw [E.out]; simp [b']), rfl⟩
      · go_ret
        have a : ¬ cls (s[0].toNat : Int) = 4 := by assumption
        exact ⟨ret_bool (by rw [E.out]; simp [a]), rfl⟩
    · have E := Lib.hid (isName_long s (by omega))
      clear h0
      go_enter Tryd.func14, Tryd.ntmps14
      go_wp2
      go_ret
      exact ⟨ret_bool E.out, rfl⟩

theorem digit_big (c : UInt8) (m : Nat) (h5 : (cls (c.toNat : Int) != 5) = false) (hb : 1099511627776 < 10 * (m : Int) + ((c.toNat : Int) - 48) % 256) : 1099511627776 < 10 * m + (c.toNat - 48) := by
  have := (cls_5 (c.toNat : Int)).1 (by simpa using h5)
  omega
theorem digit_fits (c : UInt8) (m : Nat) (h5 : (cls (c.toNat : Int) != 5) = false) (hb : 10 * (m : Int) + ((c.toNat : Int) - 48) % 256 ≤ 1099511627776) :
    cls (c.toNat : Int) = 5 ∧ 10 * m + (c.toNat - 48) ≤ 1099511627776 ∧ 10 * (m : Int) + ((c.toNat : Int) - 48) % 256 = ((10 * m + (c.toNat - 48) : Nat) : Int) := by
  have h : cls (c.toNat : Int) = 5 := by simpa using h5
  have := (cls_5 (c.toNat : Int)).1 h
  refine ⟨h, by omega, by omega⟩
theorem number_lead (s : ByteArray) (h : 1 < s.size) (h48 : (s[0].toNat : Int) = 48) : number s.data.toList = none := by
  unfold number
  rw [if_pos]
  refine ⟨by rw [size_toList]; exact h, ?_⟩
  rw [List.getElem?_eq_getElem (by rw [size_toList]; omega)]
  have e : s.data.toList[0]'(by rw [size_toList]; omega) = s[0] := rfl
  rw [e]
  congr 1
  have e48 : s[0].toNat = 48 := by omega
  exact UInt8.toNat_inj.1 e48
theorem number_go (s : ByteArray) (h : ¬ (1 < s.size ∧ ∃ h : 0 < s.size, (s[0].toNat : Int) = 48)) : number s.data.toList = numGo s.data.toList 0 := by
  unfold number
  rw [if_neg]
  rintro ⟨h1, h2⟩
  rw [size_toList] at h1
  refine h ⟨h1, by omega, ?_⟩
  rw [List.getElem?_eq_getElem (by rw [size_toList]; omega)] at h2
  have e : s.data.toList[0]'(by rw [size_toList]; omega) = s[0] := rfl
  rw [e] at h2
  rw [Option.some.inj h2]
  rfl

set_option maxHeartbeats 400000 in
theorem integer_lead (s : ByteArray) (w : World) (h1 : 1 < s.size) (h48 : ((s[0].toNat : Int) == 48) = true) :
    Calls Tryd.prog 142 #[.string s] w fun e w' => e = .returned (.tuple #[.int .i64 0, .bool false]) ∧ w = w' := by
  go_enter Tryd.func142, Tryd.ntmps142
  go_wp2
  go_ret2
  exact ⟨rfl, rfl⟩

set_option maxHeartbeats 400000 in
theorem integer_go (s : ByteArray) (w : World) (hs : s.size ≤ maxLen) (h1 : ¬ (1 < s.size ∧ ∃ h : 0 < s.size, (s[0].toNat : Int) = 48)) :
    Calls Tryd.prog 142 #[.string s] w fun e w' => e = .returned (.tuple #[.int .i64 ((numGo s.data.toList 0).getD 0), .bool (numGo s.data.toList 0).isSome]) ∧ w = w' := by
  unfold maxLen at hs
  have H1 := Lib.hid h1
  have hc : s.size ≤ 1 ∨ ∃ h : 0 < s.size, 1 < s.size ∧ ((s[0].toNat : Int) == 48) = false := by
    by_cases h2 : 1 < s.size
    · exact Or.inr ⟨by omega, h2, by simp; intro e; exact h1 ⟨h2, by omega, by omega⟩⟩
    · exact Or.inl (by omega)
  clear h1
  rcases hc with hc | ⟨_, hc, hc2⟩
  all_goals
    go_enter Tryd.func142, Tryd.ntmps142
    go_wp2
    go_loop [4, 16] (fun n i => ∃ k m : Nat, k ≤ s.size ∧ m ≤ 1099511627776 ∧ n = .int .i64 m ∧ i = .int .i64 k ∧ numGo s.data.toList 0 = numGo (s.data.toList.drop k) m) (fun _ i => s.size - (intOf i).toNat)
    case atStart => exact ⟨0, 0, Nat.zero_le _, by omega, rfl, rfl, rfl⟩
    case round =>
      obtain ⟨k, m, hk, hm, rfl, rfl, hnum⟩ := hrel
      have HA := Lib.hid hnum
      clear hnum
      by_cases hlt : k < s.size
      · go_wp2_with (go_at_call 54; refine (classify_any _ _).mono ?_; rintro e w' ⟨rfl, rfl⟩)
        · go_ret2
          have h5 : (cls (s[k].toNat : Int) != 5) = true := by assumption
          exact ⟨by rw [HA.out, numGo_no s k m hlt (by simpa using h5)]; rfl, rfl⟩
        · go_ret2
          have h5 : (cls (s[k].toNat : Int) != 5) = false := by assumption
          have hb : 1099511627776 < 10 * (m : Int) + ((s[k].toNat : Int) - 48) % 256 := by assumption
          exact ⟨by rw [HA.out, numGo_big s k m hlt (digit_big s[k] m h5 hb)]; rfl, rfl⟩
        · have h5 : (cls (s[k].toNat : Int) != 5) = false := by assumption
          have hb : 10 * (m : Int) + ((s[k].toNat : Int) - 48) % 256 ≤ 1099511627776 := by assumption
          have D := digit_fits s[k] m h5 hb
          have HD := Lib.hid D
          clear D
          go_round
          case rel => exact ⟨k + 1, _, by omega, HD.out.2.1, congrArg _ HD.out.2.2, by go_num, by rw [HA.out]; exact numGo_step s k m hlt HD.out.1 HD.out.2.1⟩
          case measure => simp [intOf]; omega
      · go_wp2
        go_ret2
        have : k = s.size := by omega
        subst this
        exact ⟨by rw [HA.out, numGo_end]; rfl, rfl⟩

def numVal (l : List UInt8) : Value := .tuple #[.int .i64 ((number l).getD 0), .bool (number l).isSome]
theorem integer_any (s : ByteArray) (w : World) (hs : s.size ≤ maxLen) : Calls Tryd.prog 142 #[.string s] w fun e w' => e = .returned (numVal s.data.toList) ∧ w = w' := by
  unfold numVal
  by_cases h : 1 < s.size ∧ ∃ h : 0 < s.size, (s[0].toNat : Int) = 48
  · obtain ⟨h1, h2, h48⟩ := h
    rw [number_lead s h1 h48]
    exact integer_lead s w h1 (by simpa using h48)
  · rw [number_go s h]
    exact integer_go s w hs h

/-- The variable pairs holds its four symbols. -/
def Pairs (w : World) : Prop := w.cell? ⟨0, 0, none⟩ = some (.string ⟨#[61, 61]⟩) ∧ w.cell? ⟨0, 1, none⟩ = some (.string ⟨#[33, 61]⟩) ∧ w.cell? ⟨0, 2, none⟩ = some (.string ⟨#[60, 61]⟩) ∧ w.cell? ⟨0, 3, none⟩ = some (.string ⟨#[45, 62]⟩)
theorem Pairs.keep {w w' : World} (h : Pairs w) (hk : ∀ o, w'.cell? ⟨0, o, none⟩ = w.cell? ⟨0, o, none⟩) : Pairs w' :=
  ⟨(hk 0).trans h.1, (hk 1).trans h.2.1, (hk 2).trans h.2.2.1, (hk 3).trans h.2.2.2⟩
theorem Pairs.lt {w : World} (h : Pairs w) : 0 < w.heap.size := by
  rcases Nat.lt_or_ge 0 w.heap.size with hl | hl
  · exact hl
  · have := h.1
    rw [World.cell?, Array.getElem?_eq_none (by simpa using hl)] at this
    cases this
theorem Pairs.below {w w' : World} (h : Pairs w) {B : Nat} (hb : Below B w w') (hB : 0 < B) : Pairs w' := h.keep fun _ => hb.cell hB
theorem Pairs.drew {w : World} (h : Pairs w) : Pairs w.drew := h
theorem Pairs.drewN {w : World} (h : Pairs w) (n : Nat) : Pairs (w.drewN n) := h
theorem Pairs.alloc {w : World} (h : Pairs w) (o : Obj) : Pairs (w.alloc o) := h.keep fun _ => World.cell?_alloc_lt w o _ h.lt
end Go.Proofs.YthbcfcbonmphfaaDoor
