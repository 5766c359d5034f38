/- Walks of the small functions of lex and of its reference: bytes, words, keywords. -/
import Derived.WalkKit
import Derived.WalkSpells
import Derived.WalkLawsBesides
import Derived.Lib.Hide
import Derived.Deep.QuietTactic
import Derived.BigQuiet
import Derived.Test.YthbcfcbonmphfaaDoorProg
import Derived.Test.YthbcfcbonmphfaaDoorLexS
namespace Go.Proofs.YthbcfcbonmphfaaDoor
open Go.RowKit
theorem ret_int {k : IntKind} {a b : Int} (h : a = b) : Ending.returned (.int k a) = .returned (.int k b) := by rw [h]
theorem ret_bool {a b : Bool} (h : a = b) : Ending.returned (.bool a) = .returned (.bool b) := by rw [h]

set_option maxHeartbeats 400000 in
theorem classify_any (c : Int) (w : World) : Calls Tryd.prog 54 #[.int .u8 c] w fun e w' => e = .returned (.int .i64 (cls c)) ∧ w = w' := by
  go_enter Tryd.func54, Tryd.ntmps54
  go_wp2
  all_goals (go_ret; exact ⟨ret_int (by (try simp only [beq_iff_eq, beq_eq_false_iff_ne, ne_eq] at *); unfold cls; (repeat' split) <;> first | rfl | omega), rfl⟩)

set_option maxHeartbeats 400000 in
theorem iskw_any (s : ByteArray) (w : World) : Calls Tryd.prog 16 #[.string s] w fun e w' => e = .returned (.bool (isKw s.toList)) ∧ w = w' := by
  go_enter Tryd.func16, Tryd.ntmps16
  go_wp2
  all_goals (go_ret; exact ⟨ret_bool (by first | (simp only [isKw, kws, List.any_cons, List.any_nil, *, Bool.true_or, Bool.or_true, Bool.or_false]; done) | (exfalso; simp_all; done)), rfl⟩)

set_option maxHeartbeats 400000 in
theorem letter_any (c : Int) (w : World) : Calls Tryd.prog 56 #[.int .u8 c] w fun e w' => e = .returned (.bool (decide (cls c = 4))) ∧ w = w' := by
  go_enter Tryd.func56, Tryd.ntmps56
  go_wp2
  all_goals (go_ret; exact ⟨ret_bool (by have := cls_4 c; rw [Bool.eq_iff_iff]; simp; omega), rfl⟩)

set_option maxHeartbeats 400000 in
theorem digit_any (c : Int) (w : World) : Calls Tryd.prog 109 #[.int .u8 c] w fun e w' => e = .returned (.bool (decide (cls c = 5))) ∧ w = w' := by
  go_enter Tryd.func109, Tryd.ntmps109
  go_wp2
  all_goals (go_ret; exact ⟨ret_bool (by have := cls_5 c; rw [Bool.eq_iff_iff]; simp; omega), rfl⟩)

set_option maxHeartbeats 400000 in
theorem word_any (c : Int) (w : World) : Calls Tryd.prog 57 #[.int .u8 c] w fun e w' => e = .returned (.bool (isWI c)) ∧ w = w' := by
  go_enter Tryd.func57, Tryd.ntmps57
  go_wp2_with (first | (go_at_call 56; refine (letter_any _ _).mono ?_; rintro e w' ⟨rfl, rfl⟩) | (go_at_call 109; refine (digit_any _ _).mono ?_; rintro e w' ⟨rfl, rfl⟩))
  all_goals (go_ret; exact ⟨ret_bool (by rw [Bool.eq_iff_iff, isWI_iff]; simp [cls_6]; try omega), rfl⟩)

set_option maxHeartbeats 400000 in
theorem wordLength_any (s : ByteArray) (w : World) (hs : s.size ≤ maxLen) : Calls Tryd.prog 55 #[.string s] w fun e w' => e = .returned (.int .i64 (wl s.data.toList)) ∧ w = w' := by
  unfold maxLen at hs
  go_enter Tryd.func55, Tryd.ntmps55
  go_wp2
  go_loop [6] (fun i => ∃ k : Nat, k ≤ s.size ∧ i = .int .i64 k ∧ (s.data.toList.take k).all isW = true) (fun i => s.size - (intOf i).toNat)
  case atStart => exact ⟨0, Nat.zero_le _, rfl, by simp⟩
  case round =>
    obtain ⟨k, hk, rfl, hall⟩ := hrel
    have HA := Lib.hid hall
    clear hall
    by_cases hlt : k < s.size
    · go_wp2_with (go_at_call 54; refine (classify_any _ _).mono ?_; rintro e w' ⟨rfl, rfl⟩)
      all_goals first
        | (have h4 : (cls (s[k].toNat : Int) == 4) = false := by assumption
           have h5 : (cls (s[k].toNat : Int) == 5) = false := by assumption
           have h6 : (cls (s[k].toNat : Int) == 6) = false := by assumption
           go_ret
           exact ⟨ret_int (by rw [wl_at s k hlt HA.out (isW_no _ h4 h5 h6)]), rfl⟩)
        | (have hw : isW s[k] = true := isW_yes _ (by first | exact Or.inl ‹_› | exact Or.inr (Or.inl ‹_›) | exact Or.inr (Or.inr ‹_›))
           have HW := Lib.hid hw
           clear hw
           go_round
           case rel => exact ⟨k + 1, by omega, by go_num, take_all_snoc isW s k hlt HA.out HW.out⟩
           case measure => simp [intOf]; omega)
    · go_wp2
      go_ret
      have : k = s.size := by omega
      subst this
      exact ⟨ret_int (by rw [wl_end s HA.out]), rfl⟩

set_option maxHeartbeats 400000 in
theorem commentLength_any (s : ByteArray) (w : World) (hs : s.size ≤ maxLen) : Calls Tryd.prog 113 #[.string s] w fun e w' => e = .returned (.int .i64 (cl s.data.toList)) ∧ w = w' := by
  unfold maxLen at hs
  go_enter Tryd.func113, Tryd.ntmps113
  go_wp2
  go_loop [6] (fun i => ∃ k : Nat, k ≤ s.size ∧ i = .int .i64 k ∧ (s.data.toList.take k).all notNl = true) (fun i => s.size - (intOf i).toNat)
  case atStart => exact ⟨0, Nat.zero_le _, rfl, by simp⟩
  case round =>
    obtain ⟨k, hk, rfl, hall⟩ := hrel
    have HA := Lib.hid hall
    clear hall
    by_cases hlt : k < s.size
    · go_wp2_with (go_at_call 54; refine (classify_any _ _).mono ?_; rintro e w' ⟨rfl, rfl⟩)
      all_goals first
        | (have h2 : (cls (s[k].toNat : Int) == 2) = true := by assumption
           go_ret
           exact ⟨ret_int (by rw [cl_at s k hlt HA.out (by unfold notNl; simpa using h2)]), rfl⟩)
        | (have h2 : (cls (s[k].toNat : Int) == 2) = false := by assumption
           have HW := Lib.hid h2
           clear h2
           go_round
           case rel => exact ⟨k + 1, by omega, by go_num, take_all_snoc notNl s k hlt HA.out (by unfold notNl; simpa using HW.out)⟩
           case measure => simp [intOf]; omega)
    · go_wp2
      go_ret
      have : k = s.size := by omega
      subst this
      exact ⟨ret_int (by rw [cl_end s HA.out]), rfl⟩

/-- The list of keywords, as the reference makes it. -/
def kwCells : Array Value := (kws.map fun l => Value.string ⟨l.toArray⟩).toArray
set_option maxHeartbeats 400000 in
theorem keywords_any (w : World) : Calls Tryd.prog 59 #[] w fun e w' => e = .returned (.slice (some ⟨w.heap.size, 0, none⟩) 31 31) ∧ w' = w.alloc (.cells kwCells 9) := by
  go_enter Tryd.func59, Tryd.ntmps59
  go_wp2
  go_ret
  exact ⟨rfl, rfl⟩
def symCells : Array Value := (syms.map fun l => Value.string ⟨l.toArray⟩).toArray
set_option maxHeartbeats 400000 in
theorem symbols_any (w : World) : Calls Tryd.prog 61 #[] w fun e w' => e = .returned (.slice (some ⟨w.heap.size, 0, none⟩) 21 21) ∧ w' = w.alloc (.cells symCells 9) := by
  go_enter Tryd.func61, Tryd.ntmps61
  go_wp2
  go_ret
  exact ⟨rfl, rfl⟩
/-- A list of strings in one block, as the reference makes it. -/
def StrsAt (w : World) (b : Nat) (L : List (List UInt8)) : Prop := ∀ (j : Nat) (l : List UInt8), L[j]? = some l → w.cell? ⟨b, j, none⟩ = some (.string ⟨l.toArray⟩)
theorem has_hit (L : List (List UInt8)) (l : List UInt8) (s : ByteArray) (k : Nat) (h : L[k]? = some l) (h2 : (l == s.toList) = true) : true = L.any fun l => l == s.data.toList := by
  rw [Lib.toList_data] at h2
  exact (List.any_eq_true.2 ⟨l, List.mem_of_getElem? h, h2⟩).symm
def anyUpto (L : List (List UInt8)) (s : List UInt8) (k : Nat) : Bool := (L.take k).any fun l => l == s
theorem anyUpto_snoc (L : List (List UInt8)) (l : List UInt8) (s : ByteArray) (k : Nat) (h : L[k]? = some l) (h2 : (l == s.toList) = false) (h3 : anyUpto L s.data.toList k = false) : anyUpto L s.data.toList (k + 1) = false := by
  rw [Lib.toList_data] at h2
  unfold anyUpto at *
  rw [List.take_add_one, List.any_append, h3, h]
  simp [h2]
set_option maxHeartbeats 400000 in
theorem has_any (b : Nat) (L : List (List UInt8)) (s : ByteArray) (w : World) (n : Nat) (hn : L.length = n) (h63 : n ≤ 1000) (hc : StrsAt w b L) :
    Calls Tryd.prog 58 #[.slice (some ⟨b, 0, none⟩) n n, .string s] w fun e w' => e = .returned (.bool (L.any fun l => l == s.data.toList)) ∧ w = w' := by
  go_enter Tryd.func58, Tryd.ntmps58
  have HN := Lib.hid hn
  have HC := Lib.hid hc
  clear hn hc
  go_wp2
  go_loop [5] (fun i => ∃ k : Nat, k ≤ n ∧ i = .int .i64 k ∧ anyUpto L s.data.toList k = false) (fun i => n - (intOf i).toNat)
  case atStart => exact ⟨0, Nat.zero_le _, rfl, by simp [anyUpto]⟩
  case round =>
    obtain ⟨k, hk, rfl, hall⟩ := hrel
    have HA := Lib.hid hall
    clear hall
    by_cases hlt : k < n
    · obtain ⟨l, hl⟩ : ∃ l, L[k]? = some l := ⟨L[k]'(by rw [HN.out]; exact hlt), List.getElem?_eq_getElem _⟩
      have hcell := HC.out k l hl
      have HL := Lib.hid hl
      clear hl
      go_wp2
      all_goals first
        | (have h2 : (l == s.toList) = true := by assumption
           go_ret
           exact ⟨ret_bool (has_hit L l s k HL.out h2), rfl⟩)
        | (have h2 : (l == s.toList) = false := by assumption
           have HW := Lib.hid h2
           clear h2
           go_round
           case rel => exact ⟨k + 1, by omega, by go_num, anyUpto_snoc L l s k HL.out HW.out HA.out⟩
           case measure => simp [intOf]; omega)
    · go_wp2
      go_ret
      have : k = n := by omega
      subst this
      exact ⟨ret_bool (by have := HA.out; unfold anyUpto at this; rw [← HN.out, List.take_length] at this; exact this.symm), rfl⟩

theorem strsAt_new (w : World) (L : List (List UInt8)) (e : TypeId) : StrsAt (w.alloc (.cells (L.map fun l => Value.string ⟨l.toArray⟩).toArray e)) w.heap.size L := by
  intro j l hl
  have h := heap_alloc_new w (.cells (L.map fun l => Value.string ⟨l.toArray⟩).toArray e)
  rw [cell_of_row _ w.heap.size j _ e (0, 0) h]
  simp [hl]
theorem any_comm (L : List (List UInt8)) (s : List UInt8) : (L.any fun l => l == s) = L.any fun l => s == l := by
  congr 1; funext l; rw [Bool.eq_iff_iff]; simp; exact eq_comm
set_option maxHeartbeats 400000 in
theorem refIsKw_any (s : ByteArray) (w : World) : Calls Tryd.prog 17 #[.string s] w fun e w' => e = .returned (.bool (isKw s.toList)) ∧ Below w.heap.size w w' := by
  go_enter Tryd.func17, Tryd.ntmps17
  go_wp2_with (first | (go_at_call 59; refine (keywords_any _).mono ?_; rintro e w' ⟨rfl, rfl⟩) | (go_at_call 58; refine (has_any _ kws _ _ 31 rfl (by decide) (strsAt_new w kws _)).mono ?_; rintro e w' ⟨rfl, rfl⟩))
  go_ret
  exact ⟨ret_bool (by rw [any_comm, isKw, Lib.toList_data]), (Below.refl _ _).alloc (Nat.le_refl _) _⟩
end Go.Proofs.YthbcfcbonmphfaaDoor

/- Walks: names, integers, symbols, valid tokens. -/
namespace Go.Proofs.YthbcfcbonmphfaaDoor
open Go.RowKit
theorem ret_two {a b : Value} {a' b' : Value} (h : a = a') (h2 : b = b') : Ending.returned (.tuple #[a, b]) = .returned (.tuple #[a', b']) := by rw [h, h2]

theorem isName_empty (s : ByteArray) (h : s.size = 0) : false = isName s.toList := by
  rw [Lib.toList_data]; unfold isName; rw [size_toList, h]; rfl
theorem isName_long (s : ByteArray) (h : 40 < s.size) : false = isName s.toList := by
  rw [Lib.toList_data]; unfold isName; rw [size_toList]
  have : decide (s.size ≤ 40) = false := by simp; omega
  rw [this]; simp
theorem all_iff_wl (l : List UInt8) : (l.all isW = true) ↔ wl l = l.length := by
  unfold wl
  induction l with
  | nil => simp
  | cons c l ih =>
    by_cases h : isW c = true
    · rw [List.all_cons, h, Bool.true_and, ih, List.takeWhile_cons_of_pos h]; simp
    · rw [List.all_cons, List.takeWhile_cons_of_neg h]; simp [h]
theorem isName_is (s : ByteArray) (h0 : 0 < s.size) (h : s.size ≤ 40) : isName s.toList = (decide (cls (s[0].toNat : Int) = 4) && decide (wl s.data.toList = s.size) && !isKw s.toList) := by
  rw [Lib.toList_data]; unfold isName
  have e : (s.data.toList.all isW) = decide (wl s.data.toList = s.size) := by
    rw [Bool.eq_iff_iff, all_iff_wl, size_toList]; simp
  rw [size_toList, e, get_any _ s 0 h0]
  simp [h0, h]

set_option maxHeartbeats 400000 in
theorem isName_any (s : ByteArray) (w : World) (hs : s.size ≤ maxLen) : Calls Tryd.prog 14 #[.string s] w fun e w' => e = .returned (.bool (isName s.toList)) ∧ w = w' := by
  by_cases h0 : s.size = 0
  · have he : s.toList = [] := by rw [Lib.toList_data]; exact List.eq_nil_of_length_eq_zero (by rw [size_toList]; exact h0)
    have E := Lib.hid (isName_empty s h0)
    go_enter Tryd.func14, Tryd.ntmps14
    go_wp2
    go_ret
    exact ⟨ret_bool E.out, rfl⟩
  · have h0' : 0 < s.size := by omega
    have he : s.toList.isEmpty = false := by
      rw [Lib.toList_data, List.isEmpty_eq_false_iff]; intro e; have := congrArg List.length e; rw [size_toList] at this; exact h0 this
    have he2 : (s.toList == []) = false := by rw [← he]; cases s.toList <;> rfl
    by_cases h40 : s.size ≤ 40
    · have E := Lib.hid (isName_is s h0' h40)
      have HS := Lib.hid hs
      clear hs h0
      go_enter Tryd.func14, Tryd.ntmps14
      go_wp2_with (first | (go_at_call 54; refine (classify_any _ _).mono ?_; rintro e w' ⟨rfl, rfl⟩) | (go_at_call 55; refine (wordLength_any _ _ HS.out).mono ?_; rintro e w' ⟨rfl, rfl⟩) | (go_at_call 16; refine (iskw_any _ _).mono ?_; rintro e w' ⟨rfl, rfl⟩))
      · go_ret
        have b : (wl s.data.toList : Int) = s.size := by assumption
        have a : cls (s[0].toNat : Int) = 4 := by assumption
        have b' : wl s.data.toList = s.size := by omega
        exact ⟨ret_bool (by rw [E.out]; simp [a, b']), rfl⟩
      · go_ret
        have b : ¬ (wl s.data.toList : Int) = s.size := by assumption
        have b' : ¬ wl s.data.toList = s.size := by omega
        exact ⟨ret_bool (by rw [E.out]; simp [b']), rfl⟩
      · go_ret
        have a : ¬ cls (s[0].toNat : Int) = 4 := by assumption
        exact ⟨ret_bool (by rw [E.out]; simp [a]), rfl⟩
    · have E := Lib.hid (isName_long s (by omega))
      clear h0
      go_enter Tryd.func14, Tryd.ntmps14
      go_wp2
      go_ret
      exact ⟨ret_bool E.out, rfl⟩

theorem digit_big (c : UInt8) (m : Nat) (h5 : (cls (c.toNat : Int) != 5) = false) (hb : 1099511627776 < 10 * (m : Int) + ((c.toNat : Int) - 48) % 256) : 1099511627776 < 10 * m + (c.toNat - 48) := by
  have := (cls_5 (c.toNat : Int)).1 (by simpa using h5)
  omega
theorem digit_fits (c : UInt8) (m : Nat) (h5 : (cls (c.toNat : Int) != 5) = false) (hb : 10 * (m : Int) + ((c.toNat : Int) - 48) % 256 ≤ 1099511627776) :
    cls (c.toNat : Int) = 5 ∧ 10 * m + (c.toNat - 48) ≤ 1099511627776 ∧ 10 * (m : Int) + ((c.toNat : Int) - 48) % 256 = ((10 * m + (c.toNat - 48) : Nat) : Int) := by
  have h : cls (c.toNat : Int) = 5 := by simpa using h5
  have := (cls_5 (c.toNat : Int)).1 h
  refine ⟨h, by omega, by omega⟩
theorem number_lead (s : ByteArray) (h : 1 < s.size) (h48 : (s[0].toNat : Int) = 48) : number s.data.toList = none := by
  unfold number
  rw [if_pos]
  refine ⟨by rw [size_toList]; exact h, ?_⟩
  rw [List.getElem?_eq_getElem (by rw [size_toList]; omega)]
  have e : s.data.toList[0]'(by rw [size_toList]; omega) = s[0] := rfl
  rw [e]
  congr 1
  have e48 : s[0].toNat = 48 := by omega
  exact UInt8.toNat_inj.1 e48
theorem number_go (s : ByteArray) (h : ¬ (1 < s.size ∧ ∃ h : 0 < s.size, (s[0].toNat : Int) = 48)) : number s.data.toList = numGo s.data.toList 0 := by
  unfold number
  rw [if_neg]
  rintro ⟨h1, h2⟩
  rw [size_toList] at h1
  refine h ⟨h1, by omega, ?_⟩
  rw [List.getElem?_eq_getElem (by rw [size_toList]; omega)] at h2
  have e : s.data.toList[0]'(by rw [size_toList]; omega) = s[0] := rfl
  rw [e] at h2
  rw [Option.some.inj h2]
  rfl

set_option maxHeartbeats 400000 in
theorem integer_lead (s : ByteArray) (w : World) (h1 : 1 < s.size) (h48 : ((s[0].toNat : Int) == 48) = true) :
    Calls Tryd.prog 142 #[.string s] w fun e w' => e = .returned (.tuple #[.int .i64 0, .bool false]) ∧ w = w' := by
  go_enter Tryd.func142, Tryd.ntmps142
  go_wp2
  go_ret2
  exact ⟨rfl, rfl⟩

set_option maxHeartbeats 400000 in
theorem integer_go (s : ByteArray) (w : World) (hs : s.size ≤ maxLen) (h1 : ¬ (1 < s.size ∧ ∃ h : 0 < s.size, (s[0].toNat : Int) = 48)) :
    Calls Tryd.prog 142 #[.string s] w fun e w' => e = .returned (.tuple #[.int .i64 ((numGo s.data.toList 0).getD 0), .bool (numGo s.data.toList 0).isSome]) ∧ w = w' := by
  unfold maxLen at hs
  have H1 := Lib.hid h1
  have hc : s.size ≤ 1 ∨ ∃ h : 0 < s.size, 1 < s.size ∧ ((s[0].toNat : Int) == 48) = false := by
    by_cases h2 : 1 < s.size
    · exact Or.inr ⟨by omega, h2, by simp; intro e; exact h1 ⟨h2, by omega, by omega⟩⟩
    · exact Or.inl (by omega)
  clear h1
  rcases hc with hc | ⟨_, hc, hc2⟩
  all_goals
    go_enter Tryd.func142, Tryd.ntmps142
    go_wp2
    go_loop [4, 16] (fun n i => ∃ k m : Nat, k ≤ s.size ∧ m ≤ 1099511627776 ∧ n = .int .i64 m ∧ i = .int .i64 k ∧ numGo s.data.toList 0 = numGo (s.data.toList.drop k) m) (fun _ i => s.size - (intOf i).toNat)
    case atStart => exact ⟨0, 0, Nat.zero_le _, by omega, rfl, rfl, rfl⟩
    case round =>
      obtain ⟨k, m, hk, hm, rfl, rfl, hnum⟩ := hrel
      have HA := Lib.hid hnum
      clear hnum
      by_cases hlt : k < s.size
      · go_wp2_with (go_at_call 54; refine (classify_any _ _).mono ?_; rintro e w' ⟨rfl, rfl⟩)
        · go_ret2
          have h5 : (cls (s[k].toNat : Int) != 5) = true := by assumption
          exact ⟨by rw [HA.out, numGo_no s k m hlt (by simpa using h5)]; rfl, rfl⟩
        · go_ret2
          have h5 : (cls (s[k].toNat : Int) != 5) = false := by assumption
          have hb : 1099511627776 < 10 * (m : Int) + ((s[k].toNat : Int) - 48) % 256 := by assumption
          exact ⟨by rw [HA.out, numGo_big s k m hlt (digit_big s[k] m h5 hb)]; rfl, rfl⟩
        · have h5 : (cls (s[k].toNat : Int) != 5) = false := by assumption
          have hb : 10 * (m : Int) + ((s[k].toNat : Int) - 48) % 256 ≤ 1099511627776 := by assumption
          have D := digit_fits s[k] m h5 hb
          have HD := Lib.hid D
          clear D
          go_round
          case rel => exact ⟨k + 1, _, by omega, HD.out.2.1, congrArg _ HD.out.2.2, by go_num, by rw [HA.out]; exact numGo_step s k m hlt HD.out.1 HD.out.2.1⟩
          case measure => simp [intOf]; omega
      · go_wp2
        go_ret2
        have : k = s.size := by omega
        subst this
        exact ⟨by rw [HA.out, numGo_end]; rfl, rfl⟩

def numVal (l : List UInt8) : Value := .tuple #[.int .i64 ((number l).getD 0), .bool (number l).isSome]
theorem integer_any (s : ByteArray) (w : World) (hs : s.size ≤ maxLen) : Calls Tryd.prog 142 #[.string s] w fun e w' => e = .returned (numVal s.data.toList) ∧ w = w' := by
  unfold numVal
  by_cases h : 1 < s.size ∧ ∃ h : 0 < s.size, (s[0].toNat : Int) = 48
  · obtain ⟨h1, h2, h48⟩ := h
    rw [number_lead s h1 h48]
    exact integer_lead s w h1 (by simpa using h48)
  · rw [number_go s h]
    exact integer_go s w hs h

/-- The variable pairs holds its four symbols. -/
def Pairs (w : World) : Prop := w.cell? ⟨0, 0, none⟩ = some (.string ⟨#[61, 61]⟩) ∧ w.cell? ⟨0, 1, none⟩ = some (.string ⟨#[33, 61]⟩) ∧ w.cell? ⟨0, 2, none⟩ = some (.string ⟨#[60, 61]⟩) ∧ w.cell? ⟨0, 3, none⟩ = some (.string ⟨#[45, 62]⟩)
theorem Pairs.keep {w w' : World} (h : Pairs w) (hk : ∀ o, w'.cell? ⟨0, o, none⟩ = w.cell? ⟨0, o, none⟩) : Pairs w' :=
  ⟨(hk 0).trans h.1, (hk 1).trans h.2.1, (hk 2).trans h.2.2.1, (hk 3).trans h.2.2.2⟩
theorem Pairs.lt {w : World} (h : Pairs w) : 0 < w.heap.size := by
  rcases Nat.lt_or_ge 0 w.heap.size with hl | hl
  · exact hl
  · have := h.1
    rw [World.cell?, Array.getElem?_eq_none (by simpa using hl)] at this
    cases this
theorem Pairs.below {w w' : World} (h : Pairs w) {B : Nat} (hb : Below B w w') (hB : 0 < B) : Pairs w' := h.keep fun _ => hb.cell hB
theorem Pairs.drew {w : World} (h : Pairs w) : Pairs w.drew := h
theorem Pairs.drewN {w : World} (h : Pairs w) (n : Nat) : Pairs (w.drewN n) := h
theorem Pairs.alloc {w : World} (h : Pairs w) (o : Obj) : Pairs (w.alloc o) := h.keep fun _ => World.cell?_alloc_lt w o _ h.lt
end Go.Proofs.YthbcfcbonmphfaaDoor
