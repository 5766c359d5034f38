/- Walks: the reader's methods. -/
import Derived.WalkKit
import Derived.WalkSpells
import Derived.WalkLawsBesides
import Derived.Lib.Hide
import Derived.Deep.QuietTactic
import Derived.BigQuiet
import Derived.Test.YthbcfcbonmphfaaGreatDoorProg
import Derived.Test.YthbcfcbonmphfaaGreatDoorTermSBundle
import Derived.Deep.RegionHeld3
import Derived.Deep.RegionWith
import Derived.Deep.Draws
import Derived.Laws.OwnMore
import Derived.Lib.ConvBytes
import Derived.Lib.SlBytesRow
/- Walks of the small functions of lex and of its reference: bytes, words, keywords. -/
namespace Go.Proofs.YthbcfcbonmphfaaGreatDoor
open Go.RowKit
theorem ret_int {k : IntKind} {a b : Int} (h : a = b) : Ending.returned (.int k a) = .returned (.int k b) := by rw [h]
theorem ret_bool {a b : Bool} (h : a = b) : Ending.returned (.bool a) = .returned (.bool b) := by rw [h]

set_option maxHeartbeats 400000 in
theorem classify_any (c : Int) (w : World) : Calls Tryz.prog 86 #[.int .u8 c] w fun e w' => e = .returned (.int .i64 (cls c)) ∧ w = w' := by
  go_enter Tryz.func86, Tryz.ntmps86
  go_wp2
  all_goals (go_ret; exact ⟨ret_int (by (try simp only [beq_iff_eq, beq_eq_false_iff_ne, ne_eq] at *); unfold cls; (repeat' split) <;> first | rfl | omega), rfl⟩)

set_option maxHeartbeats 400000 in
theorem iskw_any (s : ByteArray) (w : World) : Calls Tryz.prog 88 #[.string s] w fun e w' => e = .returned (.bool (isKw s.toList)) ∧ w = w' := by
  go_enter Tryz.func88, Tryz.ntmps88
  go_wp2
  all_goals (go_ret; exact ⟨ret_bool (by first | (simp only [isKw, kws, List.any_cons, List.any_nil, *, Bool.true_or, Bool.or_true, Bool.or_false]; done) | (exfalso; simp_all; done)), rfl⟩)

set_option maxHeartbeats 400000 in
theorem letter_any (c : Int) (w : World) : Calls Tryz.prog 68 #[.int .u8 c] w fun e w' => e = .returned (.bool (decide (cls c = 4))) ∧ w = w' := by
  go_enter Tryz.func68, Tryz.ntmps68
  go_wp2
  all_goals (go_ret; exact ⟨ret_bool (by have := cls_4 c; rw [Bool.eq_iff_iff]; simp; omega), rfl⟩)

set_option maxHeartbeats 400000 in
theorem digit_any (c : Int) (w : World) : Calls Tryz.prog 89 #[.int .u8 c] w fun e w' => e = .returned (.bool (decide (cls c = 5))) ∧ w = w' := by
  go_enter Tryz.func89, Tryz.ntmps89
  go_wp2
  all_goals (go_ret; exact ⟨ret_bool (by have := cls_5 c; rw [Bool.eq_iff_iff]; simp; omega), rfl⟩)

set_option maxHeartbeats 400000 in
theorem word_any (c : Int) (w : World) : Calls Tryz.prog 69 #[.int .u8 c] w fun e w' => e = .returned (.bool (isWI c)) ∧ w = w' := by
  go_enter Tryz.func69, Tryz.ntmps69
  go_wp2_with (first | (go_at_call 68; refine (letter_any _ _).mono ?_; rintro e w' ⟨rfl, rfl⟩) | (go_at_call 89; refine (digit_any _ _).mono ?_; rintro e w' ⟨rfl, rfl⟩))
  all_goals (go_ret; exact ⟨ret_bool (by rw [Bool.eq_iff_iff, isWI_iff]; simp [cls_6]; try omega), rfl⟩)

set_option maxHeartbeats 400000 in
theorem wordLength_any (s : ByteArray) (w : World) (hs : s.size ≤ maxLen) : Calls Tryz.prog 87 #[.string s] w fun e w' => e = .returned (.int .i64 (wl s.data.toList)) ∧ w = w' := by
  unfold maxLen at hs
  go_enter Tryz.func87, Tryz.ntmps87
  go_wp2
  go_loop [6] (fun i => ∃ k : Nat, k ≤ s.size ∧ i = .int .i64 k ∧ (s.data.toList.take k).all isW = true) (fun i => s.size - (intOf i).toNat)
  case atStart => exact ⟨0, Nat.zero_le _, rfl, by simp⟩
  case round =>
    obtain ⟨k, hk, rfl, hall⟩ := hrel
    have HA := Lib.hid hall
    clear hall
    by_cases hlt : k < s.size
    · go_wp2_with (go_at_call 86; refine (classify_any _ _).mono ?_; rintro e w' ⟨rfl, rfl⟩)
      all_goals first
        | (have h4 : (cls (s[k].toNat : Int) == 4) = false := by assumption
           have h5 : (cls (s[k].toNat : Int) == 5) = false := by assumption
           have h6 : (cls (s[k].toNat : Int) == 6) = false := by assumption
           go_ret
           exact ⟨ret_int (by rw [wl_at s k hlt HA.out (isW_no _ h4 h5 h6)]), rfl⟩)
        | (have hw : isW s[k] = true := isW_yes _ (by first | exact Or.inl ‹_› | exact Or.inr (Or.inl ‹_›) | exact Or.inr (Or.inr ‹_›))
           have HW := Lib.hid hw
           clear hw
           go_round
           case rel => exact ⟨k + 1, by omega, by go_num, take_all_snoc isW s k hlt HA.out HW.out⟩
           case measure => simp [intOf]; omega)
    · go_wp2
      go_ret
      have : k = s.size := by omega
      subst this
      exact ⟨ret_int (by rw [wl_end s HA.out]), rfl⟩

set_option maxHeartbeats 400000 in
theorem commentLength_any (s : ByteArray) (w : World) (hs : s.size ≤ maxLen) : Calls Tryz.prog 107 #[.string s] w fun e w' => e = .returned (.int .i64 (cl s.data.toList)) ∧ w = w' := by
  unfold maxLen at hs
  go_enter Tryz.func107, Tryz.ntmps107
  go_wp2
  go_loop [6] (fun i => ∃ k : Nat, k ≤ s.size ∧ i = .int .i64 k ∧ (s.data.toList.take k).all notNl = true) (fun i => s.size - (intOf i).toNat)
  case atStart => exact ⟨0, Nat.zero_le _, rfl, by simp⟩
  case round =>
    obtain ⟨k, hk, rfl, hall⟩ := hrel
    have HA := Lib.hid hall
    clear hall
    by_cases hlt : k < s.size
    · go_wp2_with (go_at_call 86; refine (classify_any _ _).mono ?_; rintro e w' ⟨rfl, rfl⟩)
      all_goals first
        | (have h2 : (cls (s[k].toNat : Int) == 2) = true := by assumption
           go_ret
           exact ⟨ret_int (by rw [cl_at s k hlt HA.out (by unfold notNl; simpa using h2)]), rfl⟩)
        | (have h2 : (cls (s[k].toNat : Int) == 2) = false := by assumption
           have HW := Lib.hid h2
           clear h2
           go_round
           case rel => exact ⟨k + 1, by omega, by go_num, take_all_snoc notNl s k hlt HA.out (by unfold notNl; simpa using HW.out)⟩
           case measure => simp [intOf]; omega)
    · go_wp2
      go_ret
      have : k = s.size := by omega
      subst this
      exact ⟨ret_int (by rw [cl_end s HA.out]), rfl⟩

/-- The list of keywords, as the reference makes it. -/
def kwCells : Array Value := (kws.map fun l => Value.string ⟨l.toArray⟩).toArray
set_option maxHeartbeats 400000 in
theorem keywords_any (w : World) : Calls Tryz.prog 91 #[] w fun e w' => e = .returned (.slice (some ⟨w.heap.size, 0, none⟩) 31 31) ∧ w' = w.alloc (.cells kwCells 9) := by
  go_enter Tryz.func91, Tryz.ntmps91
  go_wp2
  go_ret
  exact ⟨rfl, rfl⟩
def symCells : Array Value := (syms.map fun l => Value.string ⟨l.toArray⟩).toArray
/-- A list of strings in one block, as the reference makes it. -/
def StrsAt (w : World) (b : Nat) (L : List (List UInt8)) : Prop := ∀ (j : Nat) (l : List UInt8), L[j]? = some l → w.cell? ⟨b, j, none⟩ = some (.string ⟨l.toArray⟩)
theorem has_hit (L : List (List UInt8)) (l : List UInt8) (s : ByteArray) (k : Nat) (h : L[k]? = some l) (h2 : (l == s.toList) = true) : true = L.any fun l => l == s.data.toList := by
  rw [Lib.toList_data] at h2
  exact (List.any_eq_true.2 ⟨l, List.mem_of_getElem? h, h2⟩).symm
def anyUpto (L : List (List UInt8)) (s : List UInt8) (k : Nat) : Bool := (L.take k).any fun l => l == s
theorem anyUpto_snoc (L : List (List UInt8)) (l : List UInt8) (s : ByteArray) (k : Nat) (h : L[k]? = some l) (h2 : (l == s.toList) = false) (h3 : anyUpto L s.data.toList k = false) : anyUpto L s.data.toList (k + 1) = false := by
  rw [Lib.toList_data] at h2
  unfold anyUpto at *
  rw [List.take_add_one, List.any_append, h3, h]
  simp [h2]
set_option maxHeartbeats 400000 in
theorem has_any (b : Nat) (L : List (List UInt8)) (s : ByteArray) (w : World) (n : Nat) (hn : L.length = n) (h63 : n ≤ 1000) (hc : StrsAt w b L) :
    Calls Tryz.prog 90 #[.slice (some ⟨b, 0, none⟩) n n, .string s] w fun e w' => e = .returned (.bool (L.any fun l => l == s.data.toList)) ∧ w = w' := by
  go_enter Tryz.func90, Tryz.ntmps90
  have HN := Lib.hid hn
  have HC := Lib.hid hc
  clear hn hc
  go_wp2
  go_loop [5] (fun i => ∃ k : Nat, k ≤ n ∧ i = .int .i64 k ∧ anyUpto L s.data.toList k = false) (fun i => n - (intOf i).toNat)
  case atStart => exact ⟨0, Nat.zero_le _, rfl, by simp [anyUpto]⟩
  case round =>
    obtain ⟨k, hk, rfl, hall⟩ := hrel
    have HA := Lib.hid hall
    clear hall
    by_cases hlt : k < n
    · obtain ⟨l, hl⟩ : ∃ l, L[k]? = some l := ⟨L[k]'(by rw [HN.out]; exact hlt), List.getElem?_eq_getElem _⟩
      have hcell := HC.out k l hl
      have HL := Lib.hid hl
      clear hl
      go_wp2
      all_goals first
        | (have h2 : (l == s.toList) = true := by assumption
           go_ret
           exact ⟨ret_bool (has_hit L l s k HL.out h2), rfl⟩)
        | (have h2 : (l == s.toList) = false := by assumption
           have HW := Lib.hid h2
           clear h2
           go_round
           case rel => exact ⟨k + 1, by omega, by go_num, anyUpto_snoc L l s k HL.out HW.out HA.out⟩
           case measure => simp [intOf]; omega)
    · go_wp2
      go_ret
      have : k = n := by omega
      subst this
      exact ⟨ret_bool (by have := HA.out; unfold anyUpto at this; rw [← HN.out, List.take_length] at this; exact this.symm), rfl⟩

theorem strsAt_new (w : World) (L : List (List UInt8)) (e : TypeId) : StrsAt (w.alloc (.cells (L.map fun l => Value.string ⟨l.toArray⟩).toArray e)) w.heap.size L := by
  intro j l hl
  have h := heap_alloc_new w (.cells (L.map fun l => Value.string ⟨l.toArray⟩).toArray e)
  rw [cell_of_row _ w.heap.size j _ e (0, 0) h]
  simp [hl]
theorem any_comm (L : List (List UInt8)) (s : List UInt8) : (L.any fun l => l == s) = L.any fun l => s == l := by
  congr 1; funext l; rw [Bool.eq_iff_iff]; simp; exact eq_comm
set_option maxHeartbeats 400000 in
theorem refIsKw_any (s : ByteArray) (w : World) : Calls Tryz.prog 70 #[.string s] w fun e w' => e = .returned (.bool (isKw s.toList)) ∧ Below w.heap.size w w' := by
  go_enter Tryz.func70, Tryz.ntmps70
  go_wp2_with (first | (go_at_call 91; refine (keywords_any _).mono ?_; rintro e w' ⟨rfl, rfl⟩) | (go_at_call 90; refine (has_any _ kws _ _ 31 rfl (by decide) (strsAt_new w kws _)).mono ?_; rintro e w' ⟨rfl, rfl⟩))
  go_ret
  exact ⟨ret_bool (by rw [any_comm, isKw, Lib.toList_data]), (Below.refl _ _).alloc (Nat.le_refl _) _⟩
end Go.Proofs.YthbcfcbonmphfaaGreatDoor

/- Walks: names, integers, symbols, valid tokens. -/
namespace Go.Proofs.YthbcfcbonmphfaaGreatDoor
open Go.RowKit
theorem ret_two {a b : Value} {a' b' : Value} (h : a = a') (h2 : b = b') : Ending.returned (.tuple #[a, b]) = .returned (.tuple #[a', b']) := by rw [h, h2]

theorem isName_empty (s : ByteArray) (h : s.size = 0) : false = isName s.toList := by
  rw [Lib.toList_data]; unfold isName; rw [size_toList, h]; rfl
theorem isName_long (s : ByteArray) (h : 40 < s.size) : false = isName s.toList := by
  rw [Lib.toList_data]; unfold isName; rw [size_toList]
  have : decide (s.size ≤ 40) = false := by simp; omega
  rw [this]; simp
theorem all_iff_wl (l : List UInt8) : (l.all isW = true) ↔ wl l = l.length := by
  unfold wl
  induction l with
  | nil => simp
  | cons c l ih =>
    by_cases h : isW c = true
    · rw [List.all_cons, h, Bool.true_and, ih, List.takeWhile_cons_of_pos h]; simp
    · rw [List.all_cons, List.takeWhile_cons_of_neg h]; simp [h]
theorem isName_is (s : ByteArray) (h0 : 0 < s.size) (h : s.size ≤ 40) : isName s.toList = (decide (cls (s[0].toNat : Int) = 4) && decide (wl s.data.toList = s.size) && !isKw s.toList) := by
  rw [Lib.toList_data]; unfold isName
  have e : (s.data.toList.all isW) = decide (wl s.data.toList = s.size) := by
    rw [Bool.eq_iff_iff, all_iff_wl, size_toList]; simp
  rw [size_toList, e, get_any _ s 0 h0]
  simp [h0, h]

set_option maxHeartbeats 400000 in
theorem isName_any (s : ByteArray) (w : World) (hs : s.size ≤ maxLen) : Calls Tryz.prog 67 #[.string s] w fun e w' => e = .returned (.bool (isName s.toList)) ∧ w = w' := by
  by_cases h0 : s.size = 0
  · have he : s.toList = [] := by rw [Lib.toList_data]; exact List.eq_nil_of_length_eq_zero (by rw [size_toList]; exact h0)
    have E := Lib.hid (isName_empty s h0)
    go_enter Tryz.func67, Tryz.ntmps67
    go_wp2
    go_ret
    exact ⟨ret_bool E.out, rfl⟩
  · have h0' : 0 < s.size := by omega
    have he : s.toList.isEmpty = false := by
      rw [Lib.toList_data, List.isEmpty_eq_false_iff]; intro e; have := congrArg List.length e; rw [size_toList] at this; exact h0 this
    have he2 : (s.toList == []) = false := by rw [← he]; cases s.toList <;> rfl
    by_cases h40 : s.size ≤ 40
    · have E := Lib.hid (isName_is s h0' h40)
      have HS := Lib.hid hs
      clear hs h0
      go_enter Tryz.func67, Tryz.ntmps67
      go_wp2_with (first | (go_at_call 86; refine (classify_any _ _).mono ?_; rintro e w' ⟨rfl, rfl⟩) | (go_at_call 87; refine (wordLength_any _ _ HS.out).mono ?_; rintro e w' ⟨rfl, rfl⟩) | (go_at_call 88; refine (iskw_any _ _).mono ?_; rintro e w' ⟨rfl, rfl⟩))
      · go_ret
        have b : (wl s.data.toList : Int) = s.size := by assumption
        have a : cls (s[0].toNat : Int) = 4 := by assumption
        have b' : wl s.data.toList = s.size := by omega
        exact ⟨ret_bool (by rw [E.out]; simp [a, b']), rfl⟩
      · go_ret
        have b : ¬ (wl s.data.toList : Int) = s.size := by assumption
        have b' : ¬ wl s.data.toList = s.size := by omega
        exact ⟨ret_bool (by rw [E.out]; simp [b']), rfl⟩
      · go_ret
        have a : ¬ cls (s[0].toNat : Int) = 4 := by assumption
        exact ⟨ret_bool (by rw [E.out]; simp [a]), rfl⟩
    · have E := Lib.hid (isName_long s (by omega))
      clear h0
      go_enter Tryz.func67, Tryz.ntmps67
      go_wp2
      go_ret
      exact ⟨ret_bool E.out, rfl⟩

theorem digit_big (c : UInt8) (m : Nat) (h5 : (cls (c.toNat : Int) != 5) = false) (hb : 1099511627776 < 10 * (m : Int) + ((c.toNat : Int) - 48) % 256) : 1099511627776 < 10 * m + (c.toNat - 48) := by
  have := (cls_5 (c.toNat : Int)).1 (by simpa using h5)
  omega
theorem digit_fits (c : UInt8) (m : Nat) (h5 : (cls (c.toNat : Int) != 5) = false) (hb : 10 * (m : Int) + ((c.toNat : Int) - 48) % 256 ≤ 1099511627776) :
    cls (c.toNat : Int) = 5 ∧ 10 * m + (c.toNat - 48) ≤ 1099511627776 ∧ 10 * (m : Int) + ((c.toNat : Int) - 48) % 256 = ((10 * m + (c.toNat - 48) : Nat) : Int) := by
  have h : cls (c.toNat : Int) = 5 := by simpa using h5
  have := (cls_5 (c.toNat : Int)).1 h
  refine ⟨h, by omega, by omega⟩
theorem number_lead (s : ByteArray) (h : 1 < s.size) (h48 : (s[0].toNat : Int) = 48) : number s.data.toList = none := by
  unfold number
  rw [if_pos]
  refine ⟨by rw [size_toList]; exact h, ?_⟩
  rw [List.getElem?_eq_getElem (by rw [size_toList]; omega)]
  have e : s.data.toList[0]'(by rw [size_toList]; omega) = s[0] := rfl
  rw [e]
  congr 1
  have e48 : s[0].toNat = 48 := by omega
  exact UInt8.toNat_inj.1 e48
theorem number_go (s : ByteArray) (h : ¬ (1 < s.size ∧ ∃ h : 0 < s.size, (s[0].toNat : Int) = 48)) : number s.data.toList = numGo s.data.toList 0 := by
  unfold number
  rw [if_neg]
  rintro ⟨h1, h2⟩
  rw [size_toList] at h1
  refine h ⟨h1, by omega, ?_⟩
  rw [List.getElem?_eq_getElem (by rw [size_toList]; omega)] at h2
  have e : s.data.toList[0]'(by rw [size_toList]; omega) = s[0] := rfl
  rw [e] at h2
  rw [Option.some.inj h2]
  rfl

set_option maxHeartbeats 400000 in
theorem integer_lead (s : ByteArray) (w : World) (h1 : 1 < s.size) (h48 : ((s[0].toNat : Int) == 48) = true) :
    Calls Tryz.prog 118 #[.string s] w fun e w' => e = .returned (.tuple #[.int .i64 0, .bool false]) ∧ w = w' := by
  go_enter Tryz.func118, Tryz.ntmps118
  go_wp2
  go_ret2
  exact ⟨rfl, rfl⟩

set_option maxHeartbeats 400000 in
theorem integer_go (s : ByteArray) (w : World) (hs : s.size ≤ maxLen) (h1 : ¬ (1 < s.size ∧ ∃ h : 0 < s.size, (s[0].toNat : Int) = 48)) :
    Calls Tryz.prog 118 #[.string s] w fun e w' => e = .returned (.tuple #[.int .i64 ((numGo s.data.toList 0).getD 0), .bool (numGo s.data.toList 0).isSome]) ∧ w = w' := by
  unfold maxLen at hs
  have H1 := Lib.hid h1
  have hc : s.size ≤ 1 ∨ ∃ h : 0 < s.size, 1 < s.size ∧ ((s[0].toNat : Int) == 48) = false := by
    by_cases h2 : 1 < s.size
    · exact Or.inr ⟨by omega, h2, by simp; intro e; exact h1 ⟨h2, by omega, by omega⟩⟩
    · exact Or.inl (by omega)
  clear h1
  rcases hc with hc | ⟨_, hc, hc2⟩
  all_goals
    go_enter Tryz.func118, Tryz.ntmps118
    go_wp2
    go_loop [4, 16] (fun n i => ∃ k m : Nat, k ≤ s.size ∧ m ≤ 1099511627776 ∧ n = .int .i64 m ∧ i = .int .i64 k ∧ numGo s.data.toList 0 = numGo (s.data.toList.drop k) m) (fun _ i => s.size - (intOf i).toNat)
    case atStart => exact ⟨0, 0, Nat.zero_le _, by omega, rfl, rfl, rfl⟩
    case round =>
      obtain ⟨k, m, hk, hm, rfl, rfl, hnum⟩ := hrel
      have HA := Lib.hid hnum
      clear hnum
      by_cases hlt : k < s.size
      · go_wp2_with (go_at_call 86; refine (classify_any _ _).mono ?_; rintro e w' ⟨rfl, rfl⟩)
        · go_ret2
          have h5 : (cls (s[k].toNat : Int) != 5) = true := by assumption
          exact ⟨by rw [HA.out, numGo_no s k m hlt (by simpa using h5)]; rfl, rfl⟩
        · go_ret2
          have h5 : (cls (s[k].toNat : Int) != 5) = false := by assumption
          have hb : 1099511627776 < 10 * (m : Int) + ((s[k].toNat : Int) - 48) % 256 := by assumption
          exact ⟨by rw [HA.out, numGo_big s k m hlt (digit_big s[k] m h5 hb)]; rfl, rfl⟩
        · have h5 : (cls (s[k].toNat : Int) != 5) = false := by assumption
          have hb : 10 * (m : Int) + ((s[k].toNat : Int) - 48) % 256 ≤ 1099511627776 := by assumption
          have D := digit_fits s[k] m h5 hb
          have HD := Lib.hid D
          clear D
          go_round
          case rel => exact ⟨k + 1, _, by omega, HD.out.2.1, congrArg _ HD.out.2.2, by go_num, by rw [HA.out]; exact numGo_step s k m hlt HD.out.1 HD.out.2.1⟩
          case measure => simp [intOf]; omega
      · go_wp2
        go_ret2
        have : k = s.size := by omega
        subst this
        exact ⟨by rw [HA.out, numGo_end]; rfl, rfl⟩

def numVal (l : List UInt8) : Value := .tuple #[.int .i64 ((number l).getD 0), .bool (number l).isSome]
theorem integer_any (s : ByteArray) (w : World) (hs : s.size ≤ maxLen) : Calls Tryz.prog 118 #[.string s] w fun e w' => e = .returned (numVal s.data.toList) ∧ w = w' := by
  unfold numVal
  by_cases h : 1 < s.size ∧ ∃ h : 0 < s.size, (s[0].toNat : Int) = 48
  · obtain ⟨h1, h2, h48⟩ := h
    rw [number_lead s h1 h48]
    exact integer_lead s w h1 (by simpa using h48)
  · rw [number_go s h]
    exact integer_go s w hs h

/-- The variable pairs holds its four symbols. -/
def Pairs (w : World) : Prop := w.cell? ⟨1, 0, none⟩ = some (.string ⟨#[61, 61]⟩) ∧ w.cell? ⟨1, 1, none⟩ = some (.string ⟨#[33, 61]⟩) ∧ w.cell? ⟨1, 2, none⟩ = some (.string ⟨#[60, 61]⟩) ∧ w.cell? ⟨1, 3, none⟩ = some (.string ⟨#[45, 62]⟩)
theorem Pairs.keep {w w' : World} (h : Pairs w) (hk : ∀ o, w'.cell? ⟨1, o, none⟩ = w.cell? ⟨1, o, none⟩) : Pairs w' :=
  ⟨(hk 0).trans h.1, (hk 1).trans h.2.1, (hk 2).trans h.2.2.1, (hk 3).trans h.2.2.2⟩
theorem Pairs.lt {w : World} (h : Pairs w) : 1 < w.heap.size := by
  rcases Nat.lt_or_ge 1 w.heap.size with hl | hl
  · exact hl
  · have := h.1
    rw [World.cell?, Array.getElem?_eq_none (by simpa using hl)] at this
    cases this
theorem Pairs.below {w w' : World} (h : Pairs w) {B : Nat} (hb : Below B w w') (hB : 1 < B) : Pairs w' := h.keep fun _ => hb.cell hB
theorem Pairs.drew {w : World} (h : Pairs w) : Pairs w.drew := h
theorem Pairs.drewN {w : World} (h : Pairs w) (n : Nat) : Pairs (w.drewN n) := h
theorem Pairs.alloc {w : World} (h : Pairs w) (o : Obj) : Pairs (w.alloc o) := h.keep fun _ => World.cell?_alloc_lt w o _ h.lt
end Go.Proofs.YthbcfcbonmphfaaGreatDoor
/- Walks: symbols. -/
namespace Go.Proofs.YthbcfcbonmphfaaGreatDoor
open Go.RowKit

def pairAt (k : Nat) : List UInt8 := pairsL.getD k []
theorem Pairs.at_ {w : World} (h : Pairs w) (k : Nat) (hk : k < 4) : w.cell? ⟨1, k, none⟩ = some (.string ⟨(pairAt k).toArray⟩) := by
  match k, hk with
  | 0, _ => exact h.1
  | 1, _ => exact h.2.1
  | 2, _ => exact h.2.2.1
  | 3, _ => exact h.2.2.2
def noPair (s : ByteArray) (k : Nat) : Prop := ∀ j, j < k → decide (2 ≤ s.size) = true → ((s.extract 0 2).toList == pairAt j) = false

theorem symLen_empty (s : ByteArray) (h : s.size = 0) : (0 : Int) = symLen s.data.toList := by
  have : s.data.toList = [] := List.eq_nil_of_length_eq_zero (by rw [size_toList]; exact h)
  rw [this]; rfl
theorem take2 (s : ByteArray) : (s.extract 0 2).toList = s.data.toList.take 2 := by rw [Lib.extract_toList]; rfl
theorem symLen_pair (s : ByteArray) (k : Nat) (hk : k < 4) (h2 : 2 ≤ s.size) (h : ((s.extract 0 2).toList == pairAt k) = true) : (2 : Int) = symLen s.data.toList := by
  rw [take2] at h
  unfold symLen
  rw [if_pos]
  · rfl
  · rw [Bool.and_eq_true, size_toList]
    refine ⟨by simpa using h2, List.any_eq_true.2 ⟨pairAt k, ?_, h⟩⟩
    match k, hk with
    | 0, _ => decide
    | 1, _ => decide
    | 2, _ => decide
    | 3, _ => decide
theorem noPair_snoc (s : ByteArray) (k : Nat) (h : noPair s k) (h2 : decide (2 ≤ s.size) = true → ((s.extract 0 2).toList == pairAt k) = false) : noPair s (k + 1) := by
  intro j hj hd
  rcases Nat.lt_or_ge j k with hl | hl
  · exact h j hl hd
  · have : j = k := by omega
    subst this
    exact h2 hd
def hitI (c : Int) : Bool := c == 40 || c == 41 || c == 123 || c == 125 || c == 91 || c == 93 || c == 44 || c == 59 || c == 58 || c == 46 || c == 61 || c == 60 || c == 43 || c == 45 || c == 42 || c == 47 || c == 37
theorem hitI_all : ∀ n, n < 256 → singles.contains (UInt8.ofNat n) = hitI n := by decide +kernel
theorem hitI_of (c : UInt8) : singles.contains c = hitI c.toNat := by
  have := hitI_all c.toNat c.toNat_lt
  rwa [UInt8.ofNat_toNat] at this
theorem symLen_rest (s : ByteArray) (h0 : 0 < s.size) (h : noPair s 4) : (symLen s.data.toList : Int) = if hitI s[0].toNat then 1 else 0 := by
  unfold symLen
  rw [if_neg, get_any _ s 0 h0, hitI_of]
  · split <;> rfl
  · rw [Bool.and_eq_true, size_toList]
    rintro ⟨h1, h2⟩
    obtain ⟨p, hp, he⟩ := List.any_eq_true.1 h2
    rw [← take2] at he
    have a0 := h 0 (by omega) h1
    have a1 := h 1 (by omega) h1
    have a2 := h 2 (by omega) h1
    have a3 := h 3 (by omega) h1
    simp only [pairsL, List.mem_cons, List.not_mem_nil, or_false] at hp
    rcases hp with rfl | rfl | rfl | rfl
    · exact absurd he (by rw [Bool.not_eq_true]; exact a0)
    · exact absurd he (by rw [Bool.not_eq_true]; exact a1)
    · exact absurd he (by rw [Bool.not_eq_true]; exact a2)
    · exact absurd he (by rw [Bool.not_eq_true]; exact a3)
set_option maxHeartbeats 400000 in
theorem symbolLength_any (s : ByteArray) (w : World) (hs : s.size ≤ maxLen) (hp : Pairs w) : Calls Tryz.prog 109 #[.string s] w fun e w' => e = .returned (.int .i64 (symLen s.data.toList)) ∧ ∃ n, w' = w.drewN n := by
  unfold maxLen at hs
  have HP := Lib.hid hp
  clear hp
  by_cases h0 : s.size = 0
  · have he : s.toList = [] := by rw [Lib.toList_data]; exact List.eq_nil_of_length_eq_zero (by rw [size_toList]; exact h0)
    have E := Lib.hid (symLen_empty s h0)
    go_enter Tryz.func109, Tryz.ntmps109
    go_wp2
    go_ret
    exact ⟨ret_int E.out, 0, rfl⟩
  have he : s.toList.isEmpty = false := by
    rw [Lib.toList_data, List.isEmpty_eq_false_iff]; intro e; have := congrArg List.length e; rw [size_toList] at this; exact h0 this
  have h0' : 0 < s.size := by omega
  clear h0
  go_enter Tryz.func109, Tryz.ntmps109
  go_wp2
  go_loopw [6] (fun i wr => ∃ k n : Nat, k ≤ 4 ∧ i = .int .i64 k ∧ wr = w.drewN n ∧ noPair s k) (fun i _ => 4 - (intOf i).toNat)
  case atStart => exact ⟨0, 0, by omega, rfl, rfl, fun j hj => absurd hj (by omega)⟩
  case round =>
    obtain ⟨k, n, hk, rfl, rfl, hno⟩ := hrel
    have HN := Lib.hid hno
    clear hno
    by_cases hlt : k < 4
    · have hcell : w.cell? ⟨1, k, none⟩ = some (.string ⟨(pairAt k).toArray⟩) := HP.out.at_ k hlt
      by_cases h2 : 2 ≤ s.size
      · have hd : decide ((2 : Int) ≤ (s.size : Int)) = true := by simp; omega
        have h2I : (2 : Int) ≤ (s.size : Int) := by omega
        have hkI : (k : Int) < 4 := by omega
        go_wp2
        go_quiet (fail)
        go_wp2
        · go_ret
          have hit : ((s.extract 0 2).toList == pairAt k) = true := by assumption
          exact ⟨ret_int (symLen_pair s k hlt h2 hit), n + nq, World.drewN_drewN ..⟩
        · have miss : ((s.extract 0 2).toList == pairAt k) = false := by assumption
          have HM := Lib.hid miss
          clear miss
          go_roundw
          case rel => exact ⟨k + 1, _, by omega, by go_num, rfl, noPair_snoc s k HN.out fun _ => HM.out⟩
          case measure => simp [intOf]; omega
      · have hd : decide ((2 : Int) ≤ (s.size : Int)) = false := by simp; omega
        go_wp2
        go_quiet (fail)
        go_wp2
        go_roundw
        case rel => exact ⟨k + 1, _, by omega, by go_num, rfl, noPair_snoc s k HN.out fun h => absurd h (by simp; omega)⟩
        case measure => simp [intOf]; omega
    · obtain rfl : k = 4 := by omega
      have HR := Lib.hid (symLen_rest s h0' HN.out)
      go_wp2
      all_goals (go_ret; exact ⟨ret_int (by rw [HR.out]; first | (simp only [hitI, *, Bool.true_or, Bool.or_true, Bool.or_false, if_true, if_false, Bool.false_eq_true]; done) | (exfalso; simp_all; done)), _, rfl⟩)

theorem below_drewN {B : Nat} {a w : World} (h : Below B a w) (n : Nat) : Below B a (w.drewN n) := ⟨h.os, h.tape, h.output, h.size, h.block⟩
def tokV (k : Int) (s : ByteArray) (n a b : Int) : Value := .agg #[.int .i64 k, .string s, .int .i64 n, .int .i64 a, .int .i64 b]
def tokCells (k : Int) (s : ByteArray) (n a b : Int) : Array Value := #[.int .i64 k, .string s, .int .i64 n, .int .i64 a, .int .i64 b]
theorem empty_iff (s : ByteArray) : decide (s.data.toList = []) = s.toList.isEmpty := by
  rw [Lib.toList_data]; cases s.data.toList <;> rfl
set_option maxHeartbeats 400000 in
theorem refIsName_any (s : ByteArray) (w : World) (hs : s.size ≤ maxLen) : Calls Tryz.prog 40 #[.string s] w fun e w' => e = .returned (.bool (isName s.toList)) ∧ Below w.heap.size w w' := by
  unfold maxLen at hs
  by_cases h0 : s.size = 0
  · have hI : ((s.size : Int) == 0) = true := beq_iff_eq.2 (by omega)
    have E := Lib.hid (isName_empty s h0)
    clear h0
    go_enter Tryz.func40, Tryz.ntmps40
    go_wp2
    go_ret
    exact ⟨ret_bool E.out, Below.refl _ _⟩
  · have h0' : 0 < s.size := by omega
    have hI : ((s.size : Int) == 0) = false := beq_eq_false_iff_ne.2 (by omega)
    by_cases h40 : s.size ≤ 40
    · have E := Lib.hid (isName_is s h0' h40)
      clear hs h0
      by_cases h4 : cls (s[0].toNat : Int) = 4
      · have H4 := Lib.hid h4
        clear h4
        have h4' : decide (cls (s[0].toNat : Int) = 4) = true := by simpa using H4.out
        go_enter Tryz.func40, Tryz.ntmps40
        go_wp2_with (go_at_call 68; refine (letter_any _ _).mono ?_; rintro e w' ⟨rfl, rfl⟩)
        go_loop [3] (fun i => ∃ k : Nat, k ≤ s.size ∧ i = .int .i64 k ∧ (s.data.toList.take k).all isW = true) (fun i => s.size - (intOf i).toNat)
        case atStart => exact ⟨0, Nat.zero_le _, rfl, by simp⟩
        case round =>
          obtain ⟨k, hk, rfl, hall⟩ := hrel
          have HA := Lib.hid hall
          clear hall h4'
          by_cases hlt : k < s.size
          · go_wp2_with (go_at_call 69; refine (word_any _ _).mono ?_; rintro e w' ⟨rfl, rfl⟩)
            · go_ret
              have hno : (!isWI (s[k].toNat : Int)) = true := by assumption
              exact ⟨ret_bool (by rw [E.out, wl_at s k hlt HA.out (by unfold isW; simpa using hno)]; simp; omega), Below.refl _ _⟩
            · have hyes : (!isWI (s[k].toNat : Int)) = false := by assumption
              have HY := Lib.hid hyes
              clear hyes
              go_round
              case rel => exact ⟨k + 1, by omega, by go_num, take_all_snoc isW s k hlt HA.out (by have := HY.out; unfold isW; simpa using this)⟩
              case measure => simp [intOf]; omega
          · have : k = s.size := by omega
            subst this
            have HW := Lib.hid (wl_end s HA.out)
            go_wp2_with (go_at_call 70; refine (refIsKw_any _ _).mono ?_; rintro e w' ⟨rfl, hb⟩)
            go_ret
            exact ⟨ret_bool (by rw [E.out, HW.out, H4.out]; simp), hb⟩
      · have h4' : decide (cls (s[0].toNat : Int) = 4) = false := by simpa using h4
        have H4 := Lib.hid h4
        clear h4
        go_enter Tryz.func40, Tryz.ntmps40
        go_wp2_with (go_at_call 68; refine (letter_any _ _).mono ?_; rintro e w' ⟨rfl, rfl⟩)
        go_ret
        exact ⟨ret_bool (by rw [E.out, h4']; rfl), Below.refl _ _⟩
    · have E := Lib.hid (isName_long s (by omega))
      clear h0
      go_enter Tryz.func40, Tryz.ntmps40
      go_wp2
      go_ret
      exact ⟨ret_bool E.out, Below.refl _ _⟩


end Go.Proofs.YthbcfcbonmphfaaGreatDoor

/- Walks: valid tokens, by the reference. -/
namespace Go.Proofs.YthbcfcbonmphfaaGreatDoor
open Go.RowKit
theorem hasSym_of (b : Nat) (s : ByteArray) (w : World) (v : Bool) (hv : isSym s.data.toList = v) (hc : StrsAt w b syms) :
    Calls Tryz.prog 90 #[.slice (some ⟨b, 0, none⟩) 21 21, .string s] w fun e w' => e = .returned (.bool v) ∧ w = w' :=
  (has_any b syms s w 21 rfl (by decide) hc).mono fun _ _ ⟨he, hw⟩ => ⟨by rw [he, any_comm, ← hv]; rfl, hw⟩

end Go.Proofs.YthbcfcbonmphfaaGreatDoor
namespace Go.Proofs.YthbcfcbonmphfaaGreatDoor
open Go.RowKit

set_option maxHeartbeats 400000 in
theorem copied_any (s : ByteArray) (w : World) (hs : s.size ≤ maxLen) : Calls Tryz.prog 110 #[.string s] w fun e w' => e = .returned (.string s) ∧ Below w.heap.size w w' := by
  have hc := Lib.run_convert_string_bytes (P := Tryz.prog) w 9 93 5 s Tryz.underlying9 Tryz.underlying93 Tryz.underlying5
  have hB : Lib.Bytes (Lib.bytesWorld w 5 s) w.heap.size 0 s := by
    intro i hi
    rw [Nat.zero_add, Lib.bytesWorld_cell w 5 s i hi]
    have : s.data.toList.getD i 0 = s[i] := by rw [List.getD_eq_getElem?_getD, List.getElem?_eq_getElem (by simpa using hi)]; rfl
    rw [this]
  have hc2 := Lib.run_convert_whole (P := Tryz.prog) (Lib.bytesWorld w 5 s) 93 5 9 Tryz.underlying93 Tryz.underlying5 Tryz.underlying9 w.heap.size 0 s hB (grownCap w s.size 0 5)
  have HB : Hid (Below w.heap.size w (Lib.bytesWorld w 5 s)) := ⟨rfl, rfl, rfl, by rw [Lib.bytesWorld_size]; omega, fun k hk => Lib.bytesWorld_at_old w 5 s k hk⟩
  clear hB
  generalize Lib.bytesWorld w 5 s = W1 at *
  go_enter Tryz.func110, Tryz.ntmps110
  go_wp2
  go_ret
  exact ⟨rfl, HB.out⟩

/-- The reader's block. -/
def Rd (w : World) (b : Nat) (s : ByteArray) (line col : Int) : Prop := w.heap[b]? = some (.cells #[.string s, .int .i64 line, .int .i64 col] 128 (0, 0))
section
variable {w w' : World} {b : Nat} {s : ByteArray} {x y : Int}
theorem Rd.lt (h : Rd w b s x y) : b < w.heap.size := by
  rcases Nat.lt_or_ge b w.heap.size with hlt | hge
  · exact hlt
  · unfold Rd at h; rw [Array.getElem?_eq_none hge] at h; cases h
theorem Rd.c0 (h : Rd w b s x y) : w.cell? ⟨b, 0, none⟩ = some (.string s) := cell_of_row w b 0 _ _ (0, 0) h
theorem Rd.c1 (h : Rd w b s x y) : w.cell? ⟨b, 1, none⟩ = some (.int .i64 x) := cell_of_row w b 1 _ _ (0, 0) h
theorem Rd.c2 (h : Rd w b s x y) : w.cell? ⟨b, 2, none⟩ = some (.int .i64 y) := cell_of_row w b 2 _ _ (0, 0) h
theorem Rd.frozen (h : Rd w b s x y) (i : Nat) : w.frozen? ⟨b, i, none⟩ = false := by
  unfold Rd at h
  simp [World.frozen?, h]
theorem Rd.drewN (h : Rd w b s x y) (n : Nat) : Rd (w.drewN n) b s x y := h
theorem Rd.alloc (h : Rd w b s x y) (o : Obj) : Rd (w.alloc o) b s x y := (Below.heap_alloc w o b h.lt).trans h
theorem Rd.far (h : Rd w b s x y) {p : Addr} (hp : b ≠ p.block) (u : Value) : Rd (w.setCell p u) b s x y := (Below.heap_setCell w p u b hp).trans h
theorem Rd.below {B : Nat} (h : Rd w b s x y) (hb : Below B w w') (hg : b < B) : Rd w' b s x y := (hb.block b hg).trans h
theorem Rd.set0 (h : Rd w b s x y) (u : ByteArray) : Rd (w.setCell ⟨b, 0, none⟩ (.string u)) b u x y := by
  unfold Rd at h ⊢
  simp [World.setCell, Array.getElem?_modify, h]
theorem Rd.set1 (h : Rd w b s x y) (u : Int) : Rd (w.setCell ⟨b, 1, none⟩ (.int .i64 u)) b s u y := by
  unfold Rd at h ⊢
  simp [World.setCell, Array.getElem?_modify, h]
theorem Rd.set2 (h : Rd w b s x y) (u : Int) : Rd (w.setCell ⟨b, 2, none⟩ (.int .i64 u)) b s x u := by
  unfold Rd at h ⊢
  simp [World.setCell, Array.getElem?_modify, h]
theorem only_setCell {a w : World} {g : Nat} (h : a.grownBy w (some g)) {p : Addr} (hp : p.block = g ∨ a.heap.size ≤ p.block) (u : Value) : a.grownBy (w.setCell p u) (some g) :=
  ⟨h.os, h.tape, h.output, by simpa [World.setCell] using h.size, fun i hi hne => (Below.heap_setCell w p u i (by
    rintro rfl
    rcases hp with hp | hp
    · exact hne (by rw [hp])
    · omega)).trans (h.block i hi hne)⟩
theorem only_alloc {a w : World} {row : Option Nat} (h : a.grownBy w row) (o : Obj) : a.grownBy (w.alloc o) row :=
  ⟨h.os, h.tape, h.output, Nat.le_trans h.size (by simp), fun i hi hne => (Below.heap_alloc w o i (Nat.lt_of_lt_of_le hi h.size)).trans (h.block i hi hne)⟩
theorem only_below {a w w1 : World} {row : Option Nat} (h : a.grownBy w row) (hb : Below w.heap.size w w1) : a.grownBy w1 row :=
  ⟨hb.os.trans h.os, hb.tape.trans h.tape, hb.output.trans h.output, Nat.le_trans h.size hb.size, fun i hi hn => (hb.block i (Nat.lt_of_lt_of_le hi h.size)).trans (h.block i hi hn)⟩
theorem only_trans {a b c : World} {row : Option Nat} (h : a.grownBy b row) (k : b.grownBy c row) : a.grownBy c row :=
  ⟨k.os.trans h.os, k.tape.trans h.tape, k.output.trans h.output, Nat.le_trans h.size k.size, fun i hi hn => (k.block i (Nat.lt_of_lt_of_le hi h.size) hn).trans (h.block i hi hn)⟩
end

set_option maxHeartbeats 400000 in
theorem take_any (b n : Nat) (s : ByteArray) (x y : Int) (w : World) (hs : s.size ≤ maxLen) (hn : n ≤ s.size) (hr : Rd w b s x y) (hy0 : 0 ≤ y) (hy : y ≤ 4000000000000000000) (hb : n ≤ 4000000000000000000) :
    Calls Tryz.prog 105 #[.pointer (some ⟨b, 0, none⟩), .int .i64 n] w fun e w' => e = .returned (.string (s.extract 0 n)) ∧ Rd w' b (s.extract n s.size) x (y + n) ∧ w.grownBy w' (some b) := by
  unfold maxLen at hs
  have h0 := hr.c0
  have h2 := hr.c2
  have f0 := hr.frozen 0
  have f2 := hr.frozen 2
  have HR := Lib.hid hr
  clear hr
  have hnI : (n : Int) ≤ (s.size : Int) := by omega
  go_enter Tryz.func105, Tryz.ntmps105
  go_wp2
  go_ret
  refine ⟨rfl, ?_, ?_⟩
  · exact Rd.set2 (Rd.set0 HR.out _) _
  · exact only_setCell (p := ⟨b, 2, none⟩) (only_setCell (p := ⟨b, 0, none⟩) (World.grownBy.refl w _) (.inl rfl) _) (.inl rfl) _

set_option maxHeartbeats 400000 in
theorem nextLine_any (b : Nat) (s : ByteArray) (x y : Int) (w : World) (hs : s.size ≤ maxLen) (hn : 1 ≤ s.size) (hr : Rd w b s x y) (hx0 : 0 ≤ x) (hx : x ≤ 4000000000000000000) :
    Calls Tryz.prog 106 #[.pointer (some ⟨b, 0, none⟩)] w fun e w' => e = .returned (.tuple #[]) ∧ Rd w' b (s.extract 1 s.size) (x + 1) 1 ∧ w.grownBy w' (some b) := by
  unfold maxLen at hs
  have h0 := hr.c0
  have h1 := hr.c1
  have h2 := hr.c2
  have f0 := hr.frozen 0
  have f1 := hr.frozen 1
  have f2 := hr.frozen 2
  have HR := Lib.hid hr
  clear hr
  have hnI : (1 : Int) ≤ (s.size : Int) := by omega
  go_enter Tryz.func106, Tryz.ntmps106
  go_wp2
  go_end0
  refine ⟨rfl, ?_, ?_⟩
  · exact Rd.set2 (Rd.set1 (Rd.set0 HR.out _) _) _
  · exact only_setCell (p := ⟨b, 2, none⟩) (only_setCell (p := ⟨b, 1, none⟩) (only_setCell (p := ⟨b, 0, none⟩) (World.grownBy.refl w _) (.inl rfl) _) (.inl rfl) _) (.inl rfl) _
end Go.Proofs.YthbcfcbonmphfaaGreatDoor
