/- Walks of the small functions of lex and of its reference: bytes, words, keywords. -/
import Derived.Test.YthbcfcbonmphfaaDoorProg
import Derived.Test.YthbcfcbonmphfaaDoorLexS
import Derived.WalkKit
import Derived.WalkSpells
import Derived.WalkLawsBesides
import Derived.Lib.Hide
namespace Go.Proofs.YthbcfcbonmphfaaDoor
open Go.RowKit
theorem ret_int {k : IntKind} {a b : Int} (h : a = b) : Ending.returned (.int k a) = .returned (.int k b) := by rw [h]
theorem ret_bool {a b : Bool} (h : a = b) : Ending.returned (.bool a) = .returned (.bool b) := by rw [h]

set_option maxHeartbeats 400000 in
theorem classify_any (c : Int) (w : World) : Calls Tryd.prog 54 #[.int .u8 c] w fun e w' => e = .returned (.int .i64 (cls c)) ∧ w = w' := by
  go_enter Tryd.func54, Tryd.ntmps54
  go_wp2
  all_goals (go_ret; exact ⟨ret_int (by (try simp only [beq_iff_eq, beq_eq_false_iff_ne, ne_eq] at *); unfold cls; (repeat' split) <;> first | rfl | omega), rfl⟩)

set_option maxHeartbeats 400000 in
theorem iskw_any (s : ByteArray) (w : World) : Calls Tryd.prog 16 #[.string s] w fun e w' => e = .returned (.bool (isKw s.toList)) ∧ w = w' := by
  go_enter Tryd.func16, Tryd.ntmps16
  go_wp2
  all_goals (go_ret; exact ⟨ret_bool (by first | (simp only [isKw, kws, List.any_cons, List.any_nil, *, Bool.true_or, Bool.or_true, Bool.or_false]; done) | (exfalso; simp_all; done)), rfl⟩)

set_option maxHeartbeats 400000 in
theorem letter_any (c : Int) (w : World) : Calls Tryd.prog 56 #[.int .u8 c] w fun e w' => e = .returned (.bool (decide (cls c = 4))) ∧ w = w' := by
  go_enter Tryd.func56, Tryd.ntmps56
  go_wp2
  all_goals (go_ret; exact ⟨ret_bool (by have := cls_4 c; rw [Bool.eq_iff_iff]; simp; omega), rfl⟩)

set_option maxHeartbeats 400000 in
theorem digit_any (c : Int) (w : World) : Calls Tryd.prog 109 #[.int .u8 c] w fun e w' => e = .returned (.bool (decide (cls c = 5))) ∧ w = w' := by
  go_enter Tryd.func109, Tryd.ntmps109
  go_wp2
  all_goals (go_ret; exact ⟨ret_bool (by have := cls_5 c; rw [Bool.eq_iff_iff]; simp; omega), rfl⟩)

set_option maxHeartbeats 400000 in
theorem word_any (c : Int) (w : World) : Calls Tryd.prog 57 #[.int .u8 c] w fun e w' => e = .returned (.bool (isWI c)) ∧ w = w' := by
  go_enter Tryd.func57, Tryd.ntmps57
  go_wp2_with (first | (go_at_call 56; refine (letter_any _ _).mono ?_; rintro e w' ⟨rfl, rfl⟩) | (go_at_call 109; refine (digit_any _ _).mono ?_; rintro e w' ⟨rfl, rfl⟩))
  all_goals (go_ret; exact ⟨ret_bool (by rw [Bool.eq_iff_iff, isWI_iff]; simp [cls_6]; try omega), rfl⟩)

set_option maxHeartbeats 400000 in
theorem wordLength_any (s : ByteArray) (w : World) (hs : s.size ≤ maxLen) : Calls Tryd.prog 55 #[.string s] w fun e w' => e = .returned (.int .i64 (wl s.data.toList)) ∧ w = w' := by
  unfold maxLen at hs
  go_enter Tryd.func55, Tryd.ntmps55
  go_wp2
  go_loop [6] (fun i => ∃ k : Nat, k ≤ s.size ∧ i = .int .i64 k ∧ (s.data.toList.take k).all isW = true) (fun i => s.size - (intOf i).toNat)
  case atStart => exact ⟨0, Nat.zero_le _, rfl, by simp⟩
  case round =>
    obtain ⟨k, hk, rfl, hall⟩ := hrel
    have HA := Lib.hid hall
    clear hall
    by_cases hlt : k < s.size
    · go_wp2_with (go_at_call 54; refine (classify_any _ _).mono ?_; rintro e w' ⟨rfl, rfl⟩)
      all_goals first
        | (have h4 : (cls (s[k].toNat : Int) == 4) = false := by assumption
           have h5 : (cls (s[k].toNat : Int) == 5) = false := by assumption
           have h6 : (cls (s[k].toNat : Int) == 6) = false := by assumption
           go_ret
           exact ⟨ret_int (by rw [wl_at s k hlt HA.out (isW_no _ h4 h5 h6)]), rfl⟩)
        | (have hw : isW s[k] = true := isW_yes _ (by first | exact Or.inl ‹_› | exact Or.inr (Or.inl ‹_›) | exact Or.inr (Or.inr ‹_›))
           have HW := Lib.hid hw
           clear hw
           go_round
           case rel => exact ⟨k + 1, by omega, by go_num, take_all_snoc isW s k hlt HA.out HW.out⟩
           case measure => simp [intOf]; omega)
    · go_wp2
      go_ret
      have : k = s.size := by omega
      subst this
      exact ⟨ret_int (by rw [wl_end s HA.out]), rfl⟩

set_option maxHeartbeats 400000 in
theorem commentLength_any (s : ByteArray) (w : World) (hs : s.size ≤ maxLen) : Calls Tryd.prog 113 #[.string s] w fun e w' => e = .returned (.int .i64 (cl s.data.toList)) ∧ w = w' := by
  unfold maxLen at hs
  go_enter Tryd.func113, Tryd.ntmps113
  go_wp2
  go_loop [6] (fun i => ∃ k : Nat, k ≤ s.size ∧ i = .int .i64 k ∧ (s.data.toList.take k).all notNl = true) (fun i => s.size - (intOf i).toNat)
  case atStart => exact ⟨0, Nat.zero_le _, rfl, by simp⟩
  case round =>
    obtain ⟨k, hk, rfl, hall⟩ := hrel
    have HA := Lib.hid hall
    clear hall
    by_cases hlt : k < s.size
    · go_wp2_with (go_at_call 54; refine (classify_any _ _).mono ?_; rintro e w' ⟨rfl, rfl⟩)
      all_goals first
        | (have h2 : (cls (s[k].toNat : Int) == 2) = true := by assumption
           go_ret
           exact ⟨ret_int (by rw [cl_at s k hlt HA.out (by unfold notNl; simpa using h2)]), rfl⟩)
        | (have h2 : (cls (s[k].toNat : Int) == 2) = false := by assumption
           have HW := Lib.hid h2
           clear h2
           go_round
           case rel => exact ⟨k + 1, by omega, by go_num, take_all_snoc notNl s k hlt HA.out (by unfold notNl; simpa using HW.out)⟩
           case measure => simp [intOf]; omega)
    · go_wp2
      go_ret
      have : k = s.size := by omega
      subst this
      exact ⟨ret_int (by rw [cl_end s HA.out]), rfl⟩

/-- The list of keywords, as the reference makes it. -/
def kwCells : Array Value := (kws.map fun l => Value.string ⟨l.toArray⟩).toArray
set_option maxHeartbeats 400000 in
theorem keywords_any (w : World) : Calls Tryd.prog 59 #[] w fun e w' => e = .returned (.slice (some ⟨w.heap.size, 0, none⟩) 31 31) ∧ w' = w.alloc (.cells kwCells 9) := by
  go_enter Tryd.func59, Tryd.ntmps59
  go_wp2
  go_ret
  exact ⟨rfl, rfl⟩
def symCells : Array Value := (syms.map fun l => Value.string ⟨l.toArray⟩).toArray
set_option maxHeartbeats 400000 in
theorem symbols_any (w : World) : Calls Tryd.prog 61 #[] w fun e w' => e = .returned (.slice (some ⟨w.heap.size, 0, none⟩) 21 21) ∧ w' = w.alloc (.cells symCells 9) := by
  go_enter Tryd.func61, Tryd.ntmps61
  go_wp2
  go_ret
  exact ⟨rfl, rfl⟩
/-- A list of strings in one block, as the reference makes it. -/
def StrsAt (w : World) (b : Nat) (L : List (List UInt8)) : Prop := ∀ (j : Nat) (l : List UInt8), L[j]? = some l → w.cell? ⟨b, j, none⟩ = some (.string ⟨l.toArray⟩)
theorem has_hit (L : List (List UInt8)) (l : List UInt8) (s : ByteArray) (k : Nat) (h : L[k]? = some l) (h2 : (l == s.toList) = true) : true = L.any fun l => l == s.data.toList := by
  rw [Lib.toList_data] at h2
  exact (List.any_eq_true.2 ⟨l, List.mem_of_getElem? h, h2⟩).symm
def anyUpto (L : List (List UInt8)) (s : List UInt8) (k : Nat) : Bool := (L.take k).any fun l => l == s
theorem anyUpto_snoc (L : List (List UInt8)) (l : List UInt8) (s : ByteArray) (k : Nat) (h : L[k]? = some l) (h2 : (l == s.toList) = false) (h3 : anyUpto L s.data.toList k = false) : anyUpto L s.data.toList (k + 1) = false := by
  rw [Lib.toList_data] at h2
  unfold anyUpto at *
  rw [List.take_add_one, List.any_append, h3, h]
  simp [h2]
set_option maxHeartbeats 400000 in
theorem has_any (b : Nat) (L : List (List UInt8)) (s : ByteArray) (w : World) (n : Nat) (hn : L.length = n) (h63 : n ≤ 1000) (hc : StrsAt w b L) :
    Calls Tryd.prog 58 #[.slice (some ⟨b, 0, none⟩) n n, .string s] w fun e w' => e = .returned (.bool (L.any fun l => l == s.data.toList)) ∧ w = w' := by
  go_enter Tryd.func58, Tryd.ntmps58
  have HN := Lib.hid hn
  have HC := Lib.hid hc
  clear hn hc
  go_wp2
  go_loop [5] (fun i => ∃ k : Nat, k ≤ n ∧ i = .int .i64 k ∧ anyUpto L s.data.toList k = false) (fun i => n - (intOf i).toNat)
  case atStart => exact ⟨0, Nat.zero_le _, rfl, by simp [anyUpto]⟩
  case round =>
    obtain ⟨k, hk, rfl, hall⟩ := hrel
    have HA := Lib.hid hall
    clear hall
    by_cases hlt : k < n
    · obtain ⟨l, hl⟩ : ∃ l, L[k]? = some l := ⟨L[k]'(by rw [HN.out]; exact hlt), List.getElem?_eq_getElem _⟩
      have hcell := HC.out k l hl
      have HL := Lib.hid hl
      clear hl
      go_wp2
      all_goals first
        | (have h2 : (l == s.toList) = true := by assumption
           go_ret
           exact ⟨ret_bool (has_hit L l s k HL.out h2), rfl⟩)
        | (have h2 : (l == s.toList) = false := by assumption
           have HW := Lib.hid h2
           clear h2
           go_round
           case rel => exact ⟨k + 1, by omega, by go_num, anyUpto_snoc L l s k HL.out HW.out HA.out⟩
           case measure => simp [intOf]; omega)
    · go_wp2
      go_ret
      have : k = n := by omega
      subst this
      exact ⟨ret_bool (by have := HA.out; unfold anyUpto at this; rw [← HN.out, List.take_length] at this; exact this.symm), rfl⟩

theorem strsAt_new (w : World) (L : List (List UInt8)) (e : TypeId) : StrsAt (w.alloc (.cells (L.map fun l => Value.string ⟨l.toArray⟩).toArray e)) w.heap.size L := by
  intro j l hl
  have h := heap_alloc_new w (.cells (L.map fun l => Value.string ⟨l.toArray⟩).toArray e)
  rw [cell_of_row _ w.heap.size j _ e (0, 0) h]
  simp [hl]
theorem any_comm (L : List (List UInt8)) (s : List UInt8) : (L.any fun l => l == s) = L.any fun l => s == l := by
  congr 1; funext l; rw [Bool.eq_iff_iff]; simp; exact eq_comm
set_option maxHeartbeats 400000 in
theorem refIsKw_any (s : ByteArray) (w : World) : Calls Tryd.prog 17 #[.string s] w fun e w' => e = .returned (.bool (isKw s.toList)) ∧ Below w.heap.size w w' := by
  go_enter Tryd.func17, Tryd.ntmps17
  go_wp2_with (first | (go_at_call 59; refine (keywords_any _).mono ?_; rintro e w' ⟨rfl, rfl⟩) | (go_at_call 58; refine (has_any _ kws _ _ 31 rfl (by decide) (strsAt_new w kws _)).mono ?_; rintro e w' ⟨rfl, rfl⟩))
  go_ret
  exact ⟨ret_bool (by rw [any_comm, isKw, Lib.toList_data]), (Below.refl _ _).alloc (Nat.le_refl _) _⟩
end Go.Proofs.YthbcfcbonmphfaaDoor
