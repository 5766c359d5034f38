/- Walks: valid tokens, by the reference. -/
import Derived.Test.YthbcfcbonmphfaaDoorLexC
import Derived.Deep.RegionHeld3
import Derived.Deep.RegionWith
namespace Go.Proofs.YthbcfcbonmphfaaDoor
open Go.RowKit
theorem symbols_op (w : World) : Calls Tryd.prog 61 #[] w fun e w' => ∃ b, e = .returned (.slice (some ⟨b, 0, none⟩) 21 21) ∧ StrsAt w' b syms ∧ Below w.heap.size w w' :=
  (symbols_any w).mono fun _ _ ⟨he, hw⟩ => ⟨_, he, by rw [hw]; exact strsAt_new w syms _, by rw [hw]; exact (Below.refl _ _).alloc (Nat.le_refl _) _⟩
theorem hasSym_of (b : Nat) (s : ByteArray) (w : World) (v : Bool) (hv : isSym s.data.toList = v) (hc : StrsAt w b syms) :
    Calls Tryd.prog 58 #[.slice (some ⟨b, 0, none⟩) 21 21, .string s] w fun e w' => e = .returned (.bool v) ∧ w = w' :=
  (has_any b syms s w 21 rfl (by decide) hc).mono fun _ _ ⟨he, hw⟩ => ⟨by rw [he, any_comm, ← hv]; rfl, hw⟩

set_option maxHeartbeats 1000000 in
theorem refValid_symT (s : ByteArray) (n a b : Int) (w : World) (hv : isSym s.data.toList = true) :
    Calls Tryd.prog 19 #[.agg #[.int .i64 4, .string s, .int .i64 n, .int .i64 a, .int .i64 b]] w fun e w' => e = .returned (.bool (n == 0)) ∧ Below w.heap.size w w' := by
  have HV := Lib.hid hv
  clear hv
  go_enter Tryd.func19, Tryd.ntmps19
  go_wp2_with fail
  go_region_held3 (fun w' => w'.cell? ⟨w.heap.size, 1, none⟩ = some (.string s) ∧ w'.cell? ⟨w.heap.size, 2, none⟩ = some (.int .i64 n))
    (first | go_keep | exact ⟨(hb1.cell (by simp)).trans (by simp [go_sem]), (hb1.cell (by simp)).trans (by simp [go_sem])⟩)
    (first | (go_at_call 61; refine (symbols_op _).mono ?_; rintro e w1 ⟨b1, rfl, hst, hb1⟩) | (go_at_call 58; refine (hasSym_of _ _ _ _ HV.out hst).mono ?_; rintro e w2 ⟨rfl, rfl⟩))
  go_wp2
  go_ret
  exact ⟨rfl, ((Below.refl _ _).alloc (Nat.le_refl _) _).drew.trans (hb1.mono (by simp))⟩
set_option maxHeartbeats 1000000 in
theorem refValid_symF (s : ByteArray) (n a b : Int) (w : World) (hv : isSym s.data.toList = false) :
    Calls Tryd.prog 19 #[.agg #[.int .i64 4, .string s, .int .i64 n, .int .i64 a, .int .i64 b]] w fun e w' => e = .returned (.bool false) ∧ Below w.heap.size w w' := by
  have HV := Lib.hid hv
  clear hv
  go_enter Tryd.func19, Tryd.ntmps19
  go_wp2_with fail
  first | go_region_with (first | (go_at_call 61; refine (symbols_op _).mono ?_; rintro e w1 ⟨b1, rfl, hst, hb1⟩; have hc1 : w1.cell? ⟨w.heap.size, 1, none⟩ = some (.string s) := (hb1.cell (p := ⟨w.heap.size, 1, none⟩) (by simp)).trans (by simp [go_sem])) | (go_at_call 58; refine (hasSym_of _ _ _ _ HV.out hst).mono ?_; rintro e w2 ⟨rfl, rfl⟩))
           | fail
  all_goals
    go_wp2
    go_ret
    exact ⟨rfl, ((Below.refl _ _).alloc (Nat.le_refl _) _).drew.trans (hb1.mono (by simp))⟩

set_option maxHeartbeats 1000000 in
theorem refValid_rest (k : Int) (s : ByteArray) (n a b : Int) (w : World) (hs : s.size ≤ maxLen) (h4 : (k == 4) = false) :
    Calls Tryd.prog 19 #[.agg #[.int .i64 k, .string s, .int .i64 n, .int .i64 a, .int .i64 b]] w fun e w' => e = .returned (.bool (validT k s.data.toList n)) ∧ Below w.heap.size w w' := by
  have HS := Lib.hid hs
  clear hs
  go_enter Tryd.func19, Tryd.ntmps19
  go_wp2_with (first | (go_at_call 15; refine (refIsName_any _ _ HS.out).mono ?_; rintro e w' ⟨rfl, hb⟩; have hc2 : w'.cell? ⟨w.heap.size, 2, none⟩ = some (.int .i64 n) := (hb.cell (p := ⟨w.heap.size, 2, none⟩) (by simp)).trans (by simp [go_sem])) | (go_at_call 17; refine (refIsKw_any _ _).mono ?_; rintro e w' ⟨rfl, hb⟩; have hc2 : w'.cell? ⟨w.heap.size, 2, none⟩ = some (.int .i64 n) := (hb.cell (p := ⟨w.heap.size, 2, none⟩) (by simp)).trans (by simp [go_sem])))
  all_goals
    go_ret
    refine ⟨ret_bool ?_, ?_⟩
    · clear HS
      try clear hb hc2
      simp only [validT]; (try simp only [Lib.toList_data] at *); first | (simp_all; done) | (simp_all; omega)
    · first | exact (Below.refl _ _).alloc (Nat.le_refl _) _ | exact ((Below.refl _ _).alloc (Nat.le_refl _) _).trans (hb.mono (by simp))
theorem refValid_any (k : Int) (s : ByteArray) (n a b : Int) (w : World) (hs : s.size ≤ maxLen) :
    Calls Tryd.prog 19 #[.agg #[.int .i64 k, .string s, .int .i64 n, .int .i64 a, .int .i64 b]] w fun e w' => e = .returned (.bool (validT k s.data.toList n)) ∧ Below w.heap.size w w' := by
  by_cases h4 : k = 4
  · subst h4
    have e : validT 4 s.data.toList n = (isSym s.data.toList && n == 0) := rfl
    rw [e]
    cases hv : isSym s.data.toList
    · exact refValid_symF s n a b w hv
    · rw [Bool.true_and]; exact refValid_symT s n a b w hv
  · exact refValid_rest k s n a b w hs (beq_eq_false_iff_ne.2 h4)
end Go.Proofs.YthbcfcbonmphfaaDoor
