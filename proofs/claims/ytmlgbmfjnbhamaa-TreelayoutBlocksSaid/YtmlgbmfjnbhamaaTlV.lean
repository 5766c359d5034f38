/- slices.ContainsFunc at the law's closure. -/
import Derived.Test.YtmlgbmfjnbhamaaTlO
import Derived.Test.YtmlgbmfjnbhamaaTlT
namespace Go.Proofs.Ytmlgbmfjnbhamaa
open Go.RowKit
set_option maxRecDepth 100000
theorem clos_any (lb n c : Nat) (A : Option Addr) (v : Int) (w : World) (hx : w.heap[lb]? = some (.cells #[.slice A n c] 23 (0, 0))) (bb : Bool) (hbb : bb = true ↔ v < 0 ∨ (n : Int) ≤ v) :
    Calls Try.prog 22 #[.int .i64 v, .pointer (some ⟨lb, 0, none⟩)] w fun e w' => e = .returned (.bool bb) ∧ w = w' := by
  obtain ⟨x0, _⟩ := bk1 hx
  have hb : bb = (decide (v < 0) || decide ((n : Int) ≤ v)) := by
    rw [Bool.eq_iff_iff]; simp only [hbb, Bool.or_eq_true, decide_eq_true_eq]
  clear hbb hx
  rcases hd1 : decide (v < 0) with _ | _ <;> rcases hd2 : decide ((n : Int) ≤ v) with _ | _ <;>
  · rw [hd1, hd2] at hb
    simp at hb
    subst hb
    go_enter Try.func22, Try.ntmps22
    go_wp2_with fail
    go_ret
    exact ⟨rfl, rfl⟩
abbrev closV (lb : Nat) : Value := .func (.func 22) #[] #[.pointer (some ⟨lb, 0, none⟩)]
set_option maxHeartbeats 2000000 in
theorem indexF_any (A A2 : Option Addr) (lb n c c2 m j0 : Nat) (M : List Int) (w : World) (hm : M.length = m) (hml : m ≤ 60000) (h : IntsAt (· < w.heap.size) w A2 M) (hx : w.heap[lb]? = some (.cells #[.slice A n c] 23 (0, 0)))
    (hj0 : j0 ≤ m) (hM : ∀ (j : Nat) (v : Int), j < j0 → M[j]? = some v → 0 ≤ v ∧ v < (n : Int)) (hbad : ∀ v, M[j0]? = some v → v < 0 ∨ (n : Int) ≤ v) (r : Int) (hr : r = if j0 < m then (j0 : Int) else -1) :
    Calls Try.prog 45 #[.slice A2 m c2, closV lb] w fun e w' => e = .returned (.int .i64 r) ∧ w = w' := by
  have H := Lib.hid h
  have HMN := Lib.hid hm
  have HMR := Lib.hid hM
  have HBAD := Lib.hid hbad
  have HR := Lib.hid hr
  have HCL := Lib.hid (fun v bb hbb => clos_any lb n c A v w hx bb hbb)
  clear h hm hM hbad hx hr
  go_enter Try.func45, Try.ntmps45
  go_wp2_with fail
  go_loop [8] (fun s => ∃ j : Nat, j ≤ j0 ∧ s = .int .i64 j) (fun s => m - (intOf s).toNat)
  case atStart => exact ⟨0, by omega, rfl⟩
  case round =>
    obtain ⟨j, hj, rfl⟩ := hrel
    by_cases hlt : j < m
    · have hltI : (j : Int) < (m : Int) := by omega
      have hj0I : (0 : Int) ≤ (j : Int) := by omega
      obtain ⟨v, hv⟩ : ∃ v, M[j]? = some v := ⟨M[j]'(by rw [HMN.out]; exact hlt), List.getElem?_eq_getElem _⟩
      obtain ⟨b2, o2, hA2, hbl2, y0⟩ := H.out.get hv
      subst hA2
      by_cases hjj : j < j0
      · obtain ⟨v0, v1⟩ := HMR.out j v hjj hv
        have HC := Lib.hid (HCL.out v false (by simp; omega))
        clear hv v0 v1
        go_wp2_with fail
        refine HC.out.mono ?_
        rintro er w2 ⟨rfl, rfl⟩
        go_wp2_with fail
        go_round
        case rel => exact ⟨j + 1, by omega, by go_num⟩
        case measure => simp [intOf]; omega
      · obtain rfl : j = j0 := by omega
        have HC := Lib.hid (HCL.out v true (by simpa using HBAD.out v hv))
        have hrj : Hid (r = (j : Int)) := Lib.hid (by rw [HR.out, if_pos hlt])
        clear hv
        go_wp2_with fail
        refine HC.out.mono ?_
        rintro er w2 ⟨rfl, rfl⟩
        go_wp2_with fail
        go_ret
        exact ⟨by rw [hrj.out]; rfl, rfl⟩
    · have hjm : j = m := by omega
      subst hjm
      have hrj : Hid (r = -1) := Lib.hid (by rw [HR.out, if_neg (by omega)])
      go_wp2_with fail
      go_ret
      exact ⟨by rw [hrj.out]; rfl, rfl⟩
theorem containsF_any (A A2 : Option Addr) (lb n c c2 m j0 : Nat) (M : List Int) (w : World) (hm : M.length = m) (hml : m ≤ 60000) (h : IntsAt (· < w.heap.size) w A2 M) (hx : w.heap[lb]? = some (.cells #[.slice A n c] 23 (0, 0)))
    (hj0 : j0 ≤ m) (hM : ∀ (j : Nat) (v : Int), j < j0 → M[j]? = some v → 0 ≤ v ∧ v < (n : Int)) (hbad : ∀ v, M[j0]? = some v → v < 0 ∨ (n : Int) ≤ v) (bb : Bool) (hbb : bb = decide (j0 < m)) :
    Calls Try.prog 21 #[.slice A2 m c2, closV lb] w fun e w' => e = .returned (.bool bb) ∧ w = w' := by
  by_cases hlt : j0 < m
  · have HI := Lib.hid (indexF_any A A2 lb n c c2 m j0 M w hm hml h hx hj0 hM hbad (j0 : Int) (by rw [if_pos hlt]))
    have hb : bb = true := by rw [hbb, decide_eq_true hlt]
    subst hb
    have hj0I : (0 : Int) ≤ (j0 : Int) := by omega
    clear hm h hx hM hbad hbb
    go_enter Try.func21, Try.ntmps21
    go_wp2_with fail
    refine HI.out.mono ?_
    rintro er w2 ⟨rfl, rfl⟩
    go_wp2_with fail
    go_ret
    exact ⟨rfl, rfl⟩
  · have HI := Lib.hid (indexF_any A A2 lb n c c2 m j0 M w hm hml h hx hj0 hM hbad (-1) (by rw [if_neg hlt]))
    have hb : bb = false := by rw [hbb, decide_eq_false hlt]
    subst hb
    clear hm h hx hM hbad hbb
    go_enter Try.func21, Try.ntmps21
    go_wp2_with fail
    refine HI.out.mono ?_
    rintro er w2 ⟨rfl, rfl⟩
    go_wp2_with fail
    go_ret
    exact ⟨rfl, rfl⟩
end Go.Proofs.Ytmlgbmfjnbhamaa
