/- Nearest: the reference's. -/
import Derived.Test.YthnlcbeibhhjpaaVtS
namespace Go.Proofs.Ythnlcbeibhhjpaa
open Go.RowKit
set_option maxRecDepth 100000
set_option maxHeartbeats 4000000 in
theorem refNear_full (A : Option Addr) (cap m q cM : Nat) (n : Int) (AM : Option Addr) (w : World) (_hm : m ≤ 1000) (hq : 1000 < q) (hq2 : q ≤ 1000000) :
    Calls Try.prog 30 #[.agg #[.slice A m cap], .slice AM q cM, .int .i64 n] w fun e w' => e = .returned (.tuple #[.int .i64 0, .int .i64 4]) ∧ Below w.heap.size w w' := by
  have d1 : decide ((1000 : Int) < (q : Int)) = true := decide_eq_true (by omega)
  clear hq
  go_enter Try.func30, Try.ntmps30
  go_wp2_with fail
  go_ret2
  exact ⟨rfl, (Below.refl _ _).alloc (Nat.le_refl _) _⟩
/-- What the reference answers. -/
def RNear (Vs : List Vn) (m : Nat) (M : List Int) (n : Int) (r : Int × Int) : Prop := (¬ InV m (n :: M) ∧ r = (0, 24)) ∨ (InV m (n :: M) ∧ ∃ k : Nat, n = (k : Int) ∧ NearP Vs M k r)
set_option maxHeartbeats 16000000 in
theorem refNear_any (A : Option Addr) (cap m q cM : Nat) (n : Int) (AM : Option Addr) (M : List Int) (Vs : List Vn) (w : World) (hok : VsOk Vs) (hm : Vs.length = m) (hml : m ≤ 1000) (h : IntsAt (· < w.heap.size) w A (parV Vs)) (hM : Mk w AM cM q M) (hq : q ≤ 1000) :
    Calls Try.prog 30 #[.agg #[.slice A m cap], .slice AM q cM, .int .i64 n] w fun e w' => (∃ r1 r2 : Int, e = .returned (.tuple #[.int .i64 r1, .int .i64 r2]) ∧ RNear Vs m M n (r1, r2)) ∧ Below w.heap.size w w' := by
  have H1 := Lib.hid h
  have HOK := Lib.hid hok
  have HL := Lib.hid hm
  have HM := Lib.hid hM
  have d1 : decide ((1000 : Int) < (q : Int)) = false := decide_eq_false (by omega)
  obtain ⟨w1, hw1⟩ : ∃ w1, w1 = w.alloc (.cells #[.slice A m cap] 24) := ⟨_, rfl⟩
  have HB1 : Hid (Below w.heap.size w w1) := Lib.hid (by rw [hw1]; exact (Below.refl _ _).alloc (Nat.le_refl _) _)
  have HX1 : Hid (w1.heap[w.heap.size]? = some (.cells #[.slice A m cap] 24 (0, 0))) := Lib.hid (by rw [hw1]; exact bdNew w _)
  have hlt1 : w.heap.size < w1.heap.size := by rw [hw1]; simp
  have HW1 := Lib.hid hw1
  have HIS := Lib.hid (fun (y : Int) (bb : Bool) (hb : bb = (decide (0 ≤ y) && decide (y < (m : Int)))) W => refIs_any A cap m y W (by omega) bb hb)
  clear h hok hm hM hw1
  obtain ⟨x0, _⟩ := bk1 HX1.out
  by_cases hn : 0 ≤ n ∧ n < (m : Int)
  case neg =>
    have HIS' := Lib.hid (refIs_no A cap m n w1 (by omega) hn)
    have HNO : Hid (¬ InV m (n :: M)) := Lib.hid (fun h => hn (h n (by simp)))
    clear hn
    go_enter Try.func30, Try.ntmps30
    go_wp2_with fail
    rw [← HW1.out]
    refine HIS'.out.mono ?_
    rintro er w2 ⟨rfl, hb2⟩
    have HB2 := Lib.hid hb2
    clear hb2
    go_wp2_with fail
    go_ret2
    exact ⟨⟨0, 24, rfl, Or.inl ⟨HNO.out, rfl⟩⟩, HB1.out.trans (HB2.out.mono (by omega))⟩
  obtain ⟨nn, rfl⟩ : ∃ k : Nat, n = (k : Int) := ⟨n.toNat, by omega⟩
  have hnn : nn < m := by omega
  have HIS' := Lib.hid (HIS.out (nn : Int) true (by rw [decide_eq_true hn.1, decide_eq_true hn.2]; rfl) w1)
  clear hn
  go_enter Try.func30, Try.ntmps30
  go_wp2_with fail
  rw [← HW1.out]
  refine HIS'.out.mono ?_
  rintro er w2 ⟨rfl, hb2⟩
  have HB2 := Lib.hid (HB1.out.trans (hb2.mono (by omega)))
  have HX2 := Lib.hid (bdAt HX1.out hb2)
  have hlt2 : w.heap.size < w2.heap.size := by have := hb2.size; omega
  clear hb2 x0 HIS'
  go_wp2_with fail
  go_loopw [8] (fun s8 wr => ∃ k : Nat, k ≤ q ∧ s8 = .int .i64 k ∧ (∀ (i : Nat) (y : Int), i < k → M[i]? = some y → 0 ≤ y ∧ y < (m : Int)) ∧ Below w2.heap.size w2 wr) (fun s8 _ => q - (intOf s8).toNat)
  case atStart => exact ⟨0, by omega, rfl, fun i y hi => absurd hi (by omega), Below.refl _ _⟩
  case round =>
    obtain ⟨k, hk, rfl, hall, hb⟩ := hrel
    have HALL := Lib.hid hall
    have HB := Lib.hid hb
    have hsz := hb.size
    obtain ⟨x0, _⟩ := bk1 (bdAt HX2.out hb)
    have hbw : Below w.heap.size w wr := HB2.out.trans (hb.mono (by omega))
    have HBW := Lib.hid hbw
    by_cases hlt : k < q
    · have hltI : (k : Int) < (q : Int) := by omega
      obtain ⟨y, hy⟩ : ∃ y, M[k]? = some y := ⟨M[k]'(by rw [HM.out.len]; exact hlt), List.getElem?_eq_getElem _⟩
      obtain ⟨b, off, hA, hbl, y0⟩ := (HM.out.at'.below hbw).get hy
      have HY := Lib.hid hy
      subst hA
      clear hall hb hbw hy
      have HS1 := Lib.hid (show (wr.drew.cell? ⟨w.heap.size, 0, none⟩ = some (.slice A m cap) ∧ wr.drew.cell? ⟨b, off + k, none⟩ = some (.int .i64 y)) ∧ Below wr.heap.size wr wr.drew from ⟨⟨x0, y0⟩, bdN (Below.refl _ _) 1⟩)
      have hk0 : (0 : Int) ≤ (k : Int) := by omega
      by_cases hyv : 0 ≤ y ∧ y < (m : Int)
      · have HISy := Lib.hid (HIS.out y true (by rw [decide_eq_true hyv.1, decide_eq_true hyv.2]; rfl))
        have HYV := Lib.hid hyv
        clear hyv
        go_wp2_with fail
        go_region_held3 (fun W => (W.cell? ⟨w.heap.size, 0, none⟩ = some (.slice A m cap) ∧ W.cell? ⟨b, off + k, none⟩ = some (.int .i64 y)) ∧ Below wr.heap.size wr W)
          (first | exact HS1.out | assumption | (have hr := And.right (by assumption); exact ⟨⟨(hr.trans (hbx.mono hr.size) |>.cell (p := ⟨w.heap.size, 0, none⟩) (by show w.heap.size < wr.heap.size; omega)).trans x0, (hr.trans (hbx.mono hr.size) |>.cell (p := ⟨b, off + k, none⟩) (by show b < wr.heap.size; omega)).trans y0⟩, hr.trans (hbx.mono hr.size)⟩))
          (first | (go_at_call 18; refine (HISy.out _).mono ?_; rintro e wx ⟨rfl, hbx⟩))
        have HBX : Hid (Below wr.heap.size wr wx) := Lib.hid (And.right (by assumption))
        go_wp2_with fail
        go_roundw
        case rel =>
          refine ⟨k + 1, by omega, by go_num, fun i y' hi hy' => ?_, HB.out.trans (HBX.out.mono hsz)⟩
          by_cases hik : i = k
          · subst hik
            rw [HY.out] at hy'
            rw [← Option.some.inj hy']; exact HYV.out
          · exact HALL.out i y' (by omega) hy'
        case measure => simp [intOf]; omega
      · have HISy := Lib.hid (fun W => refIs_no A cap m y W (by omega) hyv)
        have HYV := Lib.hid hyv
        clear hyv
        go_wp2_with fail
        go_region_held3 (fun W => (W.cell? ⟨w.heap.size, 0, none⟩ = some (.slice A m cap) ∧ W.cell? ⟨b, off + k, none⟩ = some (.int .i64 y)) ∧ Below wr.heap.size wr W)
          (first | exact HS1.out | assumption | (have hr := And.right (by assumption); exact ⟨⟨(hr.trans (hbx.mono hr.size) |>.cell (p := ⟨w.heap.size, 0, none⟩) (by show w.heap.size < wr.heap.size; omega)).trans x0, (hr.trans (hbx.mono hr.size) |>.cell (p := ⟨b, off + k, none⟩) (by show b < wr.heap.size; omega)).trans y0⟩, hr.trans (hbx.mono hr.size)⟩))
          (first | (go_at_call 18; refine (HISy.out _).mono ?_; rintro e wx ⟨rfl, hbx⟩))
        have HBX : Hid (Below wr.heap.size wr wx) := Lib.hid (And.right (by assumption))
        go_wp2_with fail
        go_ret2
        exact ⟨⟨0, 24, rfl, Or.inl ⟨fun h => HYV.out (h y (List.mem_cons_of_mem _ (List.mem_of_getElem? HY.out))), rfl⟩⟩, HBW.out.trans (HBX.out.mono (by omega))⟩
    · obtain rfl : k = q := by omega
      have HIN : Hid (InV m ((nn : Int) :: M)) := Lib.hid (fun y hy => by
        rcases List.mem_cons.1 hy with rfl | hy
        · omega
        · obtain ⟨i, hi⟩ := List.getElem?_of_mem hy
          exact hall i y (by have := (List.getElem?_eq_some_iff.1 hi).1; have := HM.out.len; omega) hi)
      obtain ⟨wo, rfl⟩ : ∃ wo, wo = wr := ⟨_, rfl⟩
      clear hall hb hbw
      go_wp2_with fail
      go_loop [9] (fun s9 => (s9 = .int .i64 (-1) ∧ ∀ d : Nat, AncV Vs d nn → (d : Int) ∉ M) ∨ ∃ y : Nat, s9 = .int .i64 y ∧ y < m ∧ AncV Vs y nn ∧ ∀ d : Nat, AncV Vs d nn → (d : Int) ∈ M → AncV Vs d y) (fun s9 => (intOf s9 + 1).toNat)
      case atStart => exact Or.inr ⟨nn, rfl, hnn, .refl, fun d h _ => h⟩
      case round =>
        rcases hrel with ⟨rfl, hno⟩ | ⟨y, rfl, hy, hya, hyd⟩
        · have HNO := Lib.hid hno
          clear hno
          go_wp2_with fail
          go_ret2
          exact ⟨⟨0, 12, rfl, Or.inr ⟨HIN.out, ⟨nn, rfl, Or.inr ⟨rfl, HNO.out⟩⟩⟩⟩, HBW.out⟩
        · have HYA := Lib.hid hya
          have HYD := Lib.hid hyd
          have hy0 : (0 : Int) ≤ (y : Int) := by omega
          have hyI : (y : Int) < (m : Int) := by omega
          obtain ⟨v, hv⟩ : ∃ v, Vs[y]? = some v := ⟨Vs[y]'(by rw [HL.out]; exact hy), List.getElem?_eq_getElem _⟩
          obtain ⟨gb, off, hA, hgb, z0⟩ := (H1.out.below HBW.out).get (parV_at hv)
          subst hA
          have hgw : gb < wo.heap.size := by have := HBW.out.size; omega
          obtain ⟨d, hd⟩ : ∃ d, d = v.1 := ⟨_, rfl⟩
          rw [← hd] at z0
          have HD := Lib.hid hd
          have HV := Lib.hid hv
          clear hya hyd hv hd
          go_wp2_with fail
          go_loop [10] (fun s10 => ∃ j : Nat, j ≤ k ∧ s10 = .int .i64 j ∧ ∀ (i : Nat) (z : Int), i < j → M[i]? = some z → z ≠ (y : Int)) (fun s10 => k - (intOf s10).toNat)
          case atStart => exact ⟨0, by omega, rfl, fun i z hi => absurd hi (by omega)⟩
          case round =>
            obtain ⟨j, hj, rfl, hnone⟩ := hrel
            have HNONE := Lib.hid hnone
            clear hnone
            by_cases hjk : j < k
            · have hjkI : (j : Int) < (k : Int) := by omega
              obtain ⟨z, hz⟩ : ∃ z, M[j]? = some z := ⟨M[j]'(by rw [HM.out.len]; exact hjk), List.getElem?_eq_getElem _⟩
              obtain ⟨b, off', hA, hbl, y0⟩ := (HM.out.at'.below HBW.out).get hz
              have HZ := Lib.hid hz
              subst hA
              clear hz
              by_cases hzy : z = (y : Int)
              · subst hzy
                go_wp2_with fail
                go_ret2
                exact ⟨⟨(y : Int), 0, rfl, Or.inr ⟨HIN.out, ⟨nn, rfl, Or.inl ⟨y, rfl, HYA.out, List.mem_of_getElem? HZ.out, HYD.out⟩⟩⟩⟩, HBW.out⟩
              · have HZY := Lib.hid hzy
                have hne : (z == (y : Int)) = false := by simpa using hzy
                clear hzy
                go_wp2_with fail
                go_round
                case rel =>
                  refine ⟨j + 1, by omega, by go_num, fun i z' hi hz' => ?_⟩
                  by_cases hij : i = j
                  · subst hij
                    rw [HZ.out] at hz'
                    rw [← Option.some.inj hz']; exact HZY.out
                  · exact HNONE.out i z' (by omega) hz'
                case measure => simp [intOf]; omega
            · obtain rfl : j = k := by omega
              have HYM : Hid ((y : Int) ∉ M) := Lib.hid (fun hy => by
                obtain ⟨i, hi⟩ := List.getElem?_of_mem hy
                exact HNONE.out i _ (by have := (List.getElem?_eq_some_iff.1 hi).1; have := HM.out.len; omega) hi rfl)
              go_wp2_with fail
              go_round
              case rel =>
                by_cases hy00 : y = 0
                · subst hy00
                  left
                  have h1 := HV.out
                  rw [HOK.out.root] at h1
                  have h2 := Option.some.inj h1
                  refine ⟨by rw [HD.out, ← h2], fun dd h3 h4 => ?_⟩
                  have h5 := (HYD.out dd h3 h4).le HOK.out
                  obtain rfl : dd = 0 := by omega
                  exact HYM.out h4
                · right
                  obtain ⟨p, jj, u, e1, e2, _⟩ := HOK.out.rest y v HV.out (by omega)
                  exact ⟨p, by rw [HD.out, e1], by omega, (AncV.step HV.out e1 .refl).trans HYA.out, fun dd h1 h2 => (HYD.out dd h1 h2).up HV.out e1 (fun e => HYM.out (e ▸ h2))⟩
              case measure =>
                have : d < (y : Int) := by
                  rw [HD.out]
                  by_cases hy00 : y = 0
                  · subst hy00
                    have h1 := HV.out
                    rw [HOK.out.root] at h1
                    have h2 := Option.some.inj h1
                    rw [← h2]; decide
                  · obtain ⟨p, jj, u, e1, e2, _⟩ := HOK.out.rest y v HV.out (by omega)
                    omega
                simp [intOf]; omega
end Go.Proofs.Ythnlcbeibhhjpaa
