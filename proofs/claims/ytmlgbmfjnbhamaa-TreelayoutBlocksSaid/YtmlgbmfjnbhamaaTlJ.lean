/- The reference's Inverse. -/
import Derived.Test.YtmlgbmfjnbhamaaTlI
namespace Go.Proofs.Ytmlgbmfjnbhamaa
open Go.RowKit
set_option maxRecDepth 100000
theorem Try.infoBool : (Try.prog.info? 4).map (fun i => (i.zero, i.size, i.bytes)) = some (some (.bool false), 1, 1) := by kernel_rfl
/-- make([]bool, n), an equation for the walk. -/
theorem run_mkB (n : Nat) (hn : n ≤ 1000000) (W : World) : (Instr.makeSlice 66 (.int .i64 (n : Int)) (.int .i64 (n : Int))).run Try.prog W = .ok (.slice (some ⟨W.heap.size, 0, none⟩) n n) (W.alloc (.cells (madeCells #[Value.bool false] n) 4)) :=
  run_make_row' (P := Try.prog) 66 4 (.bool false) 1 Try.underlying66 Try.infoBool (by rfl) .i64 .i64 n (by omega) (by omega) W
theorem row_madeB {B b n : Nat} {W : World} (hn : n ≤ maxLen) (hb : B ≤ b) (hh : W.heap[b]? = some (.cells (madeCells #[Value.bool false] n) 4 (0, 0))) : W.ownsRow B 4 1 (.slice (some ⟨b, 0, none⟩) n n) n (List.replicate n (.bool false)) := by
  have hz : (madeCells #[Value.bool false] n).toList = List.replicate n (Value.bool false) := toList_madeCells_one _ _
  have hl : (madeCells #[Value.bool false] n).size = n := by
    have := congrArg List.length hz
    simpa using this
  exact ⟨by simp, Or.inr ⟨b, n, _, rfl, hb, hh, Nat.le_refl _, hn, by rw [hl]; omega, by rw [hz, List.take_of_length_le (by simp)]⟩⟩
def fO (x : Int) : Int := if x < 0 then 0 else x
def outR (L : List Int) (k : Nat) : List Int := (invR L k).map fO
def seenR (L : List Int) (k : Nat) : List Value := (invR L k).map fun x => Value.bool (decide (0 ≤ x))
theorem outR_set {L : List Int} {j p : Nat} (h : L.getD j 0 = (p : Int)) : (outR L j).set p (j : Int) = outR L (j + 1) := by
  show _ = ((invR L j).set _ _).map fO
  rw [h, Int.toNat_natCast, List.map_set]
  congr 1
theorem seenR_set {L : List Int} {j p : Nat} (h : L.getD j 0 = (p : Int)) : (seenR L j).set p (.bool true) = seenR L (j + 1) := by
  show _ = ((invR L j).set _ _).map _
  rw [h, Int.toNat_natCast, List.map_set]
  congr 1
theorem outR_full {L : List Int} (h : ∀ j, j < L.length → invOk L j) : outR L L.length = invR L L.length := by
  unfold outR
  conv => rhs; rw [← List.map_id (invR L L.length)]
  refine List.map_congr_left fun x hx => ?_
  have := invR_full h hx
  unfold fO
  rw [if_neg (by omega)]
  rfl
/-- What the reference's Inverse leaves. -/
def RInvP (n : Nat) (L : List Int) (k0 : Nat) (w : World) (er : Ending) (w' : World) : Prop :=
  ((k0 = n ∧ ∃ g, er = .returned (.tuple #[.slice (some ⟨g, 0, none⟩) n n, .bool true]) ∧ ORow w.heap.size w' (some ⟨g, 0, none⟩) n (invR L n)) ∨ (k0 < n ∧ er = .returned (.tuple #[.slice none 0 0, .bool false]))) ∧ Below w.heap.size w w'
set_option maxHeartbeats 8000000 in
theorem refInverse_any (A : Option Addr) (cap n k0 : Nat) (L : List Int) (w : World) (hn : L.length = n) (hnl : n ≤ 60000) (h : IntsAt (· < w.heap.size) w A L) (hk : InvK L k0) :
    Calls Try.prog 20 #[.slice A n cap] w (RInvP n L k0 w) := by
  have H1 := Lib.hid h
  have HN := Lib.hid hn
  have HK := Lib.hid hk
  have hk0n : k0 ≤ n := by have := hk.le; omega
  have hmk := run_mk n (by omega) w
  obtain ⟨w1, hw1⟩ : ∃ w1, w1 = w.alloc (.cells (madeCells #[Value.int .i64 0] n) 3) := ⟨_, rfl⟩
  have hz1 : w1.heap.size = w.heap.size + 1 := by rw [hw1]; simp
  have hmk2 := run_mkB n (by omega) w1
  rw [hz1, hw1] at hmk2
  obtain ⟨w2, hw2⟩ : ∃ w2, w2 = w1.alloc (.cells (madeCells #[Value.bool false] n) 4) := ⟨_, rfl⟩
  have HG : Hid (w2.ownsRow w.heap.size 3 1 (.slice (some ⟨w.heap.size, 0, none⟩) n n) n ((outR L 0).map (Value.int .i64))) := Lib.hid (by
    have h1 := row_made (B := w.heap.size) (n := n) (W := w2) (by unfold maxLen; omega) (Nat.le_refl _) (by rw [hw2]; refine bdOld ?_; rw [hw1]; exact bdNew w _)
    have h2 : outR L 0 = List.replicate n 0 := by unfold outR; simp only [invR, List.map_replicate]; rw [hn]; rfl
    rw [h2]; exact h1)
  have HS : Hid (w2.ownsRow w.heap.size 4 1 (.slice (some ⟨w.heap.size + 1, 0, none⟩) n n) n (seenR L 0)) := Lib.hid (by
    have h1 := row_madeB (B := w.heap.size) (n := n) (W := w2) (b := w.heap.size + 1) (by unfold maxLen; omega) (by omega) (by rw [hw2, ← hz1]; exact bdNew w1 _)
    have h2 : seenR L 0 = List.replicate n (.bool false) := by unfold seenR; simp only [invR, List.map_replicate]; rw [hn]; rfl
    rw [h2]; exact h1)
  have HB2 : Hid (Below w.heap.size w w2) := Lib.hid (by rw [hw2, hw1]; exact ((Below.refl _ _).alloc (Nat.le_refl _) _).alloc (by simp) _)
  have HW2 := Lib.hid (show w2 = (w.alloc (.cells (madeCells #[Value.int .i64 0] n) 3)).alloc (.cells (madeCells #[Value.bool false] n) 4) by rw [hw2, hw1])
  clear h hn hk hw1 hw2 hz1
  go_enter Try.func20, Try.ntmps20
  go_wp2_with fail
  rw [← HW2.out]
  go_loopw [6] (fun s wr => ∃ j : Nat, j ≤ k0 ∧ s = .int .i64 j ∧ wr.ownsRow w.heap.size 3 1 (.slice (some ⟨w.heap.size, 0, none⟩) n n) n ((outR L j).map (Value.int .i64)) ∧ wr.ownsRow w.heap.size 4 1 (.slice (some ⟨w.heap.size + 1, 0, none⟩) n n) n (seenR L j) ∧ Below w.heap.size w wr) (fun s _ => n - (intOf s).toNat)
  case atStart => exact ⟨0, by omega, rfl, HG.out, HS.out, HB2.out⟩
  case round =>
    obtain ⟨j, hj, rfl, how, hos, hb⟩ := hrel
    have HOW := Lib.hid how
    have HOS := Lib.hid hos
    have HB := Lib.hid hb
    by_cases hlt : j < n
    · have hltI : (j : Int) < (n : Int) := by omega
      have hj0I : (0 : Int) ≤ (j : Int) := by omega
      obtain ⟨x, hx⟩ : ∃ x, L[j]? = some x := ⟨L[j]'(by rw [HN.out]; exact hlt), List.getElem?_eq_getElem _⟩
      obtain ⟨b, off, hA, hbl, x0⟩ := (H1.out.below hb).get hx
      subst hA
      have hxD := getD_of hx
      by_cases hj0 : j < k0
      · obtain ⟨o1, o2, o3⟩ := HK.out.ok j hj0
        rw [hxD] at o1 o2 o3
        rw [HN.out] at o2
        obtain ⟨p, rfl⟩ : ∃ p : Nat, x = (p : Int) := ⟨x.toNat, by omega⟩
        have hpn : p < n := by omega
        rw [Int.toNat_natCast] at o3
        obtain ⟨y, hy⟩ : ∃ y, (invR L j)[p]? = some y := ⟨(invR L j)[p]'(by rw [invR_len, HN.out]; exact hpn), List.getElem?_eq_getElem _⟩
        rw [getD_of hy] at o3
        have y0 : wr.cell? ⟨w.heap.size, p, none⟩ = some (.int .i64 (fO y)) := (how.cellAt p (by omega)).trans (by unfold outR; rw [List.getElem?_map, List.getElem?_map, hy]; rfl)
        have f0 := how.frozenAt p
        have z0 : wr.cell? ⟨w.heap.size + 1, p, none⟩ = some (.bool false) := (hos.cellAt p (by omega)).trans (by unfold seenR; rw [List.getElem?_map, hy]; simp; omega)
        have f1 := hos.frozenAt p
        have hs1 := (hos.stored p (.bool true)).1
        rw [seenR_set hxD] at hs1
        have ho1 := ownsRow_heap (w' := wr.setCell ⟨w.heap.size + 1, p, none⟩ (.bool true)) how (fun b' hb' => heap_off (by have h3 : w.heap.size = b' := (by simpa [Value.ownBlock] using hb'); omega))
        have ho2 := (ho1.stored p (.int .i64 (j : Int))).1
        rw [← List.map_set, outR_set hxD] at ho2
        have hs2 := ownsRow_heap (w' := (wr.setCell ⟨w.heap.size + 1, p, none⟩ (.bool true)).setCell ⟨w.heap.size, p, none⟩ (.int .i64 (j : Int))) hs1 (fun b' hb' => heap_off (by have h3 : w.heap.size + 1 = b' := (by simpa [Value.ownBlock] using hb'); omega))
        have HO2 := Lib.hid ho2
        have HS2 := Lib.hid hs2
        have HB3 : Hid (Below w.heap.size w ((wr.setCell ⟨w.heap.size + 1, p, none⟩ (.bool true)).setCell ⟨w.heap.size, p, none⟩ (.int .i64 (j : Int)))) := Lib.hid ((hb.setCell (p := ⟨w.heap.size + 1, p, none⟩) (by show _ ≤ w.heap.size + 1; omega) _).setCell (p := ⟨w.heap.size, p, none⟩) (Nat.le_refl _) _)
        have hpI : (p : Int) < (n : Int) := by omega
        have hp0 : (0 : Int) ≤ (p : Int) := by omega
        have hb1 : b ≠ w.heap.size := by omega
        have hb2 : b ≠ w.heap.size + 1 := by omega
        clear how hos hb hx hxD hs1 ho1 ho2 hs2 hy o1 o2 o3
        go_wp2_with fail
        go_roundw
        case rel => exact ⟨j + 1, by omega, by go_num, HO2.out, HS2.out, HB3.out⟩
        case measure => simp [intOf]; omega
      · obtain rfl : j = k0 := by omega
        have hno := HK.out.stop (by rw [HN.out]; exact hlt)
        have fin : ∀ er, er = Ending.returned (.tuple #[.slice none 0 0, .bool false]) → RInvP n L j w er wr := fun er he => ⟨Or.inr ⟨hlt, he⟩, HB.out⟩
        have FIN := Lib.hid fin
        clear fin
        by_cases hx0 : x < 0
        · have d1 : decide (x < 0) = true := decide_eq_true hx0
          clear how hos hb hx hxD hno hx0
          go_wp2_with fail
          go_ret2
          exact FIN.out _ rfl
        · have d1 : decide (x < 0) = false := decide_eq_false hx0
          by_cases hxn : (n : Int) ≤ x
          · have d2 : decide ((n : Int) ≤ x) = true := decide_eq_true hxn
            clear how hos hb hx hxD hno hx0
            go_wp2_with fail
            go_ret2
            exact FIN.out _ rfl
          · obtain ⟨p, rfl⟩ : ∃ p : Nat, x = (p : Int) := ⟨x.toNat, by omega⟩
            have hpn : p < n := by omega
            have hpI : (p : Int) < (n : Int) := by omega
            have hp0 : (0 : Int) ≤ (p : Int) := by omega
            obtain ⟨y, hy⟩ : ∃ y, (invR L j)[p]? = some y := ⟨(invR L j)[p]'(by rw [invR_len, HN.out]; exact hpn), List.getElem?_eq_getElem _⟩
            have hy0 : 0 ≤ y := Int.not_lt.1 fun hlt' => hno ⟨by rw [hxD]; omega, by rw [hxD, HN.out]; omega, by rw [hxD, Int.toNat_natCast, getD_of hy]; exact hlt'⟩
            have z0 : wr.cell? ⟨w.heap.size + 1, p, none⟩ = some (.bool true) := (hos.cellAt p (by omega)).trans (by unfold seenR; rw [List.getElem?_map, hy]; simp; omega)
            clear how hos hb hx hxD hno hx0 hxn hy hy0 d1
            go_wp2_with fail
            go_ret2
            exact FIN.out _ rfl
    · have hjn : j = n := by omega
      subst hjn
      have hkj : k0 = j := by omega
      have hfull : outR L j = invR L j := by
        have h1 := outR_full (L := L) (fun t ht => HK.out.ok t (by rw [HN.out] at ht; omega))
        rw [HN.out] at h1
        exact h1
      have HF := Lib.hid hfull
      clear how hos hb hfull
      go_wp2_with fail
      go_ret2
      exact ⟨Or.inl ⟨hkj, w.heap.size, rfl, ORow.of (by rw [← HF.out]; exact HOW.out) (by rw [invR_len, HN.out])⟩, HB.out⟩
end Go.Proofs.Ytmlgbmfjnbhamaa
