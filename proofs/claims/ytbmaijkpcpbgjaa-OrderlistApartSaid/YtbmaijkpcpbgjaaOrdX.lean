/- The law's play: walked. By genord4.py. -/
import Derived.Test.YtbmaijkpcpbgjaaOrdW
namespace Go.Proofs.Ytbmaijkpcpbgjaa
open Go.RowKit
set_option maxRecDepth 100000
/-- What play leaves: the list and its reference agree. -/
def PlayP (n : Nat) (w : World) (er : Ending) (w' : World) : Prop :=
  ∃ (x made : Nat) (mv : Int) (E : List El) (A : Option Addr) (cap : Nat), er = .returned (.tuple #[.pointer (some ⟨x, 0, none⟩), .agg #[.slice A E.length cap, .int .i64 made], .bool true]) ∧ OSt w.heap.size x made mv E w' ∧ Few made mv E ∧ made ≤ n ∧ ORow w.heap.size w' A cap (ords E) ∧ Below w.heap.size w w'
theorem ol_new_at (w : World) (b : Nat) (hb : w.heap.size = b) : Calls Try.prog 25 #[] w fun e w' => e = .returned (.pointer (some ⟨b, 0, none⟩)) ∧ w' = w.alloc (.cells #[.slice none 0 0, .pointer none, .int .i64 0, .int .i64 0] 60) := by subst hb; exact ol_new w
set_option maxHeartbeats 16000000 in
theorem play_any (A0 : Option Addr) (c0 n : Nat) (S : List (Bool × Int)) (w : World) (hn : S.length = n) (hl : n ≤ 120) (hA : StepsAt w.heap.size w A0 S) :
    Calls Try.prog 10 #[.slice A0 n c0] w (PlayP n w) := by
  have HNEW := Lib.hid (ol_new_at (w.alloc (.cells #[.slice none 0 0, .int .i64 0] 27)) (w.heap.size + 1) (by simp))
  have HA := Lib.hid hA
  have HN := Lib.hid hn
  clear hA hn
  go_enter Try.func10, Try.ntmps10
  go_wp2_with fail
  refine HNEW.out.mono ?_
  rintro er w1 ⟨rfl, rfl⟩
  go_wp2_with fail
  go_loopw [24] (fun s24 wr => ∃ (k made : Nat) (mv : Int) (E : List El) (A : Option Addr) (cap : Nat), k ≤ n ∧ s24 = .int .i64 k ∧ PSt w.heap.size w.heap.size (w.heap.size + 1) (w.heap.size + 1 + 1) k made mv E A cap w wr) (fun s24 _ => n - (intOf s24).toNat)
  case atStart =>
    refine ⟨0, 0, 0, [], none, 0, by omega, rfl, ?_⟩
    have h1 : OSt w.heap.size (w.heap.size + 1) 0 0 [] ((w.alloc (.cells #[.slice none 0 0, .int .i64 0] 27)).alloc (.cells #[.slice none 0 0, .pointer none, .int .i64 0, .int .i64 0] 60)) := by
      have := ost_new w.heap.size (w.alloc (.cells #[.slice none 0 0, .int .i64 0] 27)) (by simp)
      rw [show (w.alloc (.cells #[.slice none 0 0, .int .i64 0] 27)).heap.size = w.heap.size + 1 by simp] at this
      exact this
    refine ⟨h1.below ((Below.refl _ _).alloc (Nat.le_refl _) _), Few.start, Nat.le_refl _, ?_, bdOld (bdOld (bdNew _ _)), ORow.nil _ _, (((Below.refl _ _).alloc (Nat.le_refl _) _).alloc (by simp) _).alloc (by simp; omega) _⟩
    have := bdNew ((w.alloc (.cells #[.slice none 0 0, .int .i64 0] 27)).alloc (.cells #[.slice none 0 0, .pointer none, .int .i64 0, .int .i64 0] 60)) (.cells #[.slice none 0 0, .int .i64 0] 27)
    rw [show ((w.alloc (.cells #[.slice none 0 0, .int .i64 0] 27)).alloc (.cells #[.slice none 0 0, .pointer none, .int .i64 0, .int .i64 0] 60)).heap.size = w.heap.size + 1 + 1 by simp] at this
    exact this
  case round =>
    obtain ⟨k, made, mv, E, A, cap, hk, rfl, hP⟩ := hrel
    have HP := Lib.hid hP
    have hsz := hP.bel.size
    have hmk := hP.lek
    have hEl := hP.ost.len
    obtain ⟨⟨b0, b1⟩, q0, q1⟩ := bk2 hP.bx
    have hbl := bdLt hP.bx
    clear hP
    have hne1 : w.heap.size + 1 + 1 ≠ w.heap.size := by omega
    have hne2 : w.heap.size ≠ w.heap.size + 1 + 1 := by omega
    have hne3 : w.heap.size + 1 + 1 ≠ wr.heap.size := by omega
    have hne4 : wr.heap.size ≠ w.heap.size + 1 + 1 := by omega
    by_cases hlt : k < n
    · have hltI : (k : Int) < (n : Int) := by omega
      obtain ⟨⟨d, v⟩, hs⟩ : ∃ s, S[k]? = some s := ⟨S[k]'(by rw [HN.out]; exact hlt), List.getElem?_eq_getElem _⟩
      obtain ⟨sb, off, hA0, hsb, hcs⟩ := (HA.out.below HP.out.bel) (by rw [HN.out]; omega)
      subst hA0
      obtain ⟨y0, y1⟩ := hcs k (d, v) hs
      dsimp only at y0 y1
      have hsne : sb ≠ wr.heap.size := by omega
      clear hcs hs
      obtain ⟨m, hm⟩ : ∃ m, E.length = m := ⟨_, rfl⟩
      rw [hm] at b0 hEl
      have HM := Lib.hid hm
      clear hm
      cases d with
      | true =>
        rcases ords_mem (E := E) (i := v) with ⟨j, e, hj, rfl⟩ | hv
        · have hoS : OSt w.heap.size (w.heap.size + 1) made mv E (wr.alloc (.cells #[.bool true, .int .i64 (e.num : Int)] 49)) := HP.out.ost.below ((Below.refl _ _).alloc (Nat.le_refl _) _)
          have HD := Lib.hid (ol_delete_yes w.heap.size (w.heap.size + 1) made j mv E e (wr.alloc (.cells #[.bool true, .int .i64 (e.num : Int)] 49)) hoS (by omega) hj)
          clear hoS
          go_wp2_with fail
          refine HD.out.mono ?_
          rintro er w1 ⟨rfl, ho1, hb1, hk1⟩
          have hz1 := hb1.size
          have hx1 := hk1 _ _ _ _ (bdOld HP.out.bx) (by decide)
          have hr1 := hk1 _ _ _ _ (bdOld HP.out.rs) (by decide)
          have hs1 := hk1 _ _ _ _ (bdNew wr (.cells #[.bool true, .int .i64 (e.num : Int)] 49)) (by decide)
          have hrw1 : ORow w.heap.size w1 A cap (ords E) := (HP.out.row.below ((Below.refl _ _).alloc (Nat.le_refl _) _)).kp hk1
          have hbl1 : Below w.heap.size w w1 := (HP.out.bel.alloc hsz _).trans hb1
          have HX1 := Lib.hid hx1
          have HR1 := Lib.hid hr1
          have HRW1 := Lib.hid hrw1
          have HBL1 := Lib.hid hbl1
          have HO1 := Lib.hid ho1
          have HS1 := Lib.hid hs1
          have hsB1 := hbl1.size
          have hw1l := bdLt hs1
          have HR := Lib.hid (refDel_yes w.heap.size cap m made j A E e w1 HM.out (by omega) hrw1 HP.out.ost.nums hj)
          rw [← ords_erase] at HR
          have hF : Hid (Few made mv (E.eraseIdx j)) := Lib.hid (HP.out.few.del HP.out.ost.asc (List.getElem?_eq_some_iff.1 hj).1)
          clear HD
          clear b0 b1 q0 q1 y0 y1
          obtain ⟨⟨b0, b1⟩, q0, q1⟩ := bk2 hx1
          rw [HM.out] at b0
          obtain ⟨⟨y0, y1⟩, _, _⟩ := bk2 hs1
          clear hx1 hr1 hs1 hrw1 hbl1 ho1 hk1 hb1
          go_wp2_with fail
          refine HR.out.mono ?_
          rintro er w2 ⟨A2, cap2, rfl, hrow2, hb2⟩
          obtain ⟨m2, hm2⟩ : ∃ m2, m2 = (ords (E.eraseIdx j)).length := ⟨_, rfl⟩
          rw [← hm2]
          rw [ords_len] at hm2
          have HB2 := Lib.hid hb2
          have HRW2 := Lib.hid hrow2
          have HM2 := Lib.hid hm2
          have hz2 := hb2.size
          have hx2 := bdAt HX1.out hb2
          rw [HM.out] at hx2
          clear b0 b1 q0 q1 y0 y1
          obtain ⟨⟨b0, b1⟩, q0, q1⟩ := bk2 hx2
          clear hx2 hb2 HR hrow2 hm2
          have hne5 : w.heap.size + 1 + 1 ≠ w2.heap.size := by omega
          have hne6 : w2.heap.size ≠ w.heap.size + 1 + 1 := by omega
          have hlt6 : w.heap.size + 1 + 1 < w2.heap.size := by omega
          go_wp2_with fail
          go_roundw
          case rel => exact ⟨k + 1, made, mv, E.eraseIdx j, A2, cap2, by omega, by go_num, PSt.step HO1.out HX1.out HR1.out HBL1.out (by omega) HB2.out hF.out (by omega) (HRW2.out.more (by omega)) (by omega) (by omega) HM2.out.symm _⟩
          case measure => simp [intOf]; omega
        · have hoS : OSt w.heap.size (w.heap.size + 1) made mv E (wr.alloc (.cells #[.bool true, .int .i64 v] 49)) := HP.out.ost.below ((Below.refl _ _).alloc (Nat.le_refl _) _)
          have HD := Lib.hid (ol_delete_no w.heap.size (w.heap.size + 1) made mv E v (wr.alloc (.cells #[.bool true, .int .i64 v] 49)) hoS (by omega) hv)
          clear hoS
          go_wp2_with fail
          refine HD.out.mono ?_
          rintro er w1 ⟨rfl, rfl⟩
          have hx1 := bdOld (p := .cells #[.bool true, .int .i64 v] 49) HP.out.bx
          have hr1 := bdOld (p := .cells #[.bool true, .int .i64 v] 49) HP.out.rs
          have hrw1 : ORow w.heap.size (wr.alloc (.cells #[.bool true, .int .i64 v] 49)) A cap (ords E) := HP.out.row.below ((Below.refl _ _).alloc (Nat.le_refl _) _)
          have hbl1 : Below w.heap.size w (wr.alloc (.cells #[.bool true, .int .i64 v] 49)) := HP.out.bel.alloc hsz _
          have ho1 : OSt w.heap.size (w.heap.size + 1) made mv E (wr.alloc (.cells #[.bool true, .int .i64 v] 49)) := HP.out.ost.below ((Below.refl _ _).alloc (Nat.le_refl _) _)
          have HX1 := Lib.hid hx1
          have HR1 := Lib.hid hr1
          have HRW1 := Lib.hid hrw1
          have HBL1 := Lib.hid hbl1
          have HO1 := Lib.hid ho1
          have HR := Lib.hid (refDel_no w.heap.size cap m made A (ords E) (wr.alloc (.cells #[.bool true, .int .i64 v] 49)) (by rw [ords_len]; exact HM.out) hrw1 v (at_no hv))
          clear HD
          clear hx1 hr1 hrw1 hbl1 ho1
          go_wp2_with fail
          refine HR.out.mono ?_
          rintro er w2 ⟨rfl, hb2⟩
          have HB2 := Lib.hid hb2
          have hz2 := hb2.size
          simp at hz2
          have hx2 := bdAt HX1.out hb2
          rw [HM.out] at hx2
          clear b0 b1 q0 q1 y0 y1
          obtain ⟨⟨b0, b1⟩, q0, q1⟩ := bk2 hx2
          clear hx2 hb2 HR
          have hne5 : w.heap.size + 1 + 1 ≠ w2.heap.size := by omega
          have hne6 : w2.heap.size ≠ w.heap.size + 1 + 1 := by omega
          have hlt6 : w.heap.size + 1 + 1 < w2.heap.size := by omega
          go_wp2_with fail
          go_roundw
          case rel => exact ⟨k + 1, made, mv, E, A, cap, by omega, by go_num, PSt.step HO1.out HX1.out HR1.out HBL1.out (by simp; omega) HB2.out HP.out.few (by omega) (HRW1.out.below HB2.out) (by omega) (by omega) HM.out _⟩
          case measure => simp [intOf]; omega
      | false =>
        rcases (show (v ≠ -1 ∧ v ∉ ords E) ∨ ∃ kk, PosK E v kk from by
          by_cases h1 : v = -1
          · exact Or.inr ⟨0, Or.inl ⟨h1, rfl⟩⟩
          · rcases ords_mem (E := E) (i := v) with ⟨j, e, hj, hve⟩ | hv
            · exact Or.inr ⟨j + 1, Or.inr ⟨j, e, hj, hve, rfl⟩⟩
            · exact Or.inl ⟨h1, hv⟩) with ⟨hv1, hv⟩ | ⟨kk, hpk⟩
        · have hoS : OSt w.heap.size (w.heap.size + 1) made mv E (wr.alloc (.cells #[.bool false, .int .i64 v] 49)) := HP.out.ost.below ((Below.refl _ _).alloc (Nat.le_refl _) _)
          have HD := Lib.hid (ol_insert_no w.heap.size (w.heap.size + 1) made mv E v (wr.alloc (.cells #[.bool false, .int .i64 v] 49)) hoS (by omega) hv1 hv)
          clear hoS
          go_wp2_with fail
          refine HD.out.mono ?_
          rintro er w1 ⟨rfl, rfl⟩
          have hx1 := bdOld (p := .cells #[.bool false, .int .i64 v] 49) HP.out.bx
          have hr1 := bdOld (p := .cells #[.bool false, .int .i64 v] 49) HP.out.rs
          have hrw1 : ORow w.heap.size (wr.alloc (.cells #[.bool false, .int .i64 v] 49)) A cap (ords E) := HP.out.row.below ((Below.refl _ _).alloc (Nat.le_refl _) _)
          have hbl1 : Below w.heap.size w (wr.alloc (.cells #[.bool false, .int .i64 v] 49)) := HP.out.bel.alloc hsz _
          have ho1 : OSt w.heap.size (w.heap.size + 1) made mv E (wr.alloc (.cells #[.bool false, .int .i64 v] 49)) := HP.out.ost.below ((Below.refl _ _).alloc (Nat.le_refl _) _)
          have HX1 := Lib.hid hx1
          have HR1 := Lib.hid hr1
          have HRW1 := Lib.hid hrw1
          have HBL1 := Lib.hid hbl1
          have HO1 := Lib.hid ho1
          have HR := Lib.hid (refIns_no w.heap.size cap m made A (ords E) (wr.alloc (.cells #[.bool false, .int .i64 v] 49)) (by rw [ords_len]; exact HM.out) hrw1 v hv1 (at_no hv))
          clear HD
          clear hx1 hr1 hrw1 hbl1 ho1
          go_wp2_with fail
          refine HR.out.mono ?_
          rintro er w2 ⟨rfl, hb2⟩
          have HB2 := Lib.hid hb2
          have hz2 := hb2.size
          simp at hz2
          have hx2 := bdAt HX1.out hb2
          rw [HM.out] at hx2
          clear b0 b1 q0 q1 y0 y1
          obtain ⟨⟨b0, b1⟩, q0, q1⟩ := bk2 hx2
          clear hx2 hb2 HR
          have hne5 : w.heap.size + 1 + 1 ≠ w2.heap.size := by omega
          have hne6 : w2.heap.size ≠ w.heap.size + 1 + 1 := by omega
          have hlt6 : w.heap.size + 1 + 1 < w2.heap.size := by omega
          go_wp2_with fail
          go_roundw
          case rel => exact ⟨k + 1, made, mv, E, A, cap, by omega, by go_num, PSt.step HO1.out HX1.out HR1.out HBL1.out (by simp; omega) HB2.out HP.out.few (by omega) (HRW1.out.below HB2.out) (by omega) (by omega) HM.out _⟩
          case measure => simp [intOf]; omega
        · have hoS : OSt w.heap.size (w.heap.size + 1) made mv E (wr.alloc (.cells #[.bool false, .int .i64 v] 49)) := HP.out.ost.below ((Below.refl _ _).alloc (Nat.le_refl _) _)
          have HD := Lib.hid (ol_insert_yes w.heap.size (w.heap.size + 1) made kk mv E v (wr.alloc (.cells #[.bool false, .int .i64 v] 49)) hoS (by omega) hpk)
          clear hoS
          go_wp2_with fail
          refine HD.out.mono ?_
          rintro er w1 ⟨rfl, ⟨a, ho1⟩, hb1, hk1⟩
          have hz1 := hb1.size
          have hx1 := hk1 _ _ _ _ (bdOld HP.out.bx) (by decide)
          have hr1 := hk1 _ _ _ _ (bdOld HP.out.rs) (by decide)
          have hs1 := hk1 _ _ _ _ (bdNew wr (.cells #[.bool false, .int .i64 v] 49)) (by decide)
          have hrw1 : ORow w.heap.size w1 A cap (ords E) := (HP.out.row.below ((Below.refl _ _).alloc (Nat.le_refl _) _)).kp hk1
          have hbl1 : Below w.heap.size w w1 := (HP.out.bel.alloc hsz _).trans hb1
          have HX1 := Lib.hid hx1
          have HR1 := Lib.hid hr1
          have HRW1 := Lib.hid hrw1
          have HBL1 := Lib.hid hbl1
          have HO1 := Lib.hid ho1
          have HS1 := Lib.hid hs1
          have hsB1 := hbl1.size
          have hw1l := bdLt hs1
          have HR := Lib.hid (refIns_yes w.heap.size cap m made kk A E v w1 HM.out (by omega) (by omega) hrw1 HP.out.ost.nums hpk)
          rw [← ords_spr E kk, ← ords_ins (sprE E kk) kk made (newL (sprE E kk) kk) a] at HR
          have hF : Hid (Few (made + 1) (sprM mv E kk) (insE (sprE E kk) kk ⟨made, newL (sprE E kk) kk, a⟩)) := Lib.hid (HP.out.few.ins HP.out.ost.asc HP.out.ost.len (by omega) hpk.le)
          clear HD
          clear b0 b1 q0 q1 y0 y1
          obtain ⟨⟨b0, b1⟩, q0, q1⟩ := bk2 hx1
          rw [HM.out] at b0
          obtain ⟨⟨y0, y1⟩, _, _⟩ := bk2 hs1
          clear hx1 hr1 hs1 hrw1 hbl1 ho1 hk1 hb1
          go_wp2_with fail
          refine HR.out.mono ?_
          rintro er w2 ⟨A2, cap2, rfl, hrow2, hb2⟩
          obtain ⟨m2, hm2⟩ : ∃ m2, m2 = (ords (insE (sprE E kk) kk ⟨made, newL (sprE E kk) kk, a⟩)).length := ⟨_, rfl⟩
          rw [← hm2]
          rw [ords_len] at hm2
          have HB2 := Lib.hid hb2
          have HRW2 := Lib.hid hrow2
          have HM2 := Lib.hid hm2
          have hz2 := hb2.size
          have hx2 := bdAt HX1.out hb2
          rw [HM.out] at hx2
          clear b0 b1 q0 q1 y0 y1
          obtain ⟨⟨b0, b1⟩, q0, q1⟩ := bk2 hx2
          clear hx2 hb2 HR hrow2 hm2
          have hne5 : w.heap.size + 1 + 1 ≠ w2.heap.size := by omega
          have hne6 : w2.heap.size ≠ w.heap.size + 1 + 1 := by omega
          have hlt6 : w.heap.size + 1 + 1 < w2.heap.size := by omega
          go_wp2_with fail
          go_roundw
          case rel => exact ⟨k + 1, made + 1, sprM mv E kk, _, A2, cap2, by omega, by go_num, PSt.step HO1.out HX1.out HR1.out HBL1.out (by omega) HB2.out hF.out (by omega) (HRW2.out.more (by omega)) (by omega) (by omega) HM2.out.symm _⟩
          case measure => simp [intOf]; omega
    · have hkn : k = n := by omega
      have hr := HP.out.rs
      obtain ⟨⟨r0, r1⟩, s0, s1⟩ := bk2 hr
      have HR := Lib.hid hr
      clear hr
      go_wp2_with fail
      go_region
      go_wp2_with fail
      refine bodyPost_ret (v := .tuple #[.pointer (some ⟨w.heap.size + 1, 0, none⟩), .agg #[.slice A E.length cap, .int .i64 made], .bool true]) (by simp [results, Try.results10, go_sem, r0, r1]) rfl ⟨w.heap.size + 1, made, mv, E, A, cap, rfl, ?_, HP.out.few, by omega, ?_, ?_⟩
      · exact ((HP.out.ost.setOther (i := 0) (v := .slice A E.length cap) HR.out (by decide)).setOther (i := 1) (v := .int .i64 made) (heap_set _ _ _ _ HR.out) (by decide)).drewN 1
      · exact ((HP.out.row.setOther (i := 0) (v := .slice A E.length cap) HR.out (by decide)).setOther (i := 1) (v := .int .i64 made) (heap_set _ _ _ _ HR.out) (by decide))
      · exact bdN ((HP.out.bel.setCell (p := ⟨w.heap.size, 0, none⟩) (Nat.le_refl _) _).setCell (p := ⟨w.heap.size, 1, none⟩) (Nat.le_refl _) _) 1
end Go.Proofs.Ytbmaijkpcpbgjaa
