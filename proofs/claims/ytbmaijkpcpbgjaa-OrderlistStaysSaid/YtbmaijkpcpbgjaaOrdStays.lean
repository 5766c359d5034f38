/- OrderlistStays: its walk. By genord7.py. -/
import Derived.Test.YtbmaijkpcpbgjaaOrdStayN
namespace Go.Proofs.Ytbmaijkpcpbgjaa
open Go.RowKit
set_option maxRecDepth 100000
/-- The list behind further steps, beside what was there: the reference's list and the labels. -/
structure RS (w : World) (B xl mb made0 : Nat) (mv0 : Int) (E0 : List El) (A : Option Addr) (cap m : Nat) (A8 : Option Addr) (c8 made : Nat) (mv : Int) (E : List El) (W : World) : Prop where
  ost : OSt B xl made mv E W
  kept : Kept E0 mv0 made mv E
  row : ORow B W A cap (ords E0)
  bx : W.heap[mb]? = some (.cells #[.slice A m cap, .int .i64 made0] 27 (0, 0))
  lb : ORow B W A8 c8 (E0.map El.lab)
  bel : Below w.heap.size w W
  hsz : w.heap.size ≤ W.heap.size
section
variable {w : World} {B xl mb made0 : Nat} {mv0 : Int} {E0 : List El} {A : Option Addr} {cap m : Nat} {A8 : Option Addr} {c8 made : Nat} {mv : Int} {E : List El} {W W' : World}
theorem RS.next (h : RS w B xl mb made0 mv0 E0 A cap m A8 c8 made mv E W) (hb : Below W.heap.size W W') : RS w B xl mb made0 mv0 E0 A cap m A8 c8 made mv E W' :=
  ⟨h.ost.below hb, h.kept, h.row.below hb, bdAt h.bx hb, h.lb.below hb, h.bel.trans (hb.mono h.hsz), Nat.le_trans h.hsz hb.size⟩
theorem RS.step {made' : Nat} {mv' : Int} {E' : List El} (h : RS w B xl mb made0 mv0 E0 A cap m A8 c8 made mv E W) (hB : w.heap.size ≤ B) (ho : OSt B xl made' mv' E' W') (hk : Kept E0 mv0 made' mv' E') (hb : Below B W W') (hkp : Kp W W') : RS w B xl mb made0 mv0 E0 A cap m A8 c8 made' mv' E' W' :=
  ⟨ho, hk, h.row.kp hkp, hkp _ _ _ _ h.bx (by decide), h.lb.kp hkp, h.bel.trans (hb.mono hB), Nat.le_trans h.hsz hb.size⟩
theorem RS.start (h : RL w B xl made0 mb mv0 E0 A cap m W) (hl : ORow B W A8 c8 (E0.map El.lab)) : RS w B xl mb made0 mv0 E0 A cap m A8 c8 made0 mv0 E0 W :=
  ⟨h.ost, Kept.start h.ost, h.row, h.bx, hl, h.bel, h.hsz⟩
end
/-- The last element that was met and is still there. -/
def LastOk (E0 E : List El) (k : Nat) (lv : Int) : Prop := lv = -1 ∨ ∃ (j p : Nat) (a f : El), j < k ∧ E0[j]? = some a ∧ E[p]? = some f ∧ f.num = a.num ∧ lv = (a.num : Int)
theorem last_before {E0 E : List El} (h : OrdK (ords E0) (ords E)) {j k p q : Nat} {a b f g : El} (hjk : j < k) (ha : E0[j]? = some a) (hb : E0[k]? = some b) (hf : E[p]? = some f) (hg : E[q]? = some g) (hfa : f.num = a.num) (hgb : g.num = b.num) : p < q :=
  h j k p q (a.num : Int) (b.num : Int) hjk (ords_get ha) (ords_get hb) (by rw [ords_get hf, hfa]) (by rw [ords_get hg, hgb])
set_option maxHeartbeats 64000000 in
theorem lawStays_any (A0 A1 : Option Addr) (c0 c1 : Nat) (S T : List (Bool × Int)) (w : World) (hm : S.length ≤ maxLen) (hS : StepsAt w.heap.size w A0 S) (hm' : T.length ≤ maxLen) (hT : StepsAt w.heap.size w A1 T) :
    Calls Try.prog 7 #[.slice A0 S.length c0, .slice A1 T.length c1] w fun e w' => e = .returned (.bool true) ∧ Below w.heap.size w w' := by
  unfold maxLen at hm hm'
  have HW := Lib.hid (awake_any w)
  have HS := Lib.hid hS
  have HT := Lib.hid hT
  obtain ⟨n, hn⟩ : ∃ n, S.length = n := ⟨_, rfl⟩
  rw [hn] at hm ⊢
  have HN := Lib.hid hn
  obtain ⟨n2, hn2⟩ : ∃ n2, T.length = n2 := ⟨_, rfl⟩
  rw [hn2] at hm' ⊢
  have HN2 := Lib.hid hn2
  clear hn hS hn2 hT
  by_cases h60 : n ≤ 60
  case neg =>
    have d1 : decide ((60 : Int) < (n : Int)) = true := decide_eq_true (by omega)
    go_enter Try.func7, Try.ntmps7
    go_wp2_with fail
    refine HW.out.mono ?_
    rintro er w1 ⟨rfl, hb1⟩
    go_wp2_with fail
    go_ret
    exact ⟨rfl, hb1⟩
  have d1 : decide ((60 : Int) < (n : Int)) = false := decide_eq_false (by omega)
  by_cases h61 : n2 ≤ 60
  case neg =>
    have d2 : decide ((60 : Int) < (n2 : Int)) = true := decide_eq_true (by omega)
    go_enter Try.func7, Try.ntmps7
    go_wp2_with fail
    refine HW.out.mono ?_
    rintro er w1 ⟨rfl, hb1⟩
    go_wp2_with fail
    go_ret
    exact ⟨rfl, hb1⟩
  have d2 : decide ((60 : Int) < (n2 : Int)) = false := decide_eq_false (by omega)
  go_enter Try.func7, Try.ntmps7
  go_wp2_with fail
  refine HW.out.mono ?_
  rintro er w1 ⟨rfl, hb1⟩
  have HB1 := Lib.hid hb1
  have HP := Lib.hid (play_any A0 c0 n S w1 HN.out (by omega) ((HS.out.below hb1).more hb1.size))
  clear hb1 HW
  go_wp2_with fail
  refine HP.out.mono ?_
  rintro er w2 ⟨xl, made, mv, E, A, cap, rfl, ho, hf, hmk, hr, hb2⟩
  obtain ⟨m, hme⟩ : ∃ m, E.length = m := ⟨_, rfl⟩
  rw [hme]
  have HR0 := Lib.hid (RL.start (m := m) HB1.out ho hr hb2)
  have hml : m ≤ 60 := by have := ho.len; omega
  have HM := Lib.hid hme
  have hz1 := HB1.out.size
  have hz2 := hb2.size
  obtain ⟨⟨b0, b1⟩, _, _⟩ := bk2 HR0.out.bx
  clear ho hf hr hb2 hme HP
  obtain ⟨W0, hW0⟩ : ∃ W0, W0 = w2.alloc (.cells #[.slice A m cap, .int .i64 made] 27) := ⟨_, rfl⟩
  have hzW : w2.heap.size < W0.heap.size := by rw [hW0]; simp
  rw [← hW0] at HR0 b0 b1
  have HW0 := Lib.hid hW0
  clear hW0
  obtain ⟨i1, hi1, hy0, hy1, hy2⟩ := info_parts Try.infoInt
  go_wp2_with fail
  rw [← HW0.out]
  clear b0 b1
  go_loopw [8, 47] (fun s8 s47 wr => ∃ (k c8 : Nat) (A8 : Option Addr), k ≤ m ∧ s47 = .int .i64 k ∧ s8 = .slice A8 k c8 ∧ wr.ownsRow W0.heap.size 3 1 (.slice A8 k c8) k (((E.take k).map El.lab).map (Value.int .i64)) ∧ Below W0.heap.size W0 wr) (fun _ s47 _ => m - (intOf s47).toNat)
  case atStart => exact ⟨0, 0, none, by omega, rfl, rfl, World.ownsRow_nil _ _ _ _, Below.refl _ _⟩
  case round =>
    obtain ⟨k, c8, A8, hk, rfl, rfl, how, hb⟩ := hrel
    have HOW := Lib.hid how
    have HB := Lib.hid hb
    have hsz := hb.size
    have HR := Lib.hid (HR0.out.next hb)
    clear how hb
    by_cases hlt : k < m
    · have hltI : (k : Int) < (m : Int) := by omega
      obtain ⟨f, hf⟩ : ∃ f, E[k]? = some f := ⟨E[k]'(by rw [HM.out]; exact hlt), List.getElem?_eq_getElem _⟩
      obtain ⟨g, hA, _, _, y0⟩ := HR.out.row.get (ords_get hf)
      subst hA
      have HLY := Lib.hid (ol_label_yes w1.heap.size xl made k mv E f wr HR.out.ost (by omega) hf)
      have HTK : Hid (((E.take (k + 1)).map El.lab).map (Value.int .i64) = ((E.take k).map El.lab).map (Value.int .i64) ++ [.int .i64 f.lab]) := Lib.hid (by rw [List.take_add_one, hf, Option.toList_some]; simp)
      obtain ⟨lb, hlb⟩ : ∃ lb, lb = f.lab := ⟨_, rfl⟩
      rw [← hlb] at HLY HTK
      obtain ⟨nm, hnm⟩ : ∃ nm, nm = f.num := ⟨_, rfl⟩
      rw [← hnm] at HLY y0
      clear hf hlb hnm
      go_wp2_with fail
      refine HLY.out.mono ?_
      rintro er w5 ⟨rfl, rfl⟩
      go_wp2_with (at_builtin; refine wpList_append_lies _ rfl (.tmp 59) (.tmp 61) 25 rfl W0.heap.size 3 i1 _ 1 8 Try.underlying25 hi1 hy0 hy1 hy2 rfl (by decide) (.slice A8 k c8) k (((E.take k).map El.lab).map (Value.int .i64)) rfl (HOW.out.alloc _) ⟨wr.heap.size, 0, none⟩ 1 1 [.int .i64 lb] rfl rfl (World.news_of_block (cs := #[.int .i64 lb]) (t := 3) (fr := (0, 0)) (heap_alloc_new wr _)) (by simp [Value.oneCell']) (by omega) (by unfold maxLen; omega) (by omega) (by simp; omega) (wr.heap.size + 1) (by simp) ?_)
      intro g2 cap2 W6 hown6 hgrow6 hat6 hlt6
      have HB6 := Lib.hid ((HB.out.alloc hsz _).grown hgrow6 (by simp; omega) (fun k' e => by have := (HOW.out.lt k' e).1; omega))
      have HO6 : Hid (W6.ownsRow W0.heap.size 3 1 (.slice (some ⟨g2, 0, none⟩) (k + 1) cap2) (k + 1) (((E.take (k + 1)).map El.lab).map (Value.int .i64))) := Lib.hid (by rw [HTK.out]; simpa using hown6)
      clear hown6 hgrow6 hat6 hlt6
      go_wp2_with fail
      go_roundw
      case rel => exact ⟨k + 1, cap2, some ⟨g2, 0, none⟩, by omega, by go_num, rfl, HO6.out, HB6.out⟩
      case measure => simp [intOf]; omega
    · have hkm : k = m := by omega
      subst hkm
      have HL8 : Hid (ORow w1.heap.size wr A8 c8 (E.map El.lab)) := Lib.hid (by
        refine ORow.more (B := W0.heap.size) ?_ (by omega)
        have := HOW.out
        rw [List.take_of_length_le (by have := HM.out; omega)] at this
        unfold ORow
        rw [List.length_map, HM.out]
        exact this)
      have HRS := Lib.hid (RS.start HR.out HL8.out)
      have HMV := Lib.hid (ol_moves w1.heap.size xl made mv E wr HR.out.ost)
      obtain ⟨wo, hwo⟩ : ∃ wo, wo = wr := ⟨_, rfl⟩
      rw [← hwo] at HRS HMV ⊢
      clear hwo HOW HB HR HL8 hlt hk
      have hmv0 := HRS.out.ost.mvb
      clear hsz wr
      go_wp2_with fail
      refine HMV.out.mono ?_
      rintro er w6 ⟨rfl, rfl⟩
      go_wp2_with fail
      go_loopw [68] (fun s68 wr => ∃ (k2 made' : Nat) (mv' : Int) (E' : List El), k2 ≤ n2 ∧ s68 = .int .i64 k2 ∧ made' ≤ made + k2 ∧ RS w w1.heap.size xl w2.heap.size made mv E A cap k A8 c8 made' mv' E' wr) (fun s68 _ => n2 - (intOf s68).toNat)
      case atStart => exact ⟨0, made, mv, E, by omega, rfl, by omega, HRS.out⟩
      case round =>
        obtain ⟨k2, made', mv', E', hk2, rfl, hmd, hrs⟩ := hrel
        have HRR := Lib.hid hrs
        have hszr := hrs.hsz
        have hmv' := hrs.ost.mvb
        clear hrs
        by_cases hlt2 : k2 < n2
        · have hlt2I : (k2 : Int) < (n2 : Int) := by omega
          obtain ⟨⟨d, v⟩, hs⟩ : ∃ s, T[k2]? = some s := ⟨T[k2]'(by rw [HN2.out]; exact hlt2), List.getElem?_eq_getElem _⟩
          obtain ⟨sb, off, hA1, hsb, hcs⟩ := (HT.out.below HRR.out.bel) (by rw [HN2.out]; omega)
          subst hA1
          obtain ⟨y0, y1⟩ := hcs k2 (d, v) hs
          dsimp only at y0 y1
          have hsne : sb ≠ wr.heap.size := by omega
          clear hcs hs
          cases d with
          | true =>
            rcases ords_mem (E := E') (i := v) with ⟨j, e, hj, rfl⟩ | hv
            · have hRS2 := HRR.out.next ((Below.refl wr.heap.size wr).alloc (Nat.le_refl _) (.cells #[.bool true, .int .i64 (e.num : Int)] 49))
              have HRS2 := Lib.hid hRS2
              have HD := Lib.hid (ol_delete_yes w1.heap.size xl made' j mv' E' e (wr.alloc (.cells #[.bool true, .int .i64 (e.num : Int)] 49)) hRS2.ost (by omega) hj)
              clear hRS2
              go_wp2_with fail
              refine HD.out.mono ?_
              rintro er w7 ⟨rfl, ho7, hb7, hk7⟩
              have HR7 := Lib.hid (HRS2.out.step hz1 ho7 HRS2.out.kept.del hb7 hk7)
              clear ho7 hb7 hk7
              clear HD
              go_wp2_with fail
              go_roundw
              case rel => exact ⟨k2 + 1, made', _, _, by omega, by go_num, by omega, HR7.out⟩
              case measure => simp [intOf]; omega
            · have hRS2 := HRR.out.next ((Below.refl wr.heap.size wr).alloc (Nat.le_refl _) (.cells #[.bool true, .int .i64 v] 49))
              have HRS2 := Lib.hid hRS2
              have HD := Lib.hid (ol_delete_no w1.heap.size xl made' mv' E' v (wr.alloc (.cells #[.bool true, .int .i64 v] 49)) hRS2.ost (by omega) hv)
              clear hRS2
              go_wp2_with fail
              refine HD.out.mono ?_
              rintro er w7 ⟨rfl, rfl⟩
              clear HD
              go_wp2_with fail
              go_roundw
              case rel => exact ⟨k2 + 1, made', _, _, by omega, by go_num, by omega, HRS2.out⟩
              case measure => simp [intOf]; omega
          | false =>
            rcases (show (v ≠ -1 ∧ v ∉ ords E') ∨ ∃ kk, PosK E' v kk from by
              by_cases h1 : v = -1
              · exact Or.inr ⟨0, Or.inl ⟨h1, rfl⟩⟩
              · rcases ords_mem (E := E') (i := v) with ⟨j, e, hj, hve⟩ | hv
                · exact Or.inr ⟨j + 1, Or.inr ⟨j, e, hj, hve, rfl⟩⟩
                · exact Or.inl ⟨h1, hv⟩) with ⟨hv1, hv⟩ | ⟨kk, hpk⟩
            · have hRS2 := HRR.out.next ((Below.refl wr.heap.size wr).alloc (Nat.le_refl _) (.cells #[.bool false, .int .i64 v] 49))
              have HRS2 := Lib.hid hRS2
              have HD := Lib.hid (ol_insert_no w1.heap.size xl made' mv' E' v (wr.alloc (.cells #[.bool false, .int .i64 v] 49)) hRS2.ost (by omega) hv1 hv)
              clear hRS2
              go_wp2_with fail
              refine HD.out.mono ?_
              rintro er w7 ⟨rfl, rfl⟩
              clear HD
              go_wp2_with fail
              go_roundw
              case rel => exact ⟨k2 + 1, made', _, _, by omega, by go_num, by omega, HRS2.out⟩
              case measure => simp [intOf]; omega
            · have hRS2 := HRR.out.next ((Below.refl wr.heap.size wr).alloc (Nat.le_refl _) (.cells #[.bool false, .int .i64 v] 49))
              have HRS2 := Lib.hid hRS2
              have HD := Lib.hid (ol_insert_yes w1.heap.size xl made' kk mv' E' v (wr.alloc (.cells #[.bool false, .int .i64 v] 49)) hRS2.ost (by omega) hpk)
              clear hRS2
              go_wp2_with fail
              refine HD.out.mono ?_
              rintro er w7 ⟨rfl, ⟨aa, ho7⟩, hb7, hk7⟩
              have HR7 := Lib.hid (HRS2.out.step hz1 ho7 (HRS2.out.kept.ins hpk.le) hb7 hk7)
              clear ho7 hb7 hk7
              clear HD
              go_wp2_with fail
              go_roundw
              case rel => exact ⟨k2 + 1, made' + 1, _, _, by omega, by go_num, by omega, HR7.out⟩
              case measure => simp [intOf]; omega
        · have hkn2 : k2 = n2 := by omega
          subst hkn2
          obtain ⟨wp, hwp⟩ : ∃ wp, wp = wr := ⟨_, rfl⟩
          rw [← hwp] at HRR hszr ⊢
          clear hwp hlt2
          have hKept := Lib.hid HRR.out.kept
          have hAsc := Lib.hid HRR.out.ost.asc
          have hNums := Lib.hid HRR.out.ost.nums
          obtain ⟨⟨b0, b1⟩, _, _⟩ := bk2 HRR.out.bx
          clear wr hszr
          go_wp2_with fail
          clear b0 b1
          go_loopw [16, 17, 86] (fun s16 s17 s86 wr => ∃ (k3 : Nat) (lv : Int), k3 ≤ k ∧ s86 = .int .i64 k3 ∧ s16 = .int .i64 ((E.take k3).countP (chgB E') : Nat) ∧ s17 = .int .i64 lv ∧ LastOk E E' k3 lv ∧ RS w w1.heap.size xl w2.heap.size made mv E A cap k A8 c8 made' mv' E' wr) (fun _ _ s86 _ => k - (intOf s86).toNat)
          case atStart => exact ⟨0, -1, by omega, rfl, by simp, rfl, Or.inl rfl, HRR.out⟩
          case round =>
            obtain ⟨k3, lv, hk3, rfl, rfl, rfl, hlv, hrs⟩ := hrel
            have HR3 := Lib.hid hrs
            have HLV := Lib.hid hlv
            clear hrs hlv
            have hcle : (E.take k3).countP (chgB E') ≤ k3 := Nat.le_trans List.countP_le_length (by rw [List.length_take]; omega)
            by_cases hlt3 : k3 < k
            · have hlt3I : (k3 : Int) < (k : Int) := by omega
              obtain ⟨a, ha⟩ : ∃ a, E[k3]? = some a := ⟨E[k3]'(by rw [HM.out]; exact hlt3), List.getElem?_eq_getElem _⟩
              obtain ⟨g, hA, _, _, y0⟩ := HR3.out.row.get (ords_get ha)
              subst hA
              obtain ⟨g8, hA8, _, _, y1⟩ := HR3.out.lb.get (k := k3) (x := a.lab) (by rw [List.getElem?_map, ha]; rfl)
              subst hA8
              have HCP := Lib.hid (countP_snoc ha (chgB E'))
              have HA := Lib.hid ha
              obtain ⟨cn, hcn⟩ : ∃ cn, cn = (E.take k3).countP (chgB E') := ⟨_, rfl⟩
              rw [← hcn] at HCP hcle ⊢
              obtain ⟨al, hal⟩ : ∃ al, al = a.lab := ⟨_, rfl⟩
              rw [← hal] at y1
              have HAL := Lib.hid hal
              obtain ⟨nm, hnm⟩ : ∃ nm, nm = a.num := ⟨_, rfl⟩
              rw [← hnm] at y0
              have HNM := Lib.hid hnm
              clear ha hcn hal hnm
              rcases ords_mem (E := E') (i := (nm : Int)) with ⟨pp, f, hp, hfn⟩ | hgone
              · have hfnm : f.num = nm := by omega
                have HPP := Lib.hid hp
                have HCON := Lib.hid (ol_contains_yes w1.heap.size xl made' pp mv' E' f wr HR3.out.ost (by omega) hp)
                rw [hfnm] at HCON
                have HCB := Lib.hid (chgB_at hNums.out hp (show f.num = a.num by have := HNM.out; omega))
                rw [← HAL.out] at HCB
                have HLABc := Lib.hid (fun W h => ol_label_yes w1.heap.size xl made' pp mv' E' f W h (by omega) hp)
                rw [hfnm] at HLABc
                have HFNM := Lib.hid hfnm
                obtain ⟨fl, hfl⟩ : ∃ fl, fl = f.lab := ⟨_, rfl⟩
                rw [← hfl] at HLABc HCB
                have HFL := Lib.hid hfl
                clear hp hfn hfnm hfl
                rcases HLV.out with hlv1 | ⟨jl, pl, al0, fl0, hjl, hal0, hpl, hfl0a, hlve⟩
                · by_cases hla : fl = al
                  · have hlv0 : lv < 0 := by omega
                    have HLV1 := Lib.hid hlv1
                    clear hlv1
                    have d3 : decide ((0 : Int) ≤ lv) = false := decide_eq_false (by omega)
                    go_wp2_with fail
                    refine HCON.out.mono ?_
                    rintro er w8 ⟨rfl, rfl⟩
                    have e5 : (fl != al) = false := by simp [hla]
                    have HC5 : Hid ((E.take (k3 + 1)).countP (chgB E') = cn) := Lib.hid (by rw [HCP.out, HCB.out, e5]; simp)
                    have HLL := Lib.hid (HLABc.out wr HR3.out.ost)
                    clear hla
                    go_wp2_with fail
                    refine HLL.out.mono ?_
                    rintro er w11 ⟨rfl, rfl⟩
                    go_wp2_with fail
                    go_roundw
                    case rel => exact ⟨k3 + 1, (nm : Int), by omega, by go_num, by rw [HC5.out], rfl, Or.inr ⟨k3, pp, a, f, by omega, HA.out, HPP.out, by rw [HFNM.out, HNM.out], by rw [HNM.out]⟩, HR3.out⟩
                    case measure => simp [intOf]; omega
                  · have hlv0 : lv < 0 := by omega
                    have HLV1 := Lib.hid hlv1
                    clear hlv1
                    have d3 : decide ((0 : Int) ≤ lv) = false := decide_eq_false (by omega)
                    go_wp2_with fail
                    refine HCON.out.mono ?_
                    rintro er w8 ⟨rfl, rfl⟩
                    have e5 : (fl != al) = true := by simp [hla]
                    have HC5 : Hid ((E.take (k3 + 1)).countP (chgB E') = cn + 1) := Lib.hid (by rw [HCP.out, HCB.out, e5]; simp)
                    have HLL := Lib.hid (HLABc.out wr HR3.out.ost)
                    clear hla
                    go_wp2_with fail
                    refine HLL.out.mono ?_
                    rintro er w11 ⟨rfl, rfl⟩
                    go_wp2_with fail
                    go_roundw
                    case rel => exact ⟨k3 + 1, (nm : Int), by omega, by go_num, by rw [HC5.out]; go_num, rfl, Or.inr ⟨k3, pp, a, f, by omega, HA.out, HPP.out, by rw [HFNM.out, HNM.out], by rw [HNM.out]⟩, HR3.out⟩
                    case measure => simp [intOf]; omega
                · have hlv0 : 0 ≤ lv := by omega
                  have hlt4 : pl < pp := last_before hKept.out.ord hjl hal0 HA.out hpl HPP.out hfl0a (by rw [HFNM.out, HNM.out])
                  have hfl0 : (fl0.num : Int) = lv := by omega
                  clear hlve hfl0a hal0
                  by_cases hla : fl = al
                  · have d3 : decide ((0 : Int) ≤ lv) = true := decide_eq_true (by omega)
                    go_wp2_with fail
                    refine HCON.out.mono ?_
                    rintro er w8 ⟨rfl, rfl⟩
                    have HC1 := Lib.hid (ol_compare_yes w1.heap.size xl made' pl pp mv' E' fl0 f wr HR3.out.ost (by omega) hpl HPP.out)
                    rw [cmp_at hAsc.out hpl HPP.out hlt4, hfl0, HFNM.out] at HC1
                    go_wp2_with fail
                    refine HC1.out.mono ?_
                    rintro er w9 ⟨rfl, q9, hq9⟩
                    have HR9 := Lib.hid (HR3.out.next (W' := w9) (hq9 ▸ bdN (Below.refl _ _) q9))
                    clear hq9
                    have HC2 := Lib.hid (ol_compare_yes w1.heap.size xl made' pp pl mv' E' f fl0 w9 HR9.out.ost (by omega) HPP.out hpl)
                    rw [cmpO_gt (hAsc.out.1 pl pp fl0 f hlt4 hpl HPP.out), hfl0, HFNM.out] at HC2
                    go_wp2_with fail
                    refine HC2.out.mono ?_
                    rintro er w10 ⟨rfl, q10, hq10⟩
                    have HR10 := Lib.hid (HR9.out.next (W' := w10) (hq10 ▸ bdN (Below.refl _ _) q10))
                    clear hq10
                    obtain ⟨g9, hA9, _, _, y2⟩ := HR10.out.lb.get (k := k3) (x := a.lab) (by rw [List.getElem?_map, HA.out]; rfl)
                    obtain rfl : g8 = g9 := by injection hA9 with hA9; injection hA9
                    rw [← HAL.out] at y2
                    clear hA9
                    have e5 : (fl != al) = false := by simp [hla]
                    have HC5 : Hid ((E.take (k3 + 1)).countP (chgB E') = cn) := Lib.hid (by rw [HCP.out, HCB.out, e5]; simp)
                    have HLL := Lib.hid (HLABc.out w10 HR10.out.ost)
                    clear hla
                    go_wp2_with fail
                    refine HLL.out.mono ?_
                    rintro er w11 ⟨rfl, rfl⟩
                    go_wp2_with fail
                    go_roundw
                    case rel => exact ⟨k3 + 1, (nm : Int), by omega, by go_num, by rw [HC5.out], rfl, Or.inr ⟨k3, pp, a, f, by omega, HA.out, HPP.out, by rw [HFNM.out, HNM.out], by rw [HNM.out]⟩, HR10.out⟩
                    case measure => simp [intOf]; omega
                  · have d3 : decide ((0 : Int) ≤ lv) = true := decide_eq_true (by omega)
                    go_wp2_with fail
                    refine HCON.out.mono ?_
                    rintro er w8 ⟨rfl, rfl⟩
                    have HC1 := Lib.hid (ol_compare_yes w1.heap.size xl made' pl pp mv' E' fl0 f wr HR3.out.ost (by omega) hpl HPP.out)
                    rw [cmp_at hAsc.out hpl HPP.out hlt4, hfl0, HFNM.out] at HC1
                    go_wp2_with fail
                    refine HC1.out.mono ?_
                    rintro er w9 ⟨rfl, q9, hq9⟩
                    have HR9 := Lib.hid (HR3.out.next (W' := w9) (hq9 ▸ bdN (Below.refl _ _) q9))
                    clear hq9
                    have HC2 := Lib.hid (ol_compare_yes w1.heap.size xl made' pp pl mv' E' f fl0 w9 HR9.out.ost (by omega) HPP.out hpl)
                    rw [cmpO_gt (hAsc.out.1 pl pp fl0 f hlt4 hpl HPP.out), hfl0, HFNM.out] at HC2
                    go_wp2_with fail
                    refine HC2.out.mono ?_
                    rintro er w10 ⟨rfl, q10, hq10⟩
                    have HR10 := Lib.hid (HR9.out.next (W' := w10) (hq10 ▸ bdN (Below.refl _ _) q10))
                    clear hq10
                    obtain ⟨g9, hA9, _, _, y2⟩ := HR10.out.lb.get (k := k3) (x := a.lab) (by rw [List.getElem?_map, HA.out]; rfl)
                    obtain rfl : g8 = g9 := by injection hA9 with hA9; injection hA9
                    rw [← HAL.out] at y2
                    clear hA9
                    have e5 : (fl != al) = true := by simp [hla]
                    have HC5 : Hid ((E.take (k3 + 1)).countP (chgB E') = cn + 1) := Lib.hid (by rw [HCP.out, HCB.out, e5]; simp)
                    have HLL := Lib.hid (HLABc.out w10 HR10.out.ost)
                    clear hla
                    go_wp2_with fail
                    refine HLL.out.mono ?_
                    rintro er w11 ⟨rfl, rfl⟩
                    go_wp2_with fail
                    go_roundw
                    case rel => exact ⟨k3 + 1, (nm : Int), by omega, by go_num, by rw [HC5.out]; go_num, rfl, Or.inr ⟨k3, pp, a, f, by omega, HA.out, HPP.out, by rw [HFNM.out, HNM.out], by rw [HNM.out]⟩, HR10.out⟩
                    case measure => simp [intOf]; omega
              · have HCON := Lib.hid (ol_contains_no w1.heap.size xl made' mv' E' (nm : Int) wr HR3.out.ost (by omega) hgone)
                have HC5 : Hid ((E.take (k3 + 1)).countP (chgB E') = cn) := Lib.hid (by rw [HCP.out, chgB_gone (by rw [← HNM.out]; exact hgone)]; simp)
                clear hgone
                go_wp2_with fail
                refine HCON.out.mono ?_
                rintro er w8 ⟨rfl, rfl⟩
                go_wp2_with fail
                go_roundw
                case rel => exact ⟨k3 + 1, lv, by omega, by go_num, by rw [HC5.out], rfl, HLV.out.imp id (fun ⟨j, p, a, f, h1, h2, h3, h4, h5⟩ => ⟨j, p, a, f, by omega, h2, h3, h4, h5⟩), HR3.out⟩
                case measure => simp [intOf]; omega
            · have hk3k : k3 = k := by omega
              subst hk3k
              have hch := hKept.out.chg
              rw [show chgd E E' = (E.take k3).countP (chgB E') from by rw [List.take_of_length_le (by have := HM.out; omega)]; rfl] at hch
              have HMV2 := Lib.hid (ol_moves w1.heap.size xl made' mv' E' wr HR3.out.ost)
              obtain ⟨cn, hcn⟩ : ∃ cn, cn = (E.take k3).countP (chgB E') := ⟨_, rfl⟩
              rw [← hcn] at hch hcle ⊢
              clear hcn
              have d9 : decide ((cn : Int) ≤ mv' - mv) = true := decide_eq_true hch
              go_wp2_with fail
              refine HMV2.out.mono ?_
              rintro er w12 ⟨rfl, rfl⟩
              go_wp2_with fail
              go_ret
              exact ⟨rfl, HR3.out.bel⟩
end Go.Proofs.Ytbmaijkpcpbgjaa
