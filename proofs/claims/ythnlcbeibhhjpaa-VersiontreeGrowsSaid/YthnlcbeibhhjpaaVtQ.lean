/- VersiontreeIndex: its walk. -/
import Derived.Test.YthnlcbeibhhjpaaVtP
namespace Go.Proofs.Ythnlcbeibhhjpaa
open Go.RowKit
set_option maxRecDepth 100000
/-- An index and its tree in a box, while a law looks at them. -/
structure QL (w : World) (B x mb : Nat) (Vs : List Vn) (A : Option Addr) (cap m : Nat) (W : World) : Prop where
  ix : IxM (B + 1) x Vs W
  row : ORow B W A cap (parV Vs)
  bx : W.heap[mb]? = some (.cells #[.slice A m cap] 24 (0, 0))
  bel : Below w.heap.size w W
  hsz : w.heap.size ≤ W.heap.size
theorem QL.next {w : World} {B x mb : Nat} {Vs : List Vn} {A : Option Addr} {cap m : Nat} {W W' : World} (h : QL w B x mb Vs A cap m W) (hb : Below W.heap.size W W') : QL w B x mb Vs A cap m W' :=
  ⟨h.ix.below hb, h.row.below hb, bdAt h.bx hb, h.bel.trans (hb.mono h.hsz), Nat.le_trans h.hsz hb.size⟩
theorem QL.drewN {w : World} {B x mb : Nat} {Vs : List Vn} {A : Option Addr} {cap m : Nat} {W : World} (h : QL w B x mb Vs A cap m W) (n : Nat) : QL w B x mb Vs A cap m (W.drewN n) :=
  ⟨h.ix.drewN n, h.row, h.bx, bdN h.bel n, h.hsz⟩
theorem QL.cell {w : World} {B x mb : Nat} {Vs : List Vn} {A : Option Addr} {cap m : Nat} {W : World} (h : QL w B x mb Vs A cap m W) : W.cell? ⟨mb, 0, none⟩ = some (.slice A m cap) := (bk1 h.bx).1
theorem QL.start {w w1 w2 : World} {x : Nat} {Vs : List Vn} {A : Option Addr} {cap m : Nat} (hb : Below w.heap.size w w1) (ho : IxM (w1.heap.size + 1) x Vs w2) (hr : ORow w1.heap.size w2 A cap (parV Vs)) (hb2 : Below w1.heap.size w1 w2) :
    QL w w1.heap.size x w2.heap.size Vs A cap m (w2.alloc (.cells #[.slice A m cap] 24)) := by
  have h1 := hb.size
  have h2 := hb2.size
  exact ⟨ho.below ((Below.refl _ _).alloc (Nat.le_refl _) _), hr.below ((Below.refl _ _).alloc (Nat.le_refl _) _), bdNew _ _, (hb.trans (hb2.mono h1)).alloc (by omega) _, by simp; omega⟩
theorem QL.ints {w : World} {B x mb : Nat} {Vs : List Vn} {A : Option Addr} {cap m : Nat} {W : World} (h : QL w B x mb Vs A cap m W) : IntsAt (· < W.heap.size) W A (parV Vs) := intsAt_own h.row (fun _ _ h => h)
/-- What Tree has returned, kept shut. -/
structure OwnV (B' m : Nat) (A' : Option Addr) (cap' : Nat) (Vs : List Vn) (w : World) : Prop where
  out : ORow B' w A' cap' (parV Vs)
theorem ql_len {w : World} {B x mb : Nat} {Vs : List Vn} {A : Option Addr} {cap m : Nat} (hm : Vs.length = m) (hml : m ≤ 1000) (W : World) (h : QL w B x mb Vs A cap m W) : Calls Try.prog 22 #[.pointer (some ⟨x, 0, none⟩)] W fun e w' => e = .returned (.int .i64 m) ∧ Below W.heap.size W w' := ix_len (B + 1) x m Vs W h.ix hm hml
theorem ql_tree {w : World} {B x mb : Nat} {Vs : List Vn} {A : Option Addr} {cap m : Nat} (hm : Vs.length = m) (hml : m ≤ 1000) (W : World) (h : QL w B x mb Vs A cap m W) : Calls Try.prog 23 #[.pointer (some ⟨x, 0, none⟩)] W fun e w' => (∃ A' cp, e = .returned (.agg #[.slice A' m cp]) ∧ OwnV W.heap.size m A' cp Vs w') ∧ Below W.heap.size W w' :=
  (ix_tree (B + 1) x m Vs W h.ix hm hml).mono fun _ _ ⟨⟨A', cp, h1, h2⟩, h3⟩ => ⟨⟨A', cp, h1, ⟨h2⟩⟩, h3⟩
theorem ql_equal {w : World} {B x mb : Nat} {Vs : List Vn} {A : Option Addr} {cap m : Nat} (hm : Vs.length = m) (hml : m ≤ 1000) (W : World) (A' : Option Addr) (cp B' : Nat) (h : QL w B x mb Vs A cap m W) (h' : OwnV B' m A' cp Vs W) : Calls Try.prog 16 #[.slice A' m cp, .slice A m cap] W fun e w' => e = .returned (.bool true) ∧ Below W.heap.size W w' := by
  have hl' : (parV Vs).length = m := by rw [parV_len, hm]
  have hc := eqI_any (fun _ => True) (fun _ => True) A' A cp cap (parV Vs) (parV Vs) W (by rw [hl']; unfold maxLen; omega) (by rw [hl']; unfold maxLen; omega) (intsAt_own h'.out (fun _ _ _ => trivial)) (intsAt_own h.row (fun _ _ _ => trivial))
  rw [hl', decide_eq_true rfl] at hc
  exact hc.mono fun _ _ ⟨h1, q, h2⟩ => ⟨h1, h2 ▸ bdN (Below.refl _ _) q⟩
theorem ql_is {w : World} {B x mb : Nat} {Vs : List Vn} {A : Option Addr} {cap m : Nat} (hml : m ≤ 1000) (k : Int) (bb : Bool) (hbb : bb = (decide (0 ≤ k) && decide (k < (m : Int)))) (W : World) (_h : QL w B x mb Vs A cap m W) : Calls Try.prog 18 #[.agg #[.slice A m cap], .int .i64 k] W fun e w' => e = .returned (.bool bb) ∧ Below W.heap.size W w' := refIs_any A cap m k W (by omega) bb hbb
theorem field_vers (A : Option Addr) (m cp : Nat) (W : World) : Sem.run Try.prog (Instr.field 24 (.agg #[.slice A m cp]) 0) W = .ok (.slice A m cp) W := by
  simp [Instr.field, asAgg, go_sem]
set_option maxHeartbeats 16000000 in
theorem lawIndex_any (A0 : Option Addr) (c0 : Nat) (L : List Int) (a b : Int) (w : World) (hm : L.length ≤ maxLen) (hA : IntsAt (· < w.heap.size) w A0 L) :
    Calls Try.prog 4 #[.slice A0 L.length c0, .int .i64 a, .int .i64 b] w fun e w' => e = .returned (.bool true) ∧ Below w.heap.size w w' := by
  unfold maxLen at hm
  have HW := Lib.hid (awakeV_any w)
  have HA := Lib.hid hA
  obtain ⟨n, hn⟩ : ∃ n, L.length = n := ⟨_, rfl⟩
  rw [hn] at hm ⊢
  have HN := Lib.hid hn
  clear hn hA
  by_cases h60 : n ≤ 60
  case neg =>
    have d1 : decide ((60 : Int) < (n : Int)) = true := decide_eq_true (by omega)
    go_enter Try.func4, Try.ntmps4
    go_wp2_with fail
    refine HW.out.mono ?_
    rintro er w1 ⟨rfl, hb1⟩
    go_wp2_with fail
    go_ret
    exact ⟨rfl, hb1⟩
  have d1 : decide ((60 : Int) < (n : Int)) = false := decide_eq_false (by omega)
  go_enter Try.func4, Try.ntmps4
  go_wp2_with fail
  refine HW.out.mono ?_
  rintro er w1 ⟨rfl, hb1⟩
  have HB1 := Lib.hid hb1
  have HP := Lib.hid (grown_any A0 c0 n L w1 HN.out (by omega) ((HA.out.below hb1).more (fun b hb => by have := hb1.size; omega)))
  clear hb1 HW
  go_wp2_with fail
  refine HP.out.mono ?_
  rintro er w2 ⟨x, Vs, A, cap, rfl, hix, hr, hmk, hb2⟩
  obtain ⟨m, hme⟩ : ∃ m, Vs.length = m := ⟨_, rfl⟩
  rw [hme] at hmk ⊢
  have HR0 := Lib.hid (QL.start (m := m) HB1.out hix hr hb2)
  have hml : m ≤ 100 := by omega
  have HM := Lib.hid hme
  have HOK := Lib.hid hix.ok
  have HLEN := Lib.hid (fun W => ql_len (w := w) (B := w1.heap.size) (x := x) (mb := w2.heap.size) (A := A) (cap := cap) hme (by omega) W)
  have HTREE := Lib.hid (fun W => ql_tree (w := w) (B := w1.heap.size) (x := x) (mb := w2.heap.size) (A := A) (cap := cap) hme (by omega) W)
  have HEQ := Lib.hid (fun W A' cp B' => ql_equal (w := w) (B := w1.heap.size) (x := x) (mb := w2.heap.size) (A := A) (cap := cap) hme (by omega) W A' cp B')
  have hmm : ((m : Int) != (m : Int)) = false := by simp
  have hfv := field_vers
  clear hix hr hb2 hme HP
  go_wp2_with fail
  have HS1 := Lib.hid (show (w2.alloc (.cells #[.slice A m cap] 24)).drew.cell? ⟨w2.heap.size, 0, none⟩ = some (.slice A m cap) ∧ QL w w1.heap.size x w2.heap.size Vs A cap m (w2.alloc (.cells #[.slice A m cap] 24)).drew from ⟨(HR0.out.drewN 1).cell, HR0.out.drewN 1⟩)
  go_region_held3 (fun W => W.cell? ⟨w2.heap.size, 0, none⟩ = some (.slice A m cap) ∧ QL w w1.heap.size x w2.heap.size Vs A cap m W)
    (first | exact HS1.out | assumption | (have hr := And.right (by assumption); exact ⟨(QL.next hr hbx).cell, QL.next hr hbx⟩))
    (first
      | (go_at_call 22; refine (HLEN.out _ (And.right (by assumption))).mono ?_; rintro e wx ⟨rfl, hbx⟩)
      | (go_at_call 23; refine (HTREE.out _ (And.right (by assumption))).mono ?_; rintro e wx ⟨⟨A', cp, rfl, hrow'⟩, hbx⟩)
      | (go_at_call 16; refine (HEQ.out _ _ _ _ (And.right (by assumption)) (by assumption)).mono ?_; rintro e wx ⟨rfl, hbx⟩))
  have HQ3 : Hid (QL w w1.heap.size x w2.heap.size Vs A cap m wx) := Lib.hid (And.right (by assumption))
  obtain ⟨w3, hw3⟩ : ∃ w3, w3 = wx := ⟨_, rfl⟩
  rw [← hw3] at HQ3 ⊢
  clear hw3 hfv hmm
  by_cases ha : 0 ≤ a ∧ a < (m : Int)
  case neg =>
    have HD := Lib.hid (ix_depth_no (w1.heap.size + 1) x m a Vs w3 HQ3.out.ix HM.out (by omega) ha)
    have HAN := Lib.hid (fun W (h : QL w w1.heap.size x w2.heap.size Vs A cap m W) => ix_anc_no (w1.heap.size + 1) x m a b Vs W h.ix HM.out (by omega) (fun h => ha h.1))
    have HCN := Lib.hid (fun W (h : QL w w1.heap.size x w2.heap.size Vs A cap m W) => ix_common_no (w1.heap.size + 1) x m a b Vs W h.ix HM.out (by omega) (fun h => ha h.1))
    have HIS := Lib.hid (fun W (h : QL w w1.heap.size x w2.heap.size Vs A cap m W) => refIs_no A cap m a W (by omega) ha)
    clear ha
    go_wp2_with fail
    refine HD.out.mono ?_
    rintro er w4 ⟨rfl, hb4⟩
    have HQ4 := Lib.hid (HQ3.out.next hb4)
    clear hb4
    go_wp2_with fail
    refine (HAN.out _ HQ4.out).mono ?_
    rintro er w5 ⟨rfl, hb5⟩
    have HQ5 := Lib.hid (HQ4.out.next hb5)
    clear hb5
    go_wp2_with fail
    refine (HCN.out _ HQ5.out).mono ?_
    rintro er w6 ⟨rfl, hb6⟩
    have HQ6 := Lib.hid (HQ5.out.next hb6)
    clear hb6
    have b0 := HQ6.out.cell
    go_wp2_with fail
    refine (HIS.out _ HQ6.out).mono ?_
    rintro er w7 ⟨rfl, hb7⟩
    have HQ7 := Lib.hid (HQ6.out.next hb7)
    clear hb7 b0
    go_wp2_with fail
    go_ret
    exact ⟨rfl, HQ7.out.bel⟩
  obtain ⟨an, rfl⟩ : ∃ an : Nat, a = (an : Int) := ⟨a.toNat, by omega⟩
  have han : an < m := by omega
  obtain ⟨v, hv⟩ : ∃ v, Vs[an]? = some v := ⟨Vs[an]'(by rw [HM.out]; exact han), List.getElem?_eq_getElem _⟩
  obtain ⟨l, hup, hll⟩ := HOK.out.up an v hv
  have HD := Lib.hid (ix_depth_yes (w1.heap.size + 1) x m an Vs v w3 HQ3.out.ix HM.out (by omega) hv)
  have HIS := Lib.hid (fun W (h : QL w w1.heap.size x w2.heap.size Vs A cap m W) => refIs_any A cap m (an : Int) W (by omega) true (by rw [decide_eq_true ha.1, decide_eq_true ha.2]; rfl))
  have hvp := HOK.out.vp (by rw [HM.out]; omega)
  have hlen := hup.len hvp
  obtain ⟨ln, hln⟩ : ∃ ln, ln = l.length := ⟨_, rfl⟩
  have HPA := Lib.hid (fun W (h : QL w w1.heap.size x w2.heap.size Vs A cap m W) => refPath_any A cap m an ln (parV Vs) l W (by rw [parV_len, HM.out]) (by omega) h.ints (by omega) han hup hln)
  have hd : v.2.1 = (ln : Int) - 1 := by omega
  rw [hd] at HD
  have hlnl : ln ≤ 100 := by omega
  have hln1 : 1 ≤ ln := by
    cases hup with
    | root _ => simp at hln; omega
    | step _ _ _ => simp at hln; omega
  clear ha hv hup hll hvp hlen hln hd
  by_cases hb : 0 ≤ b ∧ b < (m : Int)
  case neg =>
    have HAN := Lib.hid (fun W (h : QL w w1.heap.size x w2.heap.size Vs A cap m W) => ix_anc_no (w1.heap.size + 1) x m (an : Int) b Vs W h.ix HM.out (by omega) (fun h => hb h.2))
    have HCN := Lib.hid (fun W (h : QL w w1.heap.size x w2.heap.size Vs A cap m W) => ix_common_no (w1.heap.size + 1) x m (an : Int) b Vs W h.ix HM.out (by omega) (fun h => hb h.2))
    have HISB := Lib.hid (fun W (h : QL w w1.heap.size x w2.heap.size Vs A cap m W) => refIs_no A cap m b W (by omega) hb)
    have hne : (((ln : Int) - 1) != ((ln : Int) - 1)) = false := by simp
    clear hb
    go_wp2_with fail
    refine HD.out.mono ?_
    rintro er w4 ⟨rfl, hb4⟩
    have HQ4 := Lib.hid (HQ3.out.next hb4)
    clear hb4
    go_wp2_with fail
    refine (HAN.out _ HQ4.out).mono ?_
    rintro er w5 ⟨rfl, hb5⟩
    have HQ5 := Lib.hid (HQ4.out.next hb5)
    clear hb5
    go_wp2_with fail
    refine (HCN.out _ HQ5.out).mono ?_
    rintro er w6 ⟨rfl, hb6⟩
    have HQ6 := Lib.hid (HQ5.out.next hb6)
    clear hb6
    have b0 := HQ6.out.cell
    go_wp2_with fail
    refine (HIS.out _ HQ6.out).mono ?_
    rintro er w7 ⟨rfl, hb7⟩
    have HQ7 := Lib.hid (HQ6.out.next hb7)
    clear hb7 b0
    have b0 := HQ7.out.cell
    go_wp2_with fail
    refine (HPA.out _ HQ7.out).mono ?_
    rintro er w8 ⟨⟨A', cp, rfl, _⟩, hb8⟩
    have HQ8 := Lib.hid (HQ7.out.next hb8)
    clear hb8 b0
    have b0 := HQ8.out.cell
    go_wp2_with fail
    refine (HISB.out _ HQ8.out).mono ?_
    rintro er w9 ⟨rfl, hb9⟩
    have HQ9 := Lib.hid (HQ8.out.next hb9)
    clear hb9 b0
    go_wp2_with fail
    go_ret
    exact ⟨rfl, HQ9.out.bel⟩
  obtain ⟨bn, rfl⟩ : ∃ bn : Nat, b = (bn : Int) := ⟨b.toNat, by omega⟩
  have hbn : bn < m := by omega
  have HISB := Lib.hid (fun W (h : QL w w1.heap.size x w2.heap.size Vs A cap m W) => refIs_any A cap m (bn : Int) W (by omega) true (by rw [decide_eq_true hb.1, decide_eq_true hb.2]; rfl))
  clear hb
  obtain ⟨bb, hbb⟩ : ∃ bb : Bool, bb = true ↔ AncV Vs an bn := by
    by_cases h : AncV Vs an bn
    · exact ⟨true, by simp [h]⟩
    · exact ⟨false, by simp [h]⟩
  have HAN := Lib.hid (fun W (h : QL w w1.heap.size x w2.heap.size Vs A cap m W) => ix_anc_yes (w1.heap.size + 1) x m an bn Vs W h.ix HM.out (by omega) han hbn bb hbb)
  have HRA := Lib.hid (fun W (h : QL w w1.heap.size x w2.heap.size Vs A cap m W) => refAnc_any A cap m an bn Vs W HOK.out HM.out (by omega) h.ints han hbn bb hbb)
  have HCN := Lib.hid (fun W (h : QL w w1.heap.size x w2.heap.size Vs A cap m W) => common_yes (w1.heap.size + 1) x an bn m Vs W h.ix HM.out (by omega) han hbn)
  have HRC := Lib.hid (fun W (h : QL w w1.heap.size x w2.heap.size Vs A cap m W) => refCommon_any A cap m an bn Vs W HOK.out HM.out (by omega) h.ints han hbn)
  have hne : (((ln : Int) - 1) != ((ln : Int) - 1)) = false := by simp
  have hbbb : (bb == bb) = true := by simp
  clear hbb
  go_wp2_with fail
  refine HD.out.mono ?_
  rintro er w4 ⟨rfl, hb4⟩
  have HQ4 := Lib.hid (HQ3.out.next hb4)
  clear hb4
  go_wp2_with fail
  refine (HAN.out _ HQ4.out).mono ?_
  rintro er w5 ⟨rfl, hb5⟩
  have HQ5 := Lib.hid (HQ4.out.next hb5)
  clear hb5
  go_wp2_with fail
  refine (HCN.out _ HQ5.out).mono ?_
  rintro er w6 ⟨⟨c, rfl, hc⟩, hb6⟩
  have HC := Lib.hid hc
  have HQ6 := Lib.hid (HQ5.out.next hb6)
  clear hb6 hc
  have b0 := HQ6.out.cell
  go_wp2_with fail
  refine (HIS.out _ HQ6.out).mono ?_
  rintro er w7 ⟨rfl, hb7⟩
  have HQ7 := Lib.hid (HQ6.out.next hb7)
  clear hb7 b0
  have b0 := HQ7.out.cell
  go_wp2_with fail
  refine (HPA.out _ HQ7.out).mono ?_
  rintro er w8 ⟨⟨A', cp, rfl, _⟩, hb8⟩
  have HQ8 := Lib.hid (HQ7.out.next hb8)
  clear hb8 b0
  have b0 := HQ8.out.cell
  go_wp2_with fail
  refine (HISB.out _ HQ8.out).mono ?_
  rintro er w9 ⟨rfl, hb9⟩
  have HQ9 := Lib.hid (HQ8.out.next hb9)
  clear hb9 b0
  have b0 := HQ9.out.cell
  go_wp2_with fail
  refine (HRA.out _ HQ9.out).mono ?_
  rintro er w10 ⟨rfl, hb10⟩
  have HQ10 := Lib.hid (HQ9.out.next hb10)
  clear hb10 b0
  have b0 := HQ10.out.cell
  go_wp2_with fail
  refine (HRC.out _ HQ10.out).mono ?_
  rintro er w11 ⟨⟨c', rfl, hc'⟩, hb11⟩
  have HQ11 := Lib.hid (HQ10.out.next hb11)
  have hcc := HC.out.one HOK.out hc'
  subst hcc
  have hcc2 : ((c : Int) == (c : Int)) = true := by simp
  clear hb11 b0 hc'
  go_wp2_with fail
  go_ret
  exact ⟨rfl, HQ11.out.bel⟩
end Go.Proofs.Ythnlcbeibhhjpaa
