/- Trees of versions: Path, children. -/
import Derived.Test.YthnlcbeibhhjpaaVtA
namespace Go.Proofs.Ythnlcbeibhhjpaa
open Go.RowKit
set_option maxRecDepth 100000
/-- What is still to come on the way up. -/
def UpRest (P : List Int) (x : Int) (l : List Int) : Prop := (x = -1 ∧ l = []) ∨ ∃ y : Nat, x = (y : Int) ∧ Up P y l
theorem UpRest.cases {P : List Int} {x : Int} {l : List Int} (h : UpRest P x l) : (x = -1 ∧ l = []) ∨ ∃ (y : Nat) (p : Int) (l' : List Int), x = (y : Int) ∧ l = (y : Int) :: l' ∧ P[y]? = some p ∧ UpRest P p l' := by
  rcases h with h | ⟨y, rfl, hu⟩
  · exact Or.inl h
  · cases hu with
    | root h0 => exact Or.inr ⟨0, -1, [], rfl, rfl, h0, Or.inl ⟨rfl, rfl⟩⟩
    | step hp hx hr => exact Or.inr ⟨y, _, _, rfl, rfl, hp, Or.inr ⟨_, rfl, hr⟩⟩
set_option maxHeartbeats 4000000 in
theorem path_yes (A : Option Addr) (cap n k : Nat) (P : List Int) (l : List Int) (w : World) (hn : P.length = n) (hc : n ≤ cap) (hcm : cap ≤ maxLen) (h : IntsAt (· < w.heap.size) w A P) (hv : VP P) (hk : k < n) (hu : Up P k l) :
    Calls Try.prog 11 #[.agg #[.slice A n cap], .int .i64 (k : Int)] w fun e w' => (∃ A' cp, e = .returned (.tuple #[.slice A' l.length cp, .int .i64 0]) ∧ w'.ownsRow w.heap.size 3 1 (.slice A' l.length cp) l.length (l.reverse.map (Value.int .i64))) ∧ Below w.heap.size w w' := by
  have hll := hu.len hv
  have hn3 := hv.le
  have hI1 : IntsAt (· < (w.alloc (.cells #[.slice A n cap] 24)).heap.size) (w.alloc (.cells #[.slice A n cap] 24)) A P := (h.below ((Below.refl _ _).alloc (Nat.le_refl _) _)).more fun b hb => by simp; omega
  have HC := Lib.hid (check_yes A cap n k P _ hn hc hcm hI1 hv hk)
  have H1 := Lib.hid h
  have HN := Lib.hid hn
  have hnl : n ≤ 1000 := by omega
  obtain ⟨m, hm⟩ : ∃ m, m = l.length := ⟨_, rfl⟩
  rw [← hm] at hll ⊢
  have HM := Lib.hid hm
  have HU := Lib.hid hu
  obtain ⟨i1, hi1, hy0, hy1, hy2⟩ := info_parts Try.infoInt
  unfold maxLen at hcm
  clear h hv hu hn hm hI1
  go_enter Try.func11, Try.ntmps11
  go_wp2_with fail
  refine HC.out.mono ?_
  rintro er w1 ⟨rfl, hb1⟩
  have hbx := bdBox hb1
  have HB1 := Lib.hid hbx.2
  have hx1 := bk1 hbx.1
  have hz1 := hb1.size
  simp at hz1
  have HX1 := Lib.hid hbx.1
  clear hb1 hbx
  obtain ⟨c0, f0⟩ := hx1
  go_wp2_with fail
  clear c0 f0
  go_loopw [1, 7] (fun s1 s7 wr => ∃ (x : Int) (dn rest : List Int) (j cp : Nat) (A7 : Option Addr), l = dn ++ rest ∧ UpRest P x rest ∧ s1 = .int .i64 x ∧ j = dn.length ∧ s7 = .slice A7 j cp ∧ wr.ownsRow w1.heap.size 3 1 (.slice A7 j cp) j (dn.map (Value.int .i64)) ∧ Below w1.heap.size w1 wr) (fun _ s7 _ => l.length - slLen s7)
  case atStart => exact ⟨k, [], l, 0, 0, none, rfl, Or.inr ⟨k, rfl, HU.out⟩, rfl, rfl, rfl, World.ownsRow_nil _ _ _ _, Below.refl _ _⟩
  case round =>
    obtain ⟨x, dn, rest, j, cp, A7, hl, hur, rfl, hj, rfl, how, hb⟩ := hrel
    have HLe := Lib.hid hl
    have HJ := Lib.hid hj
    have HOW := Lib.hid how
    have HB := Lib.hid hb
    have hsz := hb.size
    have hlen : l.length = dn.length + rest.length := by rw [hl, List.length_append]
    have hjm : j + rest.length = m := by have := HM.out; omega
    rcases hur.cases with ⟨rfl, rfl⟩ | ⟨y, pp, rest', rfl, rfl, hp, hur'⟩
    · have hjm2 : j = m := by simpa using hjm
      have hlr : dn = l := by simpa using hl.symm
      subst hlr
      have hjpos : 0 < j := by
        have := HU.out
        cases this with
        | root _ => rw [hj]; simp
        | step _ _ _ => rw [hj]; simp
      obtain ⟨g, cp', hv, hg, hgl⟩ := how.form hjpos
      have hA : A7 = some ⟨g, 0, none⟩ := by injection hv
      subst hA
      have HRV := Lib.hid (reverse_any w1.heap.size g j cp _ dn rfl wr (by omega) how hjpos)
      have HJM := Lib.hid hjm2
      clear hl hj how hb hlen hjm hjm2 hv
      go_wp2_with fail
      refine HRV.out.mono ?_
      rintro er w2 ⟨rfl, ho2, hb2⟩
      have HO2 := Lib.hid ho2
      have HB2 := Lib.hid hb2
      clear ho2 hb2
      go_wp2_with fail
      go_ret2
      refine ⟨⟨some ⟨g, 0, none⟩, cp, by rw [← HJM.out]; rfl, ?_⟩, (HB1.out.trans ((HB.out.trans HB2.out).mono (by omega)))⟩
      rw [← HJM.out, List.map_reverse]
      have := HO2.out
      refine ⟨this.1, ?_⟩
      rcases this.2 with hh | ⟨g', c', cur, hv', hB', rest⟩
      · exact Or.inl hh
      · exact Or.inr ⟨g', c', cur, hv', by omega, rest⟩
    · obtain ⟨b, off, hA, hbl, y0⟩ := (H1.out.below (HB1.out.trans (hb.mono (by omega)))).get hp
      subst hA
      have hb0 := (hb.block w.heap.size (by omega)).trans HX1.out
      obtain ⟨c0, f0⟩ := bk1 hb0
      have hxg : (0 : Int) ≤ (y : Int) := by omega
      have hyn : y < n := by have := (List.getElem?_eq_some_iff.1 hp).1; have := HN.out; omega
      have hynI : (y : Int) < (n : Int) := by omega
      have hjl : j ≤ 1001 := by omega
      simp only [List.length_cons] at hjm hlen
      have HUR := Lib.hid hur'
      clear hl hj how hb hlen hp hur hur' hb0
      go_wp2_with (at_builtin; refine wpList_append_lies _ rfl (.tmp 21) (.tmp 23) 22 rfl w1.heap.size 3 i1 _ 1 8 Try.underlying22 hi1 hy0 hy1 hy2 rfl (by decide) (.slice A7 j cp) j (dn.map (Value.int .i64)) rfl (HOW.out.alloc _) ⟨wr.heap.size, 0, none⟩ 1 1 [.int .i64 (y : Int)] rfl rfl (World.news_of_block (cs := #[.int .i64 (y : Int)]) (t := 3) (fr := (0, 0)) (heap_alloc_new wr _)) (by simp [Value.oneCell']) (by omega) (by unfold maxLen; omega) (by omega) (by simp; omega) (wr.heap.size + 1) (by simp) ?_)
      intro g2 cap2 W6 hown6 hgrow6 hat6 hlt6
      have hb6 : Below w1.heap.size w1 W6 := (HB.out.alloc hsz _).grown hgrow6 (by simp; omega) (fun k' e => by have := (HOW.out.lt k' e).1; omega)
      have HB6 := Lib.hid hb6
      have hb06 := (hb6.block w.heap.size (by omega)).trans HX1.out
      clear c0 f0
      obtain ⟨c0, f0⟩ := bk1 hb06
      have y1 := (hb6.cell (p := ⟨b, off + y, none⟩) (show b < w1.heap.size by omega)).trans ((HB.out.cell (p := ⟨b, off + y, none⟩) (show b < w1.heap.size by omega)).symm.trans y0)
      have HO6 : Hid (W6.ownsRow w1.heap.size 3 1 (.slice (some ⟨g2, 0, none⟩) (j + 1) cap2) (j + 1) ((dn ++ [(y : Int)]).map (Value.int .i64))) := Lib.hid (by simpa using hown6)
      clear hown6 hgrow6 hat6 hlt6 hb6 hb06 y0
      go_wp2_with fail
      go_roundw
      case rel => exact ⟨pp, dn ++ [(y : Int)], rest', j + 1, cap2, some ⟨g2, 0, none⟩, by rw [List.append_assoc]; exact HLe.out, HUR.out, rfl, by rw [List.length_append]; have := HJ.out; simp; omega, rfl, HO6.out, HB6.out⟩
      case measure => have := HM.out; simp [slLen]; omega
end Go.Proofs.Ythnlcbeibhhjpaa
