/- Walks: spread. -/
import Derived.Test.YthnlcbeibhhjpaaOrdC
namespace Go.Proofs.Ythnlcbeibhhjpaa
open Go.RowKit
set_option maxRecDepth 100000
theorem PtrsE.get {w₀ W : World} {E : List El} {A : Option Addr} {cap j : Nat} {e : El} (h : PtrsE w₀ E A cap W) (hj : E[j]? = some e) : ∃ g, A = some ⟨g, 0, none⟩ ∧ W.cell? ⟨g, j, none⟩ = some (.pointer (some ⟨e.adr, 0, none⟩)) := by
  have hl := (List.getElem?_eq_some_iff.1 hj).1
  obtain ⟨g, cap', hv, hg, hlt⟩ := World.ownsRow.form h (by omega)
  have hA : A = some ⟨g, 0, none⟩ := by injection hv
  subst hA
  refine ⟨g, rfl, ?_⟩
  have := World.ownsRow.cellAt h j (by omega)
  rw [this]
  unfold valsE
  rw [List.getElem?_map, hj]
  rfl
set_option maxHeartbeats 4000000 in
theorem ol_spread (B x cap made n st : Nat) (G : Option Addr) (mv : Int) (E : List El) (w : World) (h : OL B x G cap made mv E w) (hn : E.length = n) (hl : n ≤ 2000) (hst : st = 1099511627776 / (n + 1)) (hmv : 0 ≤ mv ∧ mv ≤ 1000000000) (hB : B ≤ x) :
    Calls Try.prog 50 #[.pointer (some ⟨x, 0, none⟩)] w fun e w' => e = .returned (.tuple #[]) ∧ OL B x G cap made (mv + chgE E st n) (relab E st n) w' ∧ Below B w w' ∧ Kp w w' := by
  obtain ⟨⟨c0, c1, c2, c3⟩, _, _, _, _⟩ := bk4 h.box
  have hx0 : x < w.heap.size := bdLt h.box
  have HO := Lib.hid h
  have HLI := Lib.hid (ol_list B x cap made G mv E w h (by omega))
  rw [hn] at c2 HLI
  have HN := Lib.hid hn
  have hstI : (1099511627776 : Int) / ((n : Int) + 1) = (st : Int) := by rw [hst]; simp
  have hstb : st ≤ 1099511627776 := by rw [hst]; exact Nat.div_le_self _ _
  have hstm : (n + 1) * st ≤ 1099511627776 := by rw [hst]; exact Nat.mul_div_le _ _
  have HSM := Lib.hid hstm
  have hnp : (0 : Int) < (n : Int) + 1 := by omega
  clear h hn hst hstm
  go_enter Try.func50, Try.ntmps50
  go_wp2_with fail
  refine HLI.out.mono ?_
  rintro e w1 ⟨A, cp, rfl, hp, hb⟩
  have HP := Lib.hid hp
  have HB1 := Lib.hid hb
  have HK1 := Lib.hid ((Kp.refl w).below hb)
  have HO1 := Lib.hid (HO.out.below hb)
  clear hp hb HLI c0 c1 c2 c3
  go_wp2_with fail
  clear hstI
  go_loopw [15] (fun s15 wr => ∃ k : Nat, k ≤ n ∧ s15 = .int .i64 k ∧ OL B x G cap made (mv + chgE E st k) (relab E st k) wr ∧ PtrsE w E A cp wr ∧ Below B w wr ∧ Kp w wr) (fun s15 _ => n - (intOf s15).toNat)
  case atStart => exact ⟨0, by omega, rfl, by simpa [chgE, relab] using HO1.out, HP.out, HB1.out.mono (by omega), HK1.out⟩
  case round =>
    clear HP HO1 HB1 HK1
    obtain ⟨k, hk, rfl, ho, hp, hb, hkp⟩ := hrel
    have HKK := Lib.hid hkp
    clear hkp
    have HOK := Lib.hid ho
    have HPK := Lib.hid hp
    have HBK := Lib.hid hb
    clear ho hp hb
    by_cases hlt : k < n
    · have hltI : (k : Int) < (n : Int) := by omega
      obtain ⟨f, hf⟩ : ∃ f, E[k]? = some f := ⟨E[k]'(by rw [HN.out]; exact hlt), List.getElem?_eq_getElem _⟩
      have hfk : (relab E st k)[k]? = some f := (relab_later E st k k (Nat.le_refl _)).trans hf
      obtain ⟨g, hA, y0⟩ := HPK.out.get hf
      subst hA
      obtain ⟨⟨d0, d1, d2, d3⟩, q0, q1, q2, q3⟩ := bk4 (HOK.out.chain.el k f hfk)
      obtain ⟨⟨b0, b1, b2, b3⟩, t0, t1, t2, t3⟩ := bk4 HOK.out.box
      have hne := HOK.out.notEl hfk
      have hfl : f.adr < w.heap.size := HO.out.chain.lt (List.mem_of_getElem? hf)
      have hfB : B ≤ f.adr := (HO.out.low f (List.mem_of_getElem? hf)).1
      obtain ⟨v, hv⟩ : ∃ v, v = (k + 1) * st := ⟨_, rfl⟩
      have hvI : ((k : Int) + 1) * (st : Int) = (v : Int) := by rw [hv]; push_cast; rfl
      have hvb : v ≤ 1099511627776 := by rw [hv]; exact Nat.le_trans (Nat.mul_le_mul_right st (by omega)) HSM.out
      have hchg := chg_le E st k
      have hrn := relab_next (st := st) hf
      have hcn := chg_next (st := st) hf
      rw [← hv] at hrn hcn
      have HRS := Lib.hid (fun hh => relab_same (st := st) hf hh)
      rw [← hv] at HRS
      have HRN := Lib.hid hrn
      have HCN := Lib.hid hcn
      have HSL := Lib.hid (fun m : Int => (HOK.out.setLab hfk (v : Int)).setMoves m)
      have HPS := Lib.hid (fun m : Int => (HPK.out.set (a := ⟨f.adr, 1, none⟩) hfl (.int .i64 (v : Int))).set (a := ⟨x, 3, none⟩) hx0 (.int .i64 m))
      have HBS := Lib.hid (fun m : Int => (HBK.out.setCell (p := ⟨f.adr, 1, none⟩) hfB (.int .i64 (v : Int))).setCell (p := ⟨x, 3, none⟩) hB (.int .i64 m))
      have HKS := Lib.hid (fun m : Int => (HKK.out.set (i := 1) (v := .int .i64 (v : Int)) (HO.out.tEl hf)).set (i := 3) (v := .int .i64 m) HO.out.tBox)
      obtain ⟨cg, hcg⟩ : ∃ cg, cg = chgE E st k := ⟨_, rfl⟩
      rw [← hcg] at HCN b3 hchg HOK
      have HCG := Lib.hid hcg
      obtain ⟨mk, hmk⟩ : ∃ mk, mk = mv + (cg : Int) := ⟨_, rfl⟩
      rw [← hmk] at b3
      have hmk2 : mk ≤ 1000100000 := by omega
      have hmk3 : 0 ≤ mk := by omega
      have HMK := Lib.hid hmk
      obtain ⟨a, haf⟩ : ∃ a, a = f.adr := ⟨_, rfl⟩
      rw [← haf] at d0 d1 d2 d3 q0 q1 q2 q3 hne hfl y0
      have HAF := Lib.hid haf
      obtain ⟨lb, hfl'⟩ : ∃ lb, lb = f.lab := ⟨_, rfl⟩
      rw [← hfl'] at d1 HCN HRS
      have hxa : x ≠ a := hne
      have hax : a ≠ x := fun h => hne h.symm
      clear hf hfk hv hrn hcn hcg hmk hfl' haf hfB
      by_cases he : lb = (v : Int)
      · have e1 : (lb == (v : Int)) = true := by simp [he]
        have e2 : (lb != (v : Int)) = false := by simp [he]
        have HCE : Hid (chgE E st (k + 1) = cg) := Lib.hid (by rw [HCN.out, if_pos he]; rfl)
        have HRE : Hid (relab E st (k + 1) = relab E st k) := Lib.hid (HRS.out he)
        clear he
        go_wp2_with fail
        go_roundw
        case rel => exact ⟨k + 1, by omega, by go_num, by rw [HRE.out, HCE.out]; exact HOK.out, HPK.out, HBK.out, HKK.out⟩
        case measure => simp [intOf]; omega
      · have e1 : (lb == (v : Int)) = false := by simp [he]
        have e2 : (lb != (v : Int)) = true := by simp [he]
        have HCE : Hid (mv + ((chgE E st (k + 1) : Nat) : Int) = mk + 1) := Lib.hid (by rw [HCN.out, if_neg he, HMK.out]; omega)
        clear he
        go_wp2_with fail
        go_roundw
        case rel => exact ⟨k + 1, by omega, by go_num, by rw [HRN.out, HCE.out, HAF.out]; exact HSL.out _, by rw [HAF.out]; exact HPS.out _, by rw [HAF.out]; exact HBS.out _, by rw [HAF.out]; exact HKS.out _⟩
        case measure => simp [intOf]; omega
    · have hkn : k = n := by omega
      subst hkn
      go_wp2_with fail
      go_end0
      exact ⟨rfl, HOK.out, HBK.out, HKK.out⟩
end Go.Proofs.Ythnlcbeibhhjpaa
