/- The reference's find, Find, SameNames. -/
import Derived.Deep.RegionLaw
import Derived.Deep.AppendLies
import Derived.Test.YthbcfcbonmphfaaDoorTermRnBundle
import Derived.BigQuiet
import Derived.Deep.QuietTactic
import Derived.Deep.RegionWith
import Derived.Deep.CutBlock
import Derived.Deep.DeepCutAuto
import Derived.Test.YthbcfcbonmphfaaDoorTermGBundle
import Derived.Test.YthbcfcbonmphfaaDoorLexEBundle
/- The reference: Sorted. -/
namespace Go.Proofs.YthbcfcbonmphfaaDoor
open Go.RowKit Go.Shelf
set_option maxRecDepth 100000

/-- What Sorted hands back. -/
def SrPost (L : List Tk) (k : Nat) (w : World) (e : Ending) (w' : World) : Prop :=
  Below w.heap.size w w' ∧ ∃ k' : Nat, k ≤ k' ∧ k' < L.length ∧ EndsK (L.drop k') ∧
    ((∃ g A1 c1 A2 c2, sigL (L.drop k) = (some g, L.drop k') ∧ e = .returned (.tuple #[GV g A1 c1 A2 c2, .int .i64 k', .bool true]) ∧ (∀ w'' : World, (∀ b, w.heap.size ≤ b → b < w'.heap.size → w''.heap[b]? = w'.heap[b]?) → SlS w'.heap.size w'' A1 g.sorts ∧ SlD w'.heap.size w'' A2 g.ops) ∧ g.sorts.length ≤ c1 ∧ c1 ≤ maxLen) ∨
     (∃ A1 n1 c1 A2 n2 c2, sigL (L.drop k) = (none, L.drop k') ∧ e = .returned (.tuple #[.agg #[.slice A1 n1 c1, .slice A2 n2 c2], .int .i64 k', .bool false])))
/-- At the head of the first loop. -/
def SrInv1 (L : List Tk) (k0 : Nat) (w : World) (g : Nat) (at' : Value) (wr : World) : Prop :=
  ∃ (j : Nat) (ss : List ByteArray) (A1 : Option Addr) (c1 : Nat), at' = .int .i64 j ∧ L.length - j ≤ g ∧ EndsK (L.drop j) ∧ k0 ≤ j ∧ ss.length ≤ j ∧ Below w.heap.size w wr ∧
    wr.heap[w.heap.size]? = some (.cells #[.slice none 0 0, .slice none 0 0] 82 (0, 0)) ∧
    wr.heap[w.heap.size + 1]? = some (.cells #[.slice A1 ss.length c1, .slice none 0 0] 82 (0, 0)) ∧
    wr.ownsRow (w.heap.size + 2) 9 1 (.slice A1 ss.length c1) ss.length (strsC ss) ∧ w.heap.size + 2 ≤ wr.heap.size ∧
    sortsL (L.drop k0) = ((sortsL (L.drop j)).1, ss ++ (sortsL (L.drop j)).2.1, (sortsL (L.drop j)).2.2)
/-- At the head of the second loop. -/
def SrInv2 (L : List Tk) (k1 : Nat) (w : World) (n2 : Nat) (ss : List ByteArray) (A1 : Option Addr) (c1 : Nat) (g : Nat) (at' : Value) (wr : World) : Prop :=
  ∃ (j : Nat) (ks : List DK) (A2 : Option Addr) (c2 m : Nat), at' = .int .i64 j ∧ L.length - j ≤ g ∧ EndsK (L.drop j) ∧ k1 ≤ j ∧ ks.length ≤ j ∧ Below w.heap.size w wr ∧
    wr.heap[w.heap.size]? = some (.cells #[.slice none 0 0, .slice none 0 0] 82 (0, 0)) ∧
    wr.heap[w.heap.size + 1]? = some (.cells #[.slice A1 ss.length c1, .slice A2 ks.length c2] 82 (0, 0)) ∧
    SlX (fun b => w.heap.size + 2 ≤ b ∧ b < n2) wr A1 ss ∧
    wr.ownsRow n2 140 3 (.slice A2 ks.length c2) ks.length (dksC ks) ∧ n2 ≤ wr.heap.size ∧
    (∀ x, x ∈ ks → SlX (fun b => n2 ≤ b ∧ b < wr.heap.size ∧ some b ≠ (Value.slice A2 ks.length c2).ownBlock) wr x.2.1 x.1.args) ∧
    (L.drop j).length ≤ m ∧ opsL (L.drop k1).length (L.drop k1) = ((opsL m (L.drop j)).1, ks.map (·.1) ++ (opsL m (L.drop j)).2.1, (opsL m (L.drop j)).2.2)

set_option maxHeartbeats 8000000 in
theorem Sorted_any (L : List Tk) (tb tq cap : Nat) (hL : L.length ≤ 100000) (k : Nat) (w : World) (hT : TkAt w tb tq L) (hlt : tb < w.heap.size) (he : EndsK (L.drop k)) :
    Calls Tryd.prog 100 #[.slice (some ⟨tb, tq, none⟩) L.length cap, .int .i64 k] w (SrPost L k w) := by
  obtain ⟨i0, hi, hz0, hz1, hz2⟩ := info_parts Tryd.infoString
  obtain ⟨j0, hj, hy0, hy1, hy2⟩ := info_parts Tryd.infoDecl
  have HT := Lib.hid hT
  have H0 : Hid (SrInv1 L k w (L.length + 1) (.int .i64 k) ((w.alloc (.cells #[.slice none 0 0, .slice none 0 0] 82)).alloc (.cells #[.slice none 0 0, .slice none 0 0] 82))) := Lib.hid (by
    have hb : Below w.heap.size w ((w.alloc (.cells #[.slice none 0 0, .slice none 0 0] 82)).alloc (.cells #[.slice none 0 0, .slice none 0 0] 82)) := ((Below.refl _ _).alloc (Nat.le_refl _) _).alloc (by simp) _
    have h1 := heap_alloc_new (w.alloc (.cells #[.slice none 0 0, .slice none 0 0] 82)) (.cells #[.slice none 0 0, .slice none 0 0] 82)
    exact ⟨k, [], none, 0, rfl, by omega, he, Nat.le_refl _, Nat.zero_le _, hb, (Below.heap_alloc _ _ _ (by simp)).trans (heap_alloc_new w _), by simpa using h1, World.ownsRow_nil _ _ _ _, by simp, by simp⟩)
  clear hT he
  go_enter Tryd.func100, Tryd.ntmps100
  go_wp2_with fail
  go_loopg [1] (L.length + 1) (fun g a wr => SrInv1 L k w g a wr)
  case atStart => exact H0.out
  case round =>
    clear H0
    obtain ⟨j, ss, A1, c1, rfl, hjg, hej, hkj, hsj, hbw, hb0, hb1, hown, hws, hcont⟩ := hrel
    have HEJ := Lib.hid hej
    have HBW := Lib.hid hbw
    have HB0 := Lib.hid hb0
    have HB1 := Lib.hid hb1
    have HOWN := Lib.hid hown
    have HCONT := Lib.hid hcont
    obtain ⟨y, hy, hjl, hdy⟩ := ends_at hej
    have HY := Lib.hid hy
    have HDY := Lib.hid hdy
    obtain ⟨x0, x1, x2, x3, x4⟩ := tk_at hbw HT.out hlt hy
    have hjI : (j : Int) < (L.length : Int) := by omega
    have HC := Lib.hid (Is_kw y ⟨#[115, 111, 114, 116]⟩ [115, 111, 114, 116] lSort wr)
    unfold tkW at HC
    clear hej hbw hb0 hb1 hown hcont hy hdy
    go_wp2_with fail
    refine HC.out.mono ?_
    rintro e w2 ⟨rfl, hb2⟩
    have hs2 := hb2.size
    have HB2 := Lib.hid (HBW.out.trans (hb2.mono HBW.out.size))
    have HR0 := Lib.hid (cells_below HB0.out hb2)
    have HR1 := Lib.hid (cells_below HB1.out hb2)
    have HO2 := Lib.hid (own_below HOWN.out hb2)
    clear hb2 HC x0 x1 x2 x3 x4 HB0 HB1 HOWN HBW
    by_cases hx : kw y [115, 111, 114, 116]
    · rw [decide_eq_true hx]
      obtain ⟨j1, hj1e⟩ : ∃ j1 : Nat, j1 = j + 1 := ⟨_, rfl⟩
      have hw1 : IntKind.i64.wrap ((j : Int) + 1) = (j1 : Int) := by rw [hj1e, IntWalk.i64_in _ (by omega)]; rfl
      have he1 := ends_next HEJ.out HY.out (by rw [hx.1]; decide)
      rw [← hj1e] at he1
      obtain ⟨z, hz, hj1, hdz⟩ := ends_at he1
      have HE1 := Lib.hid he1
      have HZ := Lib.hid hz
      have HDZ := Lib.hid hdz
      have HDJ : Hid (L.drop j = y :: z :: L.drop (j1 + 1)) := Lib.hid (by rw [HDY.out, ← hj1e, hdz])
      have HX := Lib.hid hx
      obtain ⟨x0, x1, x2, x3, x4⟩ := tk_at HB2.out HT.out hlt hz
      have hj1I : (j1 : Int) < (L.length : Int) := by omega
      have hj1a : j + 1 ≤ j1 := by omega
      have hj1b : j1 ≤ j + 1 := by omega
      obtain ⟨⟨r0, r1⟩, rf0, rf1⟩ := blk2 HR1.out
      clear hx he1 hj1e hz hdz
      by_cases hzk : z.k = 1
      · have h1 : (z.k != 1) = false := by rw [hzk]; rfl
        obtain ⟨j2, hj2e⟩ : ∃ j2 : Nat, j2 = j1 + 1 := ⟨_, rfl⟩
        have hw2 : IntKind.i64.wrap ((j : Int) + 2) = (j2 : Int) := by rw [hj2e, IntWalk.i64_in _ (by omega)]; omega
        have he2 := ends_next HE1.out HZ.out (by rw [hzk]; decide)
        rw [← hj2e] at he2
        have HE2 := Lib.hid he2
        have HC2 : Hid (sortsL (L.drop k) = ((sortsL (L.drop j2)).1, (ss ++ [nmOf z]) ++ (sortsL (L.drop j2)).2.1, (sortsL (L.drop j2)).2.2)) := Lib.hid (by
          rw [HCONT.out, HDJ.out, sortsL_yes HX.out hzk, ← hj2e]; simp)
        have hj2a : j1 + 1 ≤ j2 := by omega
        clear hzk he2 hj2e
        have hown : ∀ g, (Value.slice A1 ss.length c1).ownBlock = some g → w.heap.size + 2 ≤ g := fun g e => (HO2.out.lt g e).1
        have HKeep := Lib.hid (fun (W W' : World) (hg : W.grownBy W' (Value.slice A1 ss.length c1).ownBlock) (hW : W.heap[w.heap.size + 1]? = w2.heap[w.heap.size + 1]?) (hs : w2.heap.size ≤ W.heap.size) =>
          (show W'.cell? ⟨w.heap.size + 1, 0, none⟩ = some (.slice A1 ss.length c1) ∧ W'.frozen? ⟨w.heap.size + 1, 0, none⟩ = false from by
            have h1 : W'.heap[w.heap.size + 1]? = w2.heap[w.heap.size + 1]? := (hg.block _ (by omega) (fun e => by have := hown _ e.symm; omega)).trans hW
            exact ⟨(World.cell?_of_block h1).trans (blk2 HR1.out).1.1, by rw [← (blk2 HR1.out).2.1]; unfold World.frozen?; simp only [h1]⟩))
        have a0 : (w2.alloc (.cells #[.string ⟨z.t.toArray⟩] 9)).drew.cell? ⟨w.heap.size + 1, 0, none⟩ = some (.slice A1 ss.length c1) := (World.cell?_of_block (show (w2.alloc (.cells #[.string ⟨z.t.toArray⟩] 9)).drew.heap[w.heap.size + 1]? = w2.heap[w.heap.size + 1]? from Below.heap_alloc _ _ _ (by omega))).trans r0
        go_upto_region 5 with fail
        go_region_law (refine step_append_lies _ (by rfl) (.tmp 28) (.tmp 35) 51 (by rfl) (w.heap.size + 2) 9 i0 _ 1 16 Tryd.underlying51 hi hz0 hz1 hz2 rfl (by decide) (.slice A1 ss.length c1) ss.length (strsC ss) (by rfl) (HO2.out.alloc _) ⟨w2.heap.size, 0, none⟩ 1 1 [.string ⟨z.t.toArray⟩] (by rfl) rfl (World.news_of_block (cs := #[.string ⟨z.t.toArray⟩]) (t := 9) (fr := (0, 0)) (heap_alloc_new w2 (.cells #[.string ⟨z.t.toArray⟩] 9))) (by simp [Value.oneCell']) (by decide) (by unfold maxLen; omega) (by omega) (by simp; omega) (w2.heap.size + 1) (by simp) ?_; intro g5 cap5 w5 ho5 hg5 hat5 hlt5; obtain ⟨q0, qf0⟩ := HKeep.out _ _ hg5 (Below.heap_alloc _ _ _ (by omega)) (by simp))
        all_goals
          have hs5 := hg5.size
          simp at hs5
          have ho5' : w5.ownsRow (w.heap.size + 2) 9 1 (.slice (some ⟨g5, 0, none⟩) (ss ++ [nmOf z]).length cap5) (ss ++ [nmOf z]).length (strsC (ss ++ [nmOf z])) := by
            rw [← strsC_snoc]; simpa [nmOf] using ho5
          have hb5 : Below w.heap.size w w5 := ((HB2.out.alloc HB2.out.size (.cells #[.string ⟨z.t.toArray⟩] 9)).drew).grown hg5 (by simp; have := HB2.out.size; omega) (fun i e => by have := hown i e; omega)
          have hlow : ∀ b, b < w.heap.size + 2 → w5.heap[b]? = w2.heap[b]? := fun b hb => (hg5.block b (by simp; omega) (fun e => by have := hown b e.symm; omega)).trans (Below.heap_alloc _ _ _ (by omega))
          have HR0' := Lib.hid ((hlow w.heap.size (by omega)).trans HR0.out)
          have HR1' := Lib.hid ((hlow (w.heap.size + 1) (by omega)).trans HR1.out)
          have HO5 := Lib.hid ho5'
          have HB5 := Lib.hid hb5
          clear ho5 hg5 hat5 ho5' hb5 hlow hown a0 q0 qf0 r0 r1 rf0 rf1 x0 x1 x2 x3 x4 HKeep
          go_wp2_with fail
          go_roundg (L.length - j2)
          case rel =>
            refine ⟨j2, ss ++ [nmOf z], some ⟨g5, 0, none⟩, cap5, rfl, Nat.le_refl _, HE2.out, by omega, by simp; omega, HB5.out.setCell (p := ⟨w.heap.size + 1, 0, none⟩) (Nat.le_succ _) _, (Below.heap_setCell _ _ _ _ (show w.heap.size ≠ w.heap.size + 1 by omega)).trans HR0'.out, ?_, ?_, by simp; omega, HC2.out⟩
            · have := HR1'.out
              simp [World.setCell, Array.getElem?_modify, this]
            · have := ownsRow_setCell_below HO5.out (a := ⟨w.heap.size + 1, 0, none⟩) (show w.heap.size + 1 < w.heap.size + 2 by omega) (.slice (some ⟨g5, 0, none⟩) (ss.length + 1) cap5)
              simpa using this
          case measure => omega
      · have h1 : (z.k != 1) = true := bne_iff_ne.2 hzk
        have HC2 : Hid (sigL (L.drop k) = (none, L.drop j1)) := Lib.hid (by
          have h := HCONT.out
          rw [HDJ.out, sortsL_bad HX.out hzk] at h
          rw [sigL_bad1 (by rw [h]), h, HDZ.out])
        obtain ⟨⟨q0, q1⟩, qf0, qf1⟩ := blk2 HR0.out
        clear hzk
        go_wp2_with fail
        refine bodyPost_ret (v := .tuple #[.agg #[.slice A1 ss.length c1, .slice none 0 0], .int .i64 j1, .bool false]) (by simp [results, Tryd.results100, go_sem, q0, q1]) rfl ?_
        exact ⟨(HB2.out.setCell (p := ⟨w.heap.size, 0, none⟩) (Nat.le_refl _) _).setCell (p := ⟨w.heap.size, 1, none⟩) (Nat.le_refl _) _, j1, by omega, hj1, HE1.out, .inr ⟨_, _, _, _, _, _, HC2.out, rfl⟩⟩
    · rw [decide_eq_false hx]
      have HC1 : Hid (sortsL (L.drop k) = (true, ss, L.drop j)) := Lib.hid (by rw [HCONT.out, HDY.out, sortsL_no hx]; simp)
      clear hx HCONT
      go_wp2_with fail
      obtain ⟨A1', c1', e1, hcl, hcm, hsl⟩ := slX_own HO2.out rfl
      injection e1 with e1 _ e2
      subst e1 e2
      have HCL := Lib.hid hcl
      have HCM := Lib.hid hcm
      have HSL := Lib.hid hsl
      clear hcl hcm hsl
      obtain ⟨n2, hn2⟩ : ∃ n2, n2 = w2.heap.size := ⟨_, rfl⟩
      have H2 : Hid (SrInv2 L j w n2 ss A1 c1 (L.length + 1) (.int .i64 j) w2) := Lib.hid ⟨j, [], none, 0, (L.drop j).length, rfl, by omega, HEJ.out, Nat.le_refl _, Nat.zero_le _, HB2.out, HR0.out, HR1.out, HSL.out.imp (fun b hb => ⟨hb.1, by have := hb.2.1; omega⟩), World.ownsRow_nil _ _ _ _, by omega, by simp, Nat.le_refl _, by simp⟩
      have hn2w : w.heap.size + 2 ≤ n2 := by omega
      have hkk1 := hkj
      clear hn2 HB2 HEJ HR0 HR1 HO2 HSL hws hs2 hkj
      go_loopg [1] (L.length + 1) (fun g a wr => SrInv2 L j w n2 ss A1 c1 g a wr)
      case atStart => exact H2.out
      case round =>
        clear H2
        obtain ⟨i, ks, A2, c2, m, rfl, hig, hei, hki, hsi, hbw, hb0, hb1, hsl, hown, hws, hkid, hlm, hcont⟩ := hrel
        have HEI := Lib.hid hei
        have HBW := Lib.hid hbw
        have HB0 := Lib.hid hb0
        have HB1 := Lib.hid hb1
        have HSL := Lib.hid hsl
        have HOWN := Lib.hid hown
        have HKID := Lib.hid hkid
        have HCONT := Lib.hid hcont
        obtain ⟨u, hu, hil, hdu⟩ := ends_at hei
        have HU := Lib.hid hu
        have HDU := Lib.hid hdu
        obtain ⟨x0, x1, x2, x3, x4⟩ := tk_at hbw HT.out hlt hu
        have hiI : (i : Int) < (L.length : Int) := by omega
        have HC := Lib.hid (Is_kw u ⟨#[111, 112]⟩ [111, 112] lOp wr)
        unfold tkW at HC
        clear hei hbw hb0 hb1 hsl hown hkid hcont hu hdu
        go_wp2_with fail
        refine HC.out.mono ?_
        rintro e w3 ⟨rfl, hb3⟩
        have hs3 := hb3.size
        have HB3 := Lib.hid (HBW.out.trans (hb3.mono HBW.out.size))
        have HR0 := Lib.hid (cells_below HB0.out hb3)
        have HR1 := Lib.hid (cells_below HB1.out hb3)
        have HO3 := Lib.hid (own_below HOWN.out hb3)
        have HSL3 := Lib.hid (HSL.out.keep (fun b hb => hb3.block b (by have := hb.2; omega)))
        have HK3 := Lib.hid (fun x hx => ((HKID.out x hx).keep (fun b hb => hb3.block b hb.2.1)).imp (S' := fun b => n2 ≤ b ∧ b < wr.heap.size ∧ some b ≠ (Value.slice A2 ks.length c2).ownBlock) (fun b hb => hb))
        clear hb3 HC x0 x1 x2 x3 x4 HB0 HB1 HOWN HBW HSL HKID
        by_cases hx : kw u [111, 112]
        · rw [decide_eq_true hx]
          obtain ⟨i1, hi1e⟩ : ∃ i1 : Nat, i1 = i + 1 := ⟨_, rfl⟩
          have hw1 : IntKind.i64.wrap ((i : Int) + 1) = (i1 : Int) := by rw [hi1e, IntWalk.i64_in _ (by omega)]; rfl
          have he1 := ends_next HEI.out HU.out (by rw [hx.1]; decide)
          rw [← hi1e] at he1
          have HE1 := Lib.hid he1
          have HX := Lib.hid hx
          have hi1a : i + 1 ≤ i1 := by omega
          have hi1b : i1 ≤ i + 1 := by omega
          have HDI : Hid (L.drop i = u :: L.drop i1) := Lib.hid (by rw [HDU.out, ← hi1e])
          have HD := Lib.hid (Declaration_any L tb tq cap hL i1 w3 (fun a b hb => tk_at HB3.out HT.out hlt hb) (by have := HB3.out.size; omega) he1)
          have hml : (L.drop i).length = (L.drop i1).length + 1 := by rw [HDI.out, List.length_cons]
          obtain ⟨m', rfl⟩ : ∃ m', m = m' + 1 := ⟨m - 1, by omega⟩
          clear hx he1 hi1e
          go_wp2_with fail
          refine HD.out.mono ?_
          rintro e w4 ⟨hb4, i2, hi2, hi2l, he4, hcase⟩
          have hs4 := hb4.size
          have HB4' := Lib.hid hb4
          have HB4 := Lib.hid (HB3.out.trans (hb4.mono HB3.out.size))
          have HR0' := Lib.hid (cells_below HR0.out hb4)
          have HR1' := Lib.hid (cells_below HR1.out hb4)
          have HE4 := Lib.hid he4
          clear hb4 HD HR0 HR1 he4
          rcases hcase with ⟨d, A, c, hlt2, hd, rfl, hsx⟩ | ⟨hd, rfl⟩
          · have HSX := Lib.hid hsx
            have HC2 : Hid (opsL (L.drop j).length (L.drop j) = ((opsL m' (L.drop i2)).1, (ks ++ [(d, A, c)]).map (·.1) ++ (opsL m' (L.drop i2)).2.1, (opsL m' (L.drop i2)).2.2)) := Lib.hid (by
              rw [HCONT.out, HDI.out, opsL_yes m' HX.out hd]; simp)
            have hown4 : w4.ownsRow n2 140 3 (.slice A2 ks.length c2) ks.length (dksC ks) := own_below HO3.out HB4'.out
            have HO4 := Lib.hid ((hown4.alloc (.cells #[.string d.nm, .slice A d.args.length c, .string d.res] 140)).alloc (.cells #[.string d.nm, .slice A d.args.length c, .string d.res] 140))
            have hR1b := cells_below HR1'.out ((Below.refl _ _).alloc (Nat.le_refl _) (.cells #[.string d.nm, .slice A d.args.length c, .string d.res] 140))
            obtain ⟨⟨r0, r1⟩, rf0, rf1⟩ := blk2 hR1b
            have hdl : (L.drop i2).length ≤ m' := by
              have h1 : (L.drop i2).length ≤ (L.drop i1).length := by rw [List.length_drop, List.length_drop]; omega
              omega
            clear hd hsx hown4 hR1b
            go_wp2_with (at_builtin; refine wpList_append_own_at _ rfl (.tmp 58) (.tmp 60) 80 rfl n2 140 j0 _ 3 56 Tryd.underlying80 hj hy0 hy1 hy2 rfl (by decide) _ ks.length (dksC ks) rfl HO4.out ⟨w4.heap.size + 1, 0, none⟩ 1 1 (dkC (d, A, c)) rfl rfl ?c1 ?c2 ?c3 ?c4 ?c5 ?_)
            case c1 => exact World.news_of_block (cs := #[.string d.nm, .slice A d.args.length c, .string d.res]) (t := 140) (fr := (0, 0)) (by have := heap_alloc_new (w4.alloc (.cells #[.string d.nm, .slice A d.args.length c, .string d.res] 140)) (.cells #[.string d.nm, .slice A d.args.length c, .string d.res] 140); simpa using this)
            case c2 => simp [dkC, Value.oneCell']
            case c3 => unfold maxLen; omega
            case c4 => omega
            case c5 => simp; omega
            intro v' w5 ho5 hg5 _ hat
            have hs5 := hg5.size
            simp at hs5
            have hvP : ∀ b, (Value.slice A2 ks.length c2).ownBlock = some b → n2 ≤ b ∧ b < w3.heap.size := fun b e => HO3.out.lt b e
            have hblk : ∀ b, b < w4.heap.size → some b ≠ (Value.slice A2 ks.length c2).ownBlock → w5.heap[b]? = w4.heap[b]? := fun b hb hne =>
              (hg5.block b (by simp; omega) hne).trans ((Below.heap_alloc _ _ _ (by simp; omega)).trans (Below.heap_alloc _ _ _ hb))
            have hlow : ∀ b, b < n2 → w5.heap[b]? = w4.heap[b]? := fun b hb => hblk b (by omega) (fun e => by have := (hvP b e.symm).1; omega)
            have HR0'' := Lib.hid ((hlow w.heap.size (by omega)).trans HR0'.out)
            have HR1'' := Lib.hid ((hlow (w.heap.size + 1) (by omega)).trans HR1'.out)
            have HSL5 := Lib.hid ((HSL3.out.keep (fun b hb => HB4'.out.block b (by have := hb.2; omega))).keep (fun b hb => hlow b hb.2))
            have hk5 : ∀ x, x ∈ ks ++ [(d, A, c)] → SlX (fun b => n2 ≤ b ∧ b < w5.heap.size ∧ some b ≠ v'.ownBlock) w5 x.2.1 x.1.args := by
              intro x hx
              have himp : ∀ b, n2 ≤ b → b < w4.heap.size → some b ≠ (Value.slice A2 ks.length c2).ownBlock → n2 ≤ b ∧ b < w5.heap.size ∧ some b ≠ v'.ownBlock := fun b h1 h2 h3 => by
                refine ⟨h1, by omega, ?_⟩
                rcases hat with e | e
                · rw [e]; exact h3
                · rw [e]; intro e'; injection e' with e'; first | omega | (simp at e'; omega)
              rcases List.mem_append.1 hx with hx | hx
              · have h1 := HK3.out x hx
                have h2 := h1.keep (fun b hb => HB4'.out.block b (by have := hb.2.1; omega))
                have h4 := h2.keep (w' := w5) (fun b hb => hblk b (by have := hb.2.1; omega) hb.2.2)
                exact h4.imp (fun b hb => himp b hb.1 (by have := hb.2.1; omega) hb.2.2)
              · rw [List.mem_singleton.1 hx]
                have hne : ∀ b, w3.heap.size ≤ b → some b ≠ (Value.slice A2 ks.length c2).ownBlock := fun b hb e => by have := (hvP b e.symm).2; omega
                have h3 := HSX.out.keep (w' := w5) (fun b hb => hblk b hb.2 (hne b hb.1))
                exact h3.imp (fun b hb => himp b (by have := hb.1; omega) hb.2 (hne b hb.1))
            have hb5 : Below w.heap.size w w5 := ((HB4.out.alloc HB4.out.size _).alloc (by simp; have := HB4.out.size; omega) _).grown hg5 (by simp; have := HB4.out.size; omega) (fun b e => by have := (hvP b e).1; omega)
            have HB5 := Lib.hid hb5
            have ho5' : w5.ownsRow n2 140 3 v' (ks ++ [(d, A, c)]).length (dksC (ks ++ [(d, A, c)])) := by
              rw [← dksC_snoc, List.length_append]; exact ho5
            obtain ⟨A5, c5, rfl⟩ := own_slice ho5'
            have HO5 := Lib.hid ho5'
            have HK5 := Lib.hid hk5
            clear ho5 hg5 ho5' hb5 hvP hlow hblk hk5 hat r0 r1 rf0 rf1
            obtain ⟨⟨r0, r1⟩, rf0, rf1⟩ := blk2 HR1''.out
            go_wp2_with fail
            go_roundg (L.length - i2)
            case rel =>
              refine ⟨i2, ks ++ [(d, A, c)], A5, c5, m', rfl, Nat.le_refl _, HE4.out, by omega, by simp; omega, HB5.out.setCell (p := ⟨w.heap.size + 1, 1, none⟩) (Nat.le_succ _) _, (Below.heap_setCell _ _ _ _ (show w.heap.size ≠ w.heap.size + 1 by omega)).trans HR0''.out, ?_, HSL5.out.keep (fun b hb => Below.heap_setCell _ _ _ _ (show b ≠ w.heap.size + 1 by have := hb.1; omega)), ownsRow_setCell_below HO5.out (a := ⟨w.heap.size + 1, 1, none⟩) (show w.heap.size + 1 < n2 by omega) _, by simp; omega, ?_, hdl, HC2.out⟩
              · have := HR1''.out
                simp [World.setCell, Array.getElem?_modify, this]
              · intro x hx
                exact ((HK5.out x hx).keep (fun b hb => Below.heap_setCell _ _ _ _ (show b ≠ w.heap.size + 1 by have := hb.1; omega))).imp (fun b hb => ⟨hb.1, by simpa using hb.2.1, hb.2.2⟩)
            case measure => omega
          · have HC2 : Hid (sigL (L.drop k) = (none, L.drop i2)) := Lib.hid (by
              have h := HCONT.out
              rw [HDI.out, opsL_bad m' HX.out hd] at h
              rw [sigL_bad2 (by rw [HC1.out]) (by rw [HC1.out]; show (opsL (L.drop j).length (L.drop j)).1 = false; rw [h]), HC1.out]
              show (none, (opsL (L.drop j).length (L.drop j)).2.2) = _
              rw [h])
            have hb5 : Below w4.heap.size w4 (w4.alloc (.cells #[.string ⟨#[]⟩, .slice none 0 0, .string ⟨#[]⟩] 140)) := (Below.refl _ _).alloc (Nat.le_refl _) _
            have HB5 := Lib.hid (HB4.out.alloc HB4.out.size (.cells #[.string ⟨#[]⟩, .slice none 0 0, .string ⟨#[]⟩] 140))
            obtain ⟨⟨r0, r1⟩, rf0, rf1⟩ := blk2 (cells_below HR1'.out hb5)
            obtain ⟨⟨q0, q1⟩, qf0, qf1⟩ := blk2 (cells_below HR0'.out hb5)
            clear hd hb5
            go_wp2_with fail
            refine bodyPost_ret (v := .tuple #[.agg #[.slice A1 ss.length c1, .slice A2 ks.length c2], .int .i64 i2, .bool false]) (by simp [results, Tryd.results100, go_sem, q0, q1]) rfl ?_
            exact ⟨(HB5.out.setCell (p := ⟨w.heap.size, 0, none⟩) (Nat.le_refl _) _).setCell (p := ⟨w.heap.size, 1, none⟩) (Nat.le_refl _) _, i2, by omega, hi2l, HE4.out, .inr ⟨_, _, _, _, _, _, HC2.out, rfl⟩⟩
        · rw [decide_eq_false hx]
          have HC2 : Hid (sigL (L.drop k) = (some ⟨ss, ks.map (·.1)⟩, L.drop i)) := Lib.hid (sigL_yes HC1.out (by rw [HCONT.out, HDU.out, opsL_no m hx]; simp))
          obtain ⟨⟨r0, r1⟩, rf0, rf1⟩ := blk2 HR1.out
          obtain ⟨⟨q0, q1⟩, qf0, qf1⟩ := blk2 HR0.out
          clear hx
          go_wp2_with fail
          refine bodyPost_ret (v := .tuple #[GV ⟨ss, ks.map (·.1)⟩ A1 c1 A2 c2, .int .i64 i, .bool true]) (by simp [results, Tryd.results100, go_sem, q0, q1, GV]) rfl ?_
          refine ⟨(HB3.out.setCell (p := ⟨w.heap.size, 0, none⟩) (Nat.le_refl _) _).setCell (p := ⟨w.heap.size, 1, none⟩) (Nat.le_refl _) _, i, by omega, hil, HEI.out, .inl ⟨_, _, _, _, _, HC2.out, rfl, fun w'' hw => ?_, HCL.out, HCM.out⟩⟩
          have hw2 : ∀ b, w.heap.size + 2 ≤ b → b < w3.heap.size → w''.heap[b]? = w3.heap[b]? := fun b h1 h2 =>
            (hw b (by omega) (by simpa using h2)).trans ((Below.heap_setCell _ _ _ _ (show b ≠ w.heap.size by omega)).trans (Below.heap_setCell _ _ _ _ (show b ≠ w.heap.size by omega)))
          refine ⟨(HSL3.out.keep (fun b hb => hw2 b hb.1 (by have := hb.2; omega))).rep (fun b hb => by have := hb.2; simp; omega), ?_⟩
          obtain ⟨A6, c6, e6, h6⟩ := dks_done (n₀ := w3.heap.size) HO3.out rfl (fun x hx => (HK3.out x hx).imp (fun b hb => ⟨hb.1, by have := hb.2.1; omega, hb.2.2⟩)) (fun b h1 h2 => hw2 b (by omega) h2) (Nat.le_refl _)
          injection e6 with e6 _ _
          subst e6
          exact h6.mono (by simp)
end Go.Proofs.YthbcfcbonmphfaaDoor
namespace Go.Proofs.YthbcfcbonmphfaaDoor
open Go.RowKit Go.Shelf
set_option maxRecDepth 100000

/-- The index of the first that is so; -1 if none is. -/
def idxL {α : Type} (p : α → Bool) : Nat → List α → Int
  | _, [] => -1
  | k, x :: L => if p x then k else idxL p (k + 1) L
theorem idxL_at {α : Type} {p : α → Bool} {L : List α} {k : Nat} {x : α} (hx : L[k]? = some x) : idxL p k (L.drop k) = if p x then (k : Int) else idxL p (k + 1) (L.drop (k + 1)) := by
  obtain ⟨h1, e1⟩ := List.getElem?_eq_some_iff.1 hx
  rw [List.drop_eq_getElem_cons h1, e1, idxL]
theorem idxL_none {α : Type} {p : α → Bool} : ∀ (L : List α) (k : Nat), L.any p = false → idxL p k L = -1
  | [], k, _ => rfl
  | x :: L, k, h => by
    rw [List.any_cons, Bool.or_eq_false_iff] at h
    rw [idxL, if_neg (by rw [h.1]; exact Bool.false_ne_true), idxL_none L (k + 1) h.2]
theorem idxL_some {α : Type} {p : α → Bool} : ∀ (L : List α) (k : Nat), L.any p = true → (k : Int) ≤ idxL p k L
  | [], k, h => by cases h
  | x :: L, k, h => by
    rw [idxL]
    by_cases hx : p x = true
    · rw [if_pos hx]; exact Int.le_refl _
    · rw [if_neg hx]
      rw [List.any_cons, Bool.or_eq_true] at h
      have := idxL_some L (k + 1) (h.resolve_left hx)
      omega
theorem idxL_neg {α : Type} {p : α → Bool} (L : List α) : decide (idxL p 0 L < 0) = !L.any p := by
  cases h : L.any p with
  | false => rw [idxL_none L 0 h]; rfl
  | true =>
    have := idxL_some L 0 h
    exact decide_eq_false (by omega)
theorem idxL_pos {α : Type} {p : α → Bool} (L : List α) : decide (0 ≤ idxL p 0 L) = L.any p := by
  cases h : L.any p with
  | false => rw [idxL_none L 0 h]; rfl
  | true =>
    have := idxL_some L 0 h
    exact decide_eq_true (by omega)
theorem idxL_le {α : Type} {p : α → Bool} : ∀ (L : List α) (k : Nat), idxL p k L < ((k + L.length : Nat) : Int) ∨ idxL p k L = -1
  | [], k => .inr rfl
  | x :: L, k => by
    rw [idxL]
    split
    · left; rw [List.length_cons]; omega
    · rcases idxL_le (p := p) L (k + 1) with h | h
      · left; rw [List.length_cons]; omega
      · exact .inr h
def eqS (s : ByteArray) : ByteArray → Bool := fun x => decide (x = s)
def nmS (s : ByteArray) : Dc → Bool := fun d => decide (d.nm = s)

set_option maxHeartbeats 1000000 in
theorem find_names (A : Option Addr) (c : Nat) (L : List ByteArray) (s : ByteArray) (n₀ : Nat) (w : World) (hs : SlS n₀ w A L) (hl : L.length ≤ 1000000) :
    Calls Tryd.prog 103 #[.slice A L.length c, .string s] w fun e w' => e = .returned (.int .i64 (idxL (eqS s) 0 L)) ∧ w' = w := by
  have HS := Lib.hid hs
  clear hs
  go_enter Tryd.func103, Tryd.ntmps103
  go_wp2_with fail
  go_loopw [5] (fun i wr => ∃ k : Nat, k ≤ L.length ∧ i = .int .i64 k ∧ idxL (eqS s) 0 L = idxL (eqS s) k (L.drop k) ∧ wr = w) (fun i _ => L.length - (intOf i).toNat)
  case atStart => exact ⟨0, by omega, rfl, rfl, rfl⟩
  case round =>
    obtain ⟨k, hk, rfl, hno, rfl⟩ := hrel
    have HNO := Lib.hid hno
    clear hno
    by_cases hlt : k < L.length
    · obtain ⟨x, hx⟩ : ∃ x, L[k]? = some x := ⟨L[k]'hlt, List.getElem?_eq_getElem _⟩
      obtain ⟨b, off, rfl, hbl, hc⟩ := HS.out (by omega)
      have y := hc k x hx
      have HAT := Lib.hid (idxL_at (p := eqS s) hx)
      have hI : (k : Int) < (L.length : Int) := by omega
      clear hc hx
      by_cases he : x = s
      · have hb := str_eq_true he
        have HE : Hid (eqS s x = true) := Lib.hid (by unfold eqS; exact decide_eq_true he)
        clear he
        go_wp2_with fail
        go_ret
        exact ⟨by rw [HNO.out, HAT.out, if_pos HE.out]; rfl, rfl⟩
      · have hb := str_eq_false he
        have HE : Hid (¬ eqS s x = true) := Lib.hid (by unfold eqS; rw [decide_eq_false he]; exact Bool.false_ne_true)
        clear he
        go_wp2_with fail
        go_roundw
        case rel => exact ⟨k + 1, by omega, by go_num, by rw [HNO.out, HAT.out, if_neg HE.out], by trivial⟩
        case measure => simp [intOf]; omega
    · have hkl : k = L.length := by omega
      have HE : Hid (idxL (eqS s) 0 L = -1) := Lib.hid (by rw [HNO.out, hkl, List.drop_length]; rfl)
      have hI : ¬ (k : Int) < (L.length : Int) := by omega
      clear hkl
      go_wp2_with fail
      go_ret
      exact ⟨by rw [HE.out]; rfl, rfl⟩

set_option maxHeartbeats 1000000 in
theorem Find_any (g : Sg) (A1 : Option Addr) (c1 : Nat) (A2 : Option Addr) (c2 : Nat) (s : ByteArray) (n₀ : Nat) (w : World) (hd : SlD n₀ w A2 g.ops) (hn : n₀ ≤ w.heap.size) (hl : g.ops.length ≤ 1000000) :
    Calls Tryd.prog 104 #[GV g A1 c1 A2 c2, .string s] w fun e w' => e = .returned (.int .i64 (idxL (nmS s) 0 g.ops)) ∧ Below w.heap.size w w' := by
  have hB : Below w.heap.size w (w.alloc (.cells (gcells g A1 c1 A2 c2) 82)) := (Below.refl _ _).alloc (Nat.le_refl _) _
  have HD := Lib.hid (hd.later (hB.mono hn))
  obtain ⟨⟨x0, x1⟩, _⟩ := blk2 (heap_alloc_new w (.cells (gcells g A1 c1 A2 c2) 82))
  have HB := Lib.hid hB
  clear hd hB
  unfold GV
  go_enter Tryd.func104, Tryd.ntmps104
  go_upto_region 1 with fail
  generalize w.alloc (.cells #[.slice A1 g.sorts.length c1, .slice A2 g.ops.length c2] 82) = W0 at HD HB x0 x1 ⊢
  go_wp2_with fail
  go_loopw [5] (fun i wr => ∃ k : Nat, k ≤ g.ops.length ∧ i = .int .i64 k ∧ idxL (nmS s) 0 g.ops = idxL (nmS s) k (g.ops.drop k) ∧ wr = W0) (fun i _ => g.ops.length - (intOf i).toNat)
  case atStart => exact ⟨0, by omega, rfl, rfl, rfl⟩
  case round =>
    obtain ⟨k, hk, rfl, hno, rfl⟩ := hrel
    have HNO := Lib.hid hno
    clear hno
    by_cases hlt : k < g.ops.length
    · obtain ⟨x, hx⟩ : ∃ x, g.ops[k]? = some x := ⟨g.ops[k]'hlt, List.getElem?_eq_getElem _⟩
      obtain ⟨b, off, rfl, hbl, hc⟩ := HD.out (by omega)
      obtain ⟨A', c', y0, y1, y2, _⟩ := hc k x hx
      have HAT := Lib.hid (idxL_at (p := nmS s) hx)
      have hI : (k : Int) < (g.ops.length : Int) := by omega
      clear hc hx
      by_cases he : x.nm = s
      · have hb := str_eq_true he
        have HE : Hid (nmS s x = true) := Lib.hid (by unfold nmS; exact decide_eq_true he)
        clear he
        go_wp2_with fail
        go_ret
        exact ⟨by rw [HNO.out, HAT.out, if_pos HE.out]; rfl, HB.out⟩
      · have hb := str_eq_false he
        have HE : Hid (¬ nmS s x = true) := Lib.hid (by unfold nmS; rw [decide_eq_false he]; exact Bool.false_ne_true)
        clear he
        go_wp2_with fail
        go_roundw
        case rel => exact ⟨k + 1, by omega, by go_num, by rw [HNO.out, HAT.out, if_neg HE.out], by trivial⟩
        case measure => simp [intOf]; omega
    · have hkl : k = g.ops.length := by omega
      have HE : Hid (idxL (nmS s) 0 g.ops = -1) := Lib.hid (by rw [HNO.out, hkl, List.drop_length]; rfl)
      have hI : ¬ (k : Int) < (g.ops.length : Int) := by omega
      clear hkl
      go_wp2_with fail
      go_ret
      exact ⟨by rw [HE.out]; rfl, HB.out⟩

set_option maxHeartbeats 1000000 in
theorem sameNames_any (A1 A2 : Option Addr) (c1 c2 : Nat) (L : List ByteArray) (n₀ : Nat) (w : World) (hl : L.length ≤ 1000000) (h1 : SlS n₀ w A1 L) (h2 : SlS n₀ w A2 L) :
    Calls Tryd.prog 101 #[.slice A1 L.length c1, .slice A2 L.length c2] w fun e w' => e = .returned (.bool true) ∧ ∃ q, w' = w.drewN q := by
  have H1 := Lib.hid h1
  have H2 := Lib.hid h2
  clear h1 h2
  go_enter Tryd.func101, Tryd.ntmps101
  go_wp2_with fail
  go_loopw [5] (fun i wr => ∃ k q : Nat, k ≤ L.length ∧ i = .int .i64 k ∧ wr = w.drewN q) (fun i _ => L.length - (intOf i).toNat)
  case atStart => exact ⟨0, 0, by omega, rfl, rfl⟩
  case round =>
    obtain ⟨k, q, hk, rfl, rfl⟩ := hrel
    by_cases hlt : k < L.length
    · obtain ⟨x, hx⟩ : ∃ x, L[k]? = some x := ⟨L[k]'hlt, List.getElem?_eq_getElem _⟩
      obtain ⟨b, off, rfl, hbl, hc⟩ := H1.out (by omega)
      obtain ⟨b', off', rfl, hbl', hc'⟩ := H2.out (by omega)
      have y := hc k x hx
      have z := hc' k x hx
      have hI : (k : Int) < (L.length : Int) := by omega
      clear hc hc' hx
      go_wp2_with fail
      go_quiet (fail)
      go_wp2_with fail
      go_roundw
      case rel => exact ⟨k + 1, _, by omega, by go_num, rfl⟩
      case measure => simp [intOf]; omega
    · have hI : ¬ (k : Int) < (L.length : Int) := by omega
      go_wp2_with fail
      go_ret
      exact ⟨rfl, _, rfl⟩
end Go.Proofs.YthbcfcbonmphfaaDoor
