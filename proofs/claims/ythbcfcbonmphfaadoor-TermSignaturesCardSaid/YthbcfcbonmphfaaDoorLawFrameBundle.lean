/- The frame of a law that answers true and leaves its arguments alone: for any program and any number of arguments. -/
import Derived.Deep.RegionWith
import Derived.Test.YthbcfcbonmphfaaDoorTermRnBundle
import Derived.Test.YthbcfcbonmphfaaDoorTermSgBundle
import Derived.Test.YthbcfcbonmphfaaDoorTermSvBundle
import Derived.Test.YthbcfcbonmphfaaDoorTokBBundle
import Derived.Test.YthbcfcbonmphfaaDoorTermBkBundle
import Derived.Deep.QuietTactic
import Derived.Test.YthbcfcbonmphfaaDoorTermTxBundle
import Derived.Test.YthbcfcbonmphfaaDoorTermLsBundle
import Derived.ProofKit
import Derived.Below
import Derived.ChangeSame
import Derived.WideKeyArgs
/- The reference's ParseSignature. -/
namespace Go.Proofs.YthbcfcbonmphfaaDoor
open Go.RowKit Go.Shelf
set_option maxRecDepth 100000

theorem wrongK_fE2 (x : Tk) : wrongK x = fE x := rfl
theorem tlen_mem3 : ∀ {L : List Tk} {x : Tk}, x ∈ L → x.t.length ≤ tlen L
  | [], x, h => by cases h
  | y :: L, x, h => by
    unfold tlen
    rcases List.mem_cons.1 h with rfl | h
    · omega
    · have := tlen_mem3 h; omega

set_option maxHeartbeats 4000000 in
theorem refPSig_full (s : ByteArray) (w : World) (hbig : 65536 < s.size) : Calls Tryd.prog 47 #[.string s] w (PSPost s w) := by
  have H0 := Lib.hid (RG.start w)
  · have HT := Lib.hid (refTokens_full s ((w.alloc (.cells #[.slice none 0 0, .slice none 0 0] 82)).alloc (.cells #[.int .i64 0, .int .i64 0] 23)) hbig)
    have HBIG := Lib.hid hbig
    clear hbig
    go_enter Tryd.func47, Tryd.ntmps47
    go_wp2_with fail
    refine HT.out.mono ?_
    rintro e w1 ⟨rfl, hb1⟩
    have H1 := Lib.hid (H0.out.next hb1)
    have H2 := Lib.hid (H1.out.next ((Below.refl _ _).alloc (Nat.le_refl _) (.cells #[.int .i64 0, .int .i64 0] 23)))
    have hs1 := hb1.size
    simp at hs1
    have hlt0 : w.heap.size < w1.heap.size := by omega
    have hlt1 : w.heap.size + 1 < w1.heap.size := by omega
    clear hb1 HT
    go_wp2_with fail
    have r0 := heap_alloc_new w1 (.cells #[.int .i64 0, .int .i64 0] 23)
    have H6 := H2.out
    clear H2
    generalize (w1.alloc (.cells #[.int .i64 0, .int .i64 0] 23)) = W5 at r0 H6 ⊢
    obtain ⟨⟨p0, p1⟩, pf0, pf1⟩ := blk2 r0
    obtain ⟨⟨x0, x1⟩, xf0, xf1⟩ := blk2 H6.c0
    obtain ⟨⟨y0, y1⟩, yf0, yf1⟩ := blk2 H6.c1
    have HB6 := Lib.hid H6.below
    clear r0 H6
    go_region
    all_goals
      go_wp2
      refine bodyPost_ret (v := .tuple #[GV0, .agg #[.int .i64 0, .int .i64 0], .int .i64 4]) (by simp [results, Tryd.results47, go_sem, x0, x1, y0, y1, GV0, hlt0, hlt1, World.size_setCell]) rfl ?_
      refine ⟨?_, .inl ⟨HBIG.out, rfl⟩⟩
      (repeat' (first | exact HB6.out | refine Below.drew ?_ | refine Below.setCell ?_ (by simp) _ | refine Below.alloc ?_ (by simp <;> omega) _))
set_option maxHeartbeats 4000000 in
theorem refPSig_err (s : ByteArray) (w : World) (hle : s.size ≤ 65536) (p : Int × Int) (htk : toks s.data.toList 1 1 = .error p) : Calls Tryd.prog 47 #[.string s] w (PSPost s w) := by
  have H0 := Lib.hid (RG.start w)
  · have HS : Hid (s.size ≤ 65536) := Lib.hid (by omega)
    have HT := Lib.hid (refTokens_any s ((w.alloc (.cells #[.slice none 0 0, .slice none 0 0] 82)).alloc (.cells #[.int .i64 0, .int .i64 0] 23)) (by omega))
    clear hle
    go_enter Tryd.func47, Tryd.ntmps47
    go_wp2_with fail
    refine HT.out.mono ?_
    rintro e w1 ⟨hb1, hT⟩
    have H1 := Lib.hid (H0.out.next hb1)
    have H2 := Lib.hid (H1.out.next ((Below.refl _ _).alloc (Nat.le_refl _) (.cells #[.int .i64 0, .int .i64 0] 23)))
    have hs1' := hb1.size
    simp at hs1'
    have hlt0 : w.heap.size < w1.heap.size := by omega
    have hlt1 : w.heap.size + 1 < w1.heap.size := by omega
    clear HT
    rw [htk] at hT
    simp only at hT
    subst hT
    have HTK := Lib.hid htk
    have H3 := Lib.hid (H1.out.next ((Below.refl _ _).alloc (Nat.le_refl _) (.cells #[.int .i64 p.1, .int .i64 p.2] 23)))
    clear htk hb1
    go_wp2_with fail
    have r0 := heap_alloc_new w1 (.cells #[.int .i64 p.1, .int .i64 p.2] 23)
    have H6 := H3.out
    clear H2 H3
    generalize (w1.alloc (.cells #[.int .i64 p.1, .int .i64 p.2] 23)) = W5 at r0 H6 ⊢
    obtain ⟨⟨p0, p1⟩, pf0, pf1⟩ := blk2 r0
    obtain ⟨⟨x0, x1⟩, xf0, xf1⟩ := blk2 H6.c0
    obtain ⟨⟨y0, y1⟩, yf0, yf1⟩ := blk2 H6.c1
    have HB6 := Lib.hid H6.below
    clear r0 H6
    go_region
    all_goals
      go_wp2
      refine bodyPost_ret (v := .tuple #[GV0, .agg #[.int .i64 p.1, .int .i64 p.2], .int .i64 7]) (by simp [results, Tryd.results47, go_sem, x0, x1, y0, y1, GV0, hlt0, hlt1, World.size_setCell]) rfl ?_
      refine ⟨?_, .inr (.inl ⟨HS.out, p, HTK.out, rfl⟩)⟩
      (repeat' (first | exact HB6.out | refine Below.drew ?_ | refine Below.setCell ?_ (by simp) _ | refine Below.alloc ?_ (by simp <;> omega) _))
set_option maxHeartbeats 16000000 in
theorem refPSig_ok (s : ByteArray) (w : World) (hle : s.size ≤ 65536) (L : List Tk) (htk : toks s.data.toList 1 1 = .ok L) : Calls Tryd.prog 47 #[.string s] w (PSPost s w) := by
  have H0 := Lib.hid (RG.start w)
  have HS : Hid (s.size ≤ 65536) := Lib.hid hle
  have HT := Lib.hid (refTokens_any s ((w.alloc (.cells #[.slice none 0 0, .slice none 0 0] 82)).alloc (.cells #[.int .i64 0, .int .i64 0] 23)) (by omega))
  clear hle
  go_enter Tryd.func47, Tryd.ntmps47
  go_wp2_with fail
  refine HT.out.mono ?_
  rintro e w1 ⟨hb1, hT⟩
  have H1 := Lib.hid (H0.out.next hb1)
  have H2 := Lib.hid (H1.out.next ((Below.refl _ _).alloc (Nat.le_refl _) (.cells #[.int .i64 0, .int .i64 0] 23)))
  have hs1 := hb1.size
  simp at hs1
  clear HT
  rw [htk] at hT
  simp only at hT
  obtain ⟨v, rfl, ho⟩ := hT
  obtain ⟨hval, _, hends, htl, hln⟩ := toks_places _ _ htk
  have hek := ends_k hends
  have hne : 0 < L.length := by obtain ⟨a, b, e⟩ := hek.ne; rw [e]; simp
  obtain ⟨g, c, rfl, hc1, hc2, hg, htat⟩ := pb_of_own ho hne
  rw [size_toList] at hln htl
  have hLn : L.length ≤ 65537 := by have := HS.out; omega
  have HTL := Lib.hid htl
  have HTK := Lib.hid htk
  have hb2 : Below w1.heap.size w1 (w1.alloc (.cells #[.int .i64 0, .int .i64 0] 23)) := (Below.refl _ _).alloc (Nat.le_refl _) _
  have HTA := Lib.hid (show TkAt (w1.alloc (.cells #[.int .i64 0, .int .i64 0] 23)) g 0 L from fun i u hu => tk_at hb2 htat hg hu)
  have HPD := Lib.hid (Sorted_any L g 0 c (by omega) 0 (w1.alloc (.cells #[.int .i64 0, .int .i64 0] 23)) HTA.out (by simp; omega) (by rw [List.drop_zero]; exact hek))
  have hg2 : g < w1.heap.size + 1 := by omega
  have hsW : (w1.alloc (.cells #[.int .i64 0, .int .i64 0] 23)).heap.size = w1.heap.size + 1 := by simp
  have HSW := Lib.hid hsW
  clear htk hb1 ho hval hends htl hek htat hc1 hc2 hne hb2 hsW
  go_wp2_with fail
  refine HPD.out.mono ?_
  rintro e w3 ⟨hb3, k', _, hk', he3, hcase⟩
  have hs3 := hb3.size
  rw [HSW.out] at hs3
  have H3 := Lib.hid (H2.out.next hb3)
  have HB3 := Lib.hid hb3
  have HE3 := Lib.hid he3
  obtain ⟨y, hy, _, hdy⟩ := ends_at he3
  have HY := Lib.hid hy
  have HDY := Lib.hid hdy
  clear hb3 he3 HPD hy hdy
  have hkI : (k' : Int) < (L.length : Int) := by omega
  rcases hcase with ⟨g', A1, k1, A2, k2, hpt, rfl, hres, hcl, hcm⟩ | ⟨A1, n1, k1, A2, n2, k2, hpt, rfl⟩
  · have HPT := Lib.hid (show sigL L = (some g', y :: L.drop (k' + 1)) by rw [← HDY.out]; rw [List.drop_zero] at hpt; exact hpt)
    have HRES := Lib.hid hres
    clear hpt hres
    have hb4 : Below w3.heap.size w3 (w3.alloc (.cells (gcells g' A1 k1 A2 k2) 82)) := (Below.refl _ _).alloc (Nat.le_refl _) _
    have H4 := Lib.hid (H3.out.next hb4)
    have hbt := heap_alloc_new w3 (.cells (gcells g' A1 k1 A2 k2) 82)
    have HB4 := Lib.hid (HB3.out.trans (hb4.mono HB3.out.size))
    have hta4 : TkAt (w3.alloc (.cells (gcells g' A1 k1 A2 k2) 82)) g 0 L := fun i u hu => tk_at HB4.out HTA.out (by rw [HSW.out]; exact hg2) hu
    have hsd4 := (HRES.out (w3.alloc (.cells (gcells g' A1 k1 A2 k2) 82)) (fun b _ h2 => hb4.block b h2))
    have hs4 : (w3.alloc (.cells (gcells g' A1 k1 A2 k2) 82)).heap.size = w3.heap.size + 1 := by simp
    have HK4 := Lib.hid hb4
    unfold GV
    go_upto_region 5 with fail
    generalize w3.alloc (.cells #[.slice A1 g'.sorts.length k1, .slice A2 g'.ops.length k2] 82) = W4 at H4 hbt HB4 hta4 hsd4 hs4 HK4 ⊢
    have HBT := Lib.hid hbt
    have HSD4 := Lib.hid hsd4
    have hs4a := Nat.le_of_eq hs4
    have hs4b := Nat.le_of_eq hs4.symm
    obtain ⟨x0, x1, x2, x3, x4⟩ := hta4 k' y HY.out
    rw [Nat.zero_add] at x0 x1 x2 x3 x4
    clear hbt hsd4 hs4 hta4 hb4
    by_cases hk : y.k = 5
    · have hkb : (y.k != 5) = false := by rw [hk]; rfl
      have HK := Lib.hid hk
      clear hk
      have HOK := Lib.hid ((sigL_ok (M := 65537) (by unfold maxLen; omega) L (fun z hz => Nat.le_trans (tlen_mem3 hz) (by have := HTL.out; have := HS.out; omega)) hLn).2 g' (by rw [HPT.out])).1
      have HC := Lib.hid (refValidSignature_any g' A1 k1 A2 k2 W4 (HSD4.out.1.mono (by omega)) (HSD4.out.2.mono (by omega)) HOK.out hcl hcm)
      unfold GV at HC
      obtain ⟨⟨b0, b1⟩, _⟩ := blk2 HBT.out
      go_wp2_with fail
      refine HC.out.mono ?_
      rintro e w5 ⟨rfl, hb5⟩
      have H5 := Lib.hid (H4.out.next hb5)
      have HBT5 := Lib.hid (cells_below HBT.out hb5)
      have HK5 := Lib.hid (HK4.out.trans (hb5.mono HK4.out.size))
      have hs5 := hb5.size
      clear hb5 HC b0 b1 x0 x1 x2 x3 x4
      obtain ⟨⟨r0, r1⟩, rf0, rf1⟩ := blk2 H5.out.c0
      obtain ⟨⟨q0, q1⟩, qf0, qf1⟩ := blk2 H5.out.c1
      obtain ⟨⟨b0, b1⟩, _⟩ := blk2 HBT5.out
      generalize hg : validSg g' = vg
      have HVG := Lib.hid hg
      clear hg
      cases vg
      · go_wp2_with fail
        refine bodyPost_ret (v := .tuple #[GV0, .agg #[.int .i64 0, .int .i64 0], .int .i64 1]) (by simp [results, Tryd.results47, go_sem, r0, r1, q0, q1, GV0]) rfl ?_
        refine ⟨?_, .inr (.inr (.inr ⟨HS.out, L, g', y, _, HTK.out, HPT.out, HK.out, .inl ⟨HVG.out, rfl⟩⟩))⟩
        (repeat' (first | refine Below.drew ?_ | refine Below.setCell ?_ (by simp) _ | exact H5.out.below))
      · have hw3 : w.heap.size + 1 < w3.heap.size := by have := (Array.getElem?_eq_some_iff.1 H3.out.c1).1; omega
        go_wp2_with fail
        refine bodyPost_ret (v := .tuple #[GV g' A1 k1 A2 k2, .agg #[.int .i64 0, .int .i64 0], .int .i64 0]) (by simp [results, Tryd.results47, go_sem, r0, r1, q0, q1, GV]) rfl ?_
        refine ⟨?_, .inr (.inr (.inr ⟨HS.out, L, g', y, _, HTK.out, HPT.out, HK.out, .inr ⟨HVG.out, A1, k1, A2, k2, rfl, ?_⟩⟩))⟩
        · (repeat' (first | refine Below.drew ?_ | refine Below.setCell ?_ (by simp) _ | exact H5.out.below))
        · refine And.imp (fun h => SlS.mono ?_ h) (fun h => SlD.mono ?_ h) (HRES.out _ (fun b h1 h2 => ?_))
          · simp; omega
          · simp; omega
          · rw [HSW.out] at h1
            (repeat' (first | exact HK5.out.block b h2 | refine (Below.heap_setCell _ _ _ _ (by simp; omega)).trans ?_))
    · have hkb : (y.k != 5) = true := bne_iff_ne.2 hk
      have HK := Lib.hid hk
      clear hk
      have HW := Lib.hid (Wrong_any y W4.drew)
      unfold tkW at HW
      have HF := Lib.hid (fun (w5 : World) (hb : Below W4.drew.heap.size W4.drew w5) => (show (w5.cell? ⟨g, k' * 5, none⟩ = some (.int .i64 y.k) ∧ w5.cell? ⟨g, k' * 5 + 1, none⟩ = some (.string ⟨y.t.toArray⟩) ∧ w5.cell? ⟨g, k' * 5 + 2, none⟩ = some (.int .i64 y.n) ∧ w5.cell? ⟨g, k' * 5 + 3, none⟩ = some (.int .i64 y.a) ∧ w5.cell? ⟨g, k' * 5 + 4, none⟩ = some (.int .i64 y.b)) ∧ RG w w5 by
        have hb' : Below W4.heap.size W4 w5 := (Below.refl _ _).drew.trans hb
        have hgl : g < W4.heap.size := by omega
        exact ⟨⟨(hb'.cell (p := ⟨g, _, none⟩) hgl).trans x0, (hb'.cell (p := ⟨g, _, none⟩) hgl).trans x1, (hb'.cell (p := ⟨g, _, none⟩) hgl).trans x2, (hb'.cell (p := ⟨g, _, none⟩) hgl).trans x3, (hb'.cell (p := ⟨g, _, none⟩) hgl).trans x4⟩, H4.out.next hb'⟩))
      go_upto_region 6 with fail
      go_region_with (go_at_call 90; refine HW.out.mono ?_; rintro e w5 ⟨rfl, hb5⟩; obtain ⟨⟨z0, z1, z2, z3, z4⟩, H5⟩ := HF.out w5 hb5; obtain ⟨⟨r0, r1⟩, rf0, rf1⟩ := blk2 H5.c0; obtain ⟨⟨q0, q1⟩, qf0, qf1⟩ := blk2 H5.c1; have HH5 := Lib.hid H5.below; clear H5 hb5)
      all_goals
        go_wp2_with fail
        refine bodyPost_ret (v := .tuple #[GV0, .agg #[.int .i64 y.a, .int .i64 y.b], .int .i64 (fE y)]) (by simp [results, Tryd.results47, go_sem, r0, r1, q0, q1, GV0, wrongK_fE2]) rfl ?_
        refine ⟨?_, .inr (.inr (.inl ⟨HS.out, L, some g', y, _, HTK.out, HPT.out, .inr HK.out, rfl⟩))⟩
        (repeat' (first | refine Below.drew ?_ | refine Below.setCell ?_ (by simp) _ | exact HH5.out))
  · have HPT := Lib.hid (show sigL L = (none, y :: L.drop (k' + 1)) by rw [← HDY.out]; rw [List.drop_zero] at hpt; exact hpt)
    have hb4 : Below w3.heap.size w3 (w3.alloc (.cells #[.slice A1 n1 k1, .slice A2 n2 k2] 82)) := (Below.refl _ _).alloc (Nat.le_refl _) _
    have H4 := Lib.hid (H3.out.next hb4)
    have HB4 := Lib.hid (HB3.out.trans (hb4.mono HB3.out.size))
    have hta4 : TkAt (w3.alloc (.cells #[.slice A1 n1 k1, .slice A2 n2 k2] 82)) g 0 L := fun i u hu => tk_at HB4.out HTA.out (by rw [HSW.out]; exact hg2) hu
    clear hpt hb4
    go_upto_region 6 with fail
    generalize w3.alloc (.cells #[.slice A1 n1 k1, .slice A2 n2 k2] 82) = W4 at H4 HB4 hta4 ⊢
    obtain ⟨x0, x1, x2, x3, x4⟩ := hta4 k' y HY.out
    rw [Nat.zero_add] at x0 x1 x2 x3 x4
    have HW := Lib.hid (Wrong_any y W4.drew)
    unfold tkW at HW
    have hgW : g < W4.heap.size := by have := HB4.out.size; rw [HSW.out] at this; omega
    have HF := Lib.hid (fun (w5 : World) (hb : Below W4.drew.heap.size W4.drew w5) => (show (w5.cell? ⟨g, k' * 5, none⟩ = some (.int .i64 y.k) ∧ w5.cell? ⟨g, k' * 5 + 1, none⟩ = some (.string ⟨y.t.toArray⟩) ∧ w5.cell? ⟨g, k' * 5 + 2, none⟩ = some (.int .i64 y.n) ∧ w5.cell? ⟨g, k' * 5 + 3, none⟩ = some (.int .i64 y.a) ∧ w5.cell? ⟨g, k' * 5 + 4, none⟩ = some (.int .i64 y.b)) ∧ RG w w5 by
      have hb' : Below W4.heap.size W4 w5 := (Below.refl _ _).drew.trans hb
      exact ⟨⟨(hb'.cell (p := ⟨g, _, none⟩) hgW).trans x0, (hb'.cell (p := ⟨g, _, none⟩) hgW).trans x1, (hb'.cell (p := ⟨g, _, none⟩) hgW).trans x2, (hb'.cell (p := ⟨g, _, none⟩) hgW).trans x3, (hb'.cell (p := ⟨g, _, none⟩) hgW).trans x4⟩, H4.out.next hb'⟩))
    clear hta4
    go_region_with (go_at_call 90; refine HW.out.mono ?_; rintro e w5 ⟨rfl, hb5⟩; obtain ⟨⟨z0, z1, z2, z3, z4⟩, H5⟩ := HF.out w5 hb5; obtain ⟨⟨r0, r1⟩, rf0, rf1⟩ := blk2 H5.c0; obtain ⟨⟨q0, q1⟩, qf0, qf1⟩ := blk2 H5.c1; have HH5 := Lib.hid H5.below; clear H5 hb5)
    all_goals
      go_wp2_with fail
      refine bodyPost_ret (v := .tuple #[GV0, .agg #[.int .i64 y.a, .int .i64 y.b], .int .i64 (fE y)]) (by simp [results, Tryd.results47, go_sem, r0, r1, q0, q1, GV0, wrongK_fE2]) rfl ?_
      refine ⟨?_, .inr (.inr (.inl ⟨HS.out, L, none, y, _, HTK.out, HPT.out, .inl rfl, rfl⟩))⟩
      (repeat' (first | refine Below.drew ?_ | refine Below.setCell ?_ (by simp) _ | exact HH5.out))
end Go.Proofs.YthbcfcbonmphfaaDoor
/- What ParseSignature gives, as data; both at every text. -/
namespace Go.Proofs.YthbcfcbonmphfaaDoor
open Go.RowKit Go.Shelf
set_option maxRecDepth 100000

theorem PSig_all (s : ByteArray) (w : World) (hp : Pairs w) : Calls Tryd.prog 46 #[.string s] w (PSPost s w) := by
  by_cases hb : 65536 < s.size
  · exact PSig_full s w hb hp
  · cases ht : toks s.data.toList 1 1 with
    | error p => exact PSig_err s w (by omega) hp p ht
    | ok L => exact PSig_ok s w (by omega) hp L ht
theorem refPSig_all (s : ByteArray) (w : World) : Calls Tryd.prog 47 #[.string s] w (PSPost s w) := by
  by_cases hb : 65536 < s.size
  · exact refPSig_full s w hb
  · cases ht : toks s.data.toList 1 1 with
    | error p => exact refPSig_err s w (by omega) p ht
    | ok L => exact refPSig_ok s w (by omega) L ht
def sg0 : Sg := ⟨[], []⟩
/-- What is parsed. -/
def PG (s : ByteArray) (G : Sg) (a b er : Int) : Prop :=
  (65536 < s.size ∧ G = sg0 ∧ a = 0 ∧ b = 0 ∧ er = 4) ∨
  (s.size ≤ 65536 ∧ ∃ p, toks s.data.toList 1 1 = .error p ∧ G = sg0 ∧ a = p.1 ∧ b = p.2 ∧ er = 7) ∨
  (s.size ≤ 65536 ∧ ∃ L r x l', toks s.data.toList 1 1 = .ok L ∧ sigL L = (r, x :: l') ∧ (r = none ∨ x.k ≠ 5) ∧ G = sg0 ∧ a = x.a ∧ b = x.b ∧ er = fE x) ∨
  (s.size ≤ 65536 ∧ ∃ L g x l', toks s.data.toList 1 1 = .ok L ∧ sigL L = (some g, x :: l') ∧ x.k = 5 ∧ a = 0 ∧ b = 0 ∧
    ((validSg g = false ∧ G = sg0 ∧ er = 1) ∨ (validSg g = true ∧ G = g ∧ er = 0)))
/-- What is small enough to be compared. -/
def smG (g : Sg) : Prop := g.sorts.length ≤ 1000000 ∧ g.ops.length ≤ 1000000 ∧ ∀ d, d ∈ g.ops → d.args.length ≤ 1000000
theorem smG_valid {g : Sg} (h : validSg g = true) : smG g := by
  obtain ⟨h1, h2, _, h3⟩ := valid_parts h
  exact ⟨by omega, by omega, fun d hd => by have := (h3 d hd).2.1; omega⟩
theorem sl0 (n₀ : Nat) (w : World) : SlS n₀ w none sg0.sorts := fun h => absurd h (by simp [sg0])
theorem sd0 (n₀ : Nat) (w : World) : SlD n₀ w none sg0.ops := fun h => absurd h (by simp [sg0])
theorem pg_of {s : ByteArray} {w w' : World} {e : Ending} (h : PSPost s w e w') :
    ∃ G a b er A1 c1 A2 c2, PG s G a b er ∧ e = .returned (.tuple #[GV G A1 c1 A2 c2, .agg #[.int .i64 a, .int .i64 b], .int .i64 er]) ∧ SlS w'.heap.size w' A1 G.sorts ∧ SlD w'.heap.size w' A2 G.ops ∧ Below w.heap.size w w' := by
  obtain ⟨hb, h⟩ := h
  rcases h with ⟨h1, rfl⟩ | ⟨h1, p, h2, rfl⟩ | ⟨h1, L, r, x, l', h2, h3, h4, rfl⟩ | ⟨h1, L, t, x, l', h2, h3, h4, h5⟩
  · exact ⟨sg0, 0, 0, 4, none, 0, none, 0, .inl ⟨h1, rfl, rfl, rfl, rfl⟩, rfl, sl0 _ _, sd0 _ _, hb⟩
  · exact ⟨sg0, p.1, p.2, 7, none, 0, none, 0, .inr (.inl ⟨h1, p, h2, rfl, rfl, rfl, rfl⟩), rfl, sl0 _ _, sd0 _ _, hb⟩
  · exact ⟨sg0, x.a, x.b, fE x, none, 0, none, 0, .inr (.inr (.inl ⟨h1, L, r, x, l', h2, h3, h4, rfl, rfl, rfl, rfl⟩)), rfl, sl0 _ _, sd0 _ _, hb⟩
  · rcases h5 with ⟨h6, rfl⟩ | ⟨h6, A1, c1, A2, c2, rfl, h8, h9⟩
    · exact ⟨sg0, 0, 0, 1, none, 0, none, 0, .inr (.inr (.inr ⟨h1, L, t, x, l', h2, h3, h4, rfl, rfl, .inl ⟨h6, rfl, rfl⟩⟩)), rfl, sl0 _ _, sd0 _ _, hb⟩
    · exact ⟨t, 0, 0, 0, A1, c1, A2, c2, .inr (.inr (.inr ⟨h1, L, t, x, l', h2, h3, h4, rfl, rfl, .inr ⟨h6, rfl, rfl⟩⟩)), rfl, h8, h9, hb⟩
theorem pg_one {s : ByteArray} {T T2 : Sg} {a b er a2 b2 er2 : Int} (h : PG s T a b er) (h' : PG s T2 a2 b2 er2) : T = T2 ∧ a = a2 ∧ b = b2 ∧ er = er2 := by
  rcases h with ⟨h1, rfl, rfl, rfl, rfl⟩ | ⟨h1, p, h2, rfl, rfl, rfl, rfl⟩ | ⟨h1, L, r, x, l', h2, h3, h4, rfl, rfl, rfl, rfl⟩ | ⟨h1, L, t, x, l', h2, h3, h4, rfl, rfl, h5⟩ <;>
  rcases h' with ⟨g1, rfl, rfl, rfl, rfl⟩ | ⟨g1, q, g2, rfl, rfl, rfl, rfl⟩ | ⟨g1, M, r', y, m', g2, g3, g4, rfl, rfl, rfl, rfl⟩ | ⟨g1, M, u, y, m', g2, g3, g4, rfl, rfl, g5⟩
  · exact ⟨rfl, rfl, rfl, rfl⟩
  · omega
  · omega
  · omega
  · omega
  · rw [h2] at g2; injection g2 with g2; subst g2; exact ⟨rfl, rfl, rfl, rfl⟩
  · rw [h2] at g2; cases g2
  · rw [h2] at g2; cases g2
  · omega
  · rw [h2] at g2; cases g2
  · rw [h2] at g2
    injection g2 with g2
    subst g2
    rw [h3] at g3
    injection g3 with e1 e2
    injection e2 with e2 e3
    subst e2
    exact ⟨rfl, rfl, rfl, rfl⟩
  · rw [h2] at g2
    injection g2 with g2
    subst g2
    rw [h3] at g3
    injection g3 with e1 e2
    injection e2 with e2 e3
    subst e2
    rcases h4 with h4 | h4
    · rw [h4] at e1; cases e1
    · exact absurd g4 h4
  · omega
  · rw [h2] at g2; cases g2
  · rw [h2] at g2
    injection g2 with g2
    subst g2
    rw [h3] at g3
    injection g3 with e1 e2
    injection e2 with e2 e3
    subst e2
    rcases g4 with g4 | g4
    · rw [g4] at e1; cases e1
    · exact absurd h4 g4
  · rw [h2] at g2
    injection g2 with g2
    subst g2
    rw [h3] at g3
    injection g3 with e1 e2
    injection e1 with e1
    subst e1
    rcases h5 with ⟨h6, rfl, rfl⟩ | ⟨h6, rfl, rfl⟩ <;> rcases g5 with ⟨g6, rfl, rfl⟩ | ⟨g6, rfl, rfl⟩ <;>
      first | exact ⟨rfl, rfl, rfl, rfl⟩ | (rw [h6] at g6; exact absurd g6 (by decide))
theorem pg_small {s : ByteArray} {T : Sg} {a b er : Int} (h : PG s T a b er) : smG T := by
  have h0 : smG sg0 := ⟨by simp [sg0], by simp [sg0], fun d hd => by simp [sg0] at hd⟩
  rcases h with ⟨h1, rfl, _⟩ | ⟨h1, p, h2, rfl, _⟩ | ⟨h1, L, r, x, l', h2, h3, h4, rfl, _⟩ | ⟨h1, L, t, x, l', h2, h3, h4, _, _, ⟨h6, rfl, _⟩ | ⟨h6, rfl, _⟩⟩
  · exact h0
  · exact h0
  · exact h0
  · exact h0
  · exact smG_valid h6
/-- The text of a valid signature is parsed as that signature. -/
theorem pg_txt {g : Sg} (hv : validSg g = true) : PG ⟨(sigTxt g).toArray⟩ g 0 0 0 := by
  obtain ⟨L, x, h1, h2, h3⟩ := sig_back hv
  have hl := sigTxt_len hv
  have hsz : (⟨(sigTxt g).toArray⟩ : ByteArray).size ≤ 65536 := by rw [← size_toList]; simp; omega
  exact .inr (.inr (.inr ⟨hsz, L, g, x, [], by simpa using h1, h2, h3, rfl, rfl, .inr ⟨hv, rfl, rfl⟩⟩))

/-- A signature in a box. -/
structure BGs (w : World) (b : Nat) (g : Sg) (A1 : Option Addr) (c1 : Nat) (A2 : Option Addr) (c2 : Nat) : Prop where
  cells : w.heap[b]? = some (.cells (gcells g A1 c1 A2 c2) 82 (0, 0))
  s : SlS w.heap.size w A1 g.sorts
  d : SlD w.heap.size w A2 g.ops
theorem BGs.next {w w' : World} {b : Nat} {g : Sg} {A1 : Option Addr} {c1 : Nat} {A2 : Option Addr} {c2 : Nat} (h : BGs w b g A1 c1 A2 c2) (hb : Below w.heap.size w w') : BGs w' b g A1 c1 A2 c2 :=
  ⟨cells_below h.cells hb, (h.s.later hb).mono hb.size, (h.d.later hb).mono hb.size⟩
theorem BGs.new (w : World) (g : Sg) (A1 : Option Addr) (c1 : Nat) (A2 : Option Addr) (c2 : Nat) (hs : SlS w.heap.size w A1 g.sorts) (hd : SlD w.heap.size w A2 g.ops) : BGs (w.alloc (.cells (gcells g A1 c1 A2 c2) 82)) w.heap.size g A1 c1 A2 c2 :=
  have hb : Below w.heap.size w (w.alloc (.cells (gcells g A1 c1 A2 c2) 82)) := (Below.refl _ _).alloc (Nat.le_refl _) _
  ⟨heap_alloc_new _ _, (hs.later hb).mono hb.size, (hd.later hb).mono hb.size⟩
/-- The boxes of the law. -/
structure QG (g : Sg) (A1 : Option Addr) (c1 : Nat) (A2 : Option Addr) (c2 : Nat) (w w' : World) : Prop where
  below : Below w.heap.size w w'
  bg : BGs w' w.heap.size g A1 c1 A2 c2
theorem QG.next {g : Sg} {A1 : Option Addr} {c1 : Nat} {A2 : Option Addr} {c2 : Nat} {w w1 w2 : World} (h : QG g A1 c1 A2 c2 w w1) (hb : Below w1.heap.size w1 w2) : QG g A1 c1 A2 c2 w w2 := ⟨h.below.trans (hb.mono h.below.size), h.bg.next hb⟩
theorem QG.start (g : Sg) (A1 : Option Addr) (c1 : Nat) (A2 : Option Addr) (c2 : Nat) (w : World) (hs : SlS w.heap.size w A1 g.sorts) (hd : SlD w.heap.size w A2 g.ops) : QG g A1 c1 A2 c2 w (w.alloc (.cells (gcells g A1 c1 A2 c2) 82)) := ⟨(Below.refl _ _).alloc (Nat.le_refl _) _, BGs.new w g A1 c1 A2 c2 hs hd⟩
/-- A place in a box. -/
structure PXg (w : World) (p : Nat) (a b : Int) : Prop where
  out : w.heap[p]? = some (.cells #[.int .i64 a, .int .i64 b] 23 (0, 0))
theorem PXg.next {w w' : World} {p : Nat} {a b : Int} (h : PXg w p a b) (hb : Below w.heap.size w w') : PXg w' p a b := ⟨cells_below h.out hb⟩
theorem PXg.new (w : World) (a b : Int) : PXg (w.alloc (.cells #[.int .i64 a, .int .i64 b] 23)) w.heap.size a b := ⟨heap_alloc_new _ _⟩
end Go.Proofs.YthbcfcbonmphfaaDoor
/- The reference's TextSignature. -/
namespace Go.Proofs.YthbcfcbonmphfaaDoor
open Go.RowKit Go.Shelf
set_option maxRecDepth 100000

/-- What the loops of TextSignature keep: the box of the signature. -/
def RSInv (g : Sg) (A1 : Option Addr) (c1 : Nat) (A2 : Option Addr) (c2 : Nat) (w wr : World) : Prop :=
  Below w.heap.size w wr ∧ wr.heap[w.heap.size]? = some (.cells (gcells g A1 c1 A2 c2) 82 (0, 0))
theorem lens_40 : ∀ L : List ByteArray, (∀ a, a ∈ L → a.data.toList.length ≤ 40) → lens L ≤ 42 * L.length
  | [], _ => by simp [lens]
  | x :: L, h => by
    have h1 := h x (by simp)
    have h2 := lens_40 L (fun y hy => h y (by simp [hy]))
    rw [size_toList] at h1
    simp [lens]; omega

set_option maxHeartbeats 8000000 in
theorem refTextSignature_any (g : Sg) (A1 : Option Addr) (c1 : Nat) (A2 : Option Addr) (c2 : Nat) (w : World) (hs : SlS w.heap.size w A1 g.sorts) (hd : SlD w.heap.size w A2 g.ops) (hv : validSg g = true) :
    Calls Tryd.prog 51 #[GV g A1 c1 A2 c2] w fun e w' => e = .returned (.string ⟨(sigTxt g).toArray⟩) ∧ Below w.heap.size w w' := by
  have HS := Lib.hid hs
  have HD := Lib.hid hd
  have HP := Lib.hid (valid_parts hv)
  have hl1 := HP.out.1
  have hl2 := HP.out.2.1
  have hbx := heap_alloc_new w (.cells (gcells g A1 c1 A2 c2) 82)
  have H0 : Hid (RSInv g A1 c1 A2 c2 w (w.alloc (.cells (gcells g A1 c1 A2 c2) 82))) := Lib.hid ⟨(Below.refl w.heap.size w).alloc (Nat.le_refl _) _, hbx⟩
  obtain ⟨⟨x0, x1⟩, _⟩ := blk2 hbx
  clear hs hd hv hbx
  unfold GV
  go_enter Tryd.func51, Tryd.ntmps51
  go_wp2_with fail
  clear x0 x1
  go_loopw [3, 4] (fun v y wr => ∃ (k : Nat) (js : ByteArray), y = .int .i64 k ∧ v = .string js ∧ k ≤ g.sorts.length ∧ js.data.toList = (g.sorts.take k).flatMap sortTxt ∧ RSInv g A1 c1 A2 c2 w wr) (fun _ y _ => g.sorts.length - (intOf y).toNat)
  case atStart => exact ⟨0, ⟨#[]⟩, rfl, rfl, Nat.zero_le _, rfl, H0.out⟩
  case round =>
    clear H0
    obtain ⟨k, js, rfl, rfl, hk, hj, hi⟩ := hrel
    have H1 := Lib.hid hi
    have HJ := Lib.hid hj
    have hxl : js.size ≤ 46 * 40 := by
      rw [← size_toList, hj]
      exact Nat.le_trans (fm_len sortTxt 46 _ (fun x hx => sortTxt_len (HP.out.2.2.1 x (List.mem_of_mem_take hx)))) (Nat.mul_le_mul_left _ (by rw [List.length_take]; omega))
    obtain ⟨⟨x0, x1⟩, _⟩ := blk2 hi.2
    clear hi hj
    by_cases hlt : k < g.sorts.length
    · obtain ⟨s, hs⟩ : ∃ s, g.sorts[k]? = some s := ⟨g.sorts[k]'hlt, List.getElem?_eq_getElem _⟩
      obtain ⟨b, off, rfl, hbl, hc⟩ := (HS.out.later H1.out.1) (by omega)
      have y := hc k s hs
      have HSS := Lib.hid hs
      have hI : (k : Int) < (g.sorts.length : Int) := by omega
      have hI' : decide ((k : Int) < (g.sorts.length : Int)) = true := decide_eq_true hI
      have hsz : s.size ≤ 40 := by have := HP.out.2.2.1 s (List.mem_of_getElem? hs); rwa [size_toList] at this
      have n1 : ¬ 9223372036854775807 < js.size + 5 := by omega
      have n2 : ¬ 9223372036854775807 < js.size + 5 + s.size := by omega
      have n3 : ¬ 9223372036854775807 < js.size + 5 + s.size + 1 := by omega
      clear hc hs
      go_wp2_with fail
      go_roundw
      case rel =>
        refine ⟨k + 1, _, by go_num, rfl, hlt, ?_, H1.out⟩
        have h := HJ.out
        rw [List.take_add_one, HSS.out, List.flatMap_append, ← h]
        simp [sortTxt, ByteArray.data_append, Array.toList_append]
      case measure => simp [intOf]; omega
    · have hkl : k = g.sorts.length := by omega
      have HE : Hid (js.data.toList = g.sorts.flatMap sortTxt) := Lib.hid (by have := HJ.out; rw [hkl, List.take_length] at this; exact this)
      have hI : ¬ (k : Int) < (g.sorts.length : Int) := by omega
      have hI' : decide ((k : Int) < (g.sorts.length : Int)) = false := decide_eq_false hI
      clear hkl HJ
      go_wp2_with fail
      clear x0 x1
      go_loopw [3, 5] (fun v y wr => ∃ (k : Nat) (ks : ByteArray), y = .int .i64 k ∧ v = .string ks ∧ k ≤ g.ops.length ∧ ks.data.toList = g.sorts.flatMap sortTxt ++ (g.ops.take k).flatMap opTxt ∧ RSInv g A1 c1 A2 c2 w wr) (fun _ y _ => g.ops.length - (intOf y).toNat)
      case atStart => exact ⟨0, js, rfl, rfl, Nat.zero_le _, by rw [HE.out]; simp, H1.out⟩
      case round =>
        clear H1 HE hxl hI hI'
        obtain ⟨i, ks, rfl, rfl, hi, hj, hv⟩ := hrel
        have H1 := Lib.hid hv
        have HJ := Lib.hid hj
        have hxl1 : (g.sorts.flatMap sortTxt).length ≤ 46 * 40 := Nat.le_trans (fm_len sortTxt 46 _ (fun x hx => sortTxt_len (HP.out.2.2.1 x hx))) (Nat.mul_le_mul_left _ HP.out.1)
        have hxl2 : ((g.ops.take i).flatMap opTxt).length ≤ 342 * 100 := Nat.le_trans (fm_len opTxt 342 _ (fun x hx => by
          obtain ⟨p1, p2, p3, p4⟩ := HP.out.2.2.2 x (List.mem_of_mem_take hx)
          exact opTxt_len p1 p2 p3 p4)) (Nat.mul_le_mul_left _ (by rw [List.length_take]; omega))
        have hxl : ks.size ≤ 36040 := by rw [← size_toList, hj, List.length_append]; omega
        obtain ⟨⟨x0, x1⟩, _⟩ := blk2 hv.2
        clear hv hj hxl1 hxl2
        by_cases hlt : i < g.ops.length
        · obtain ⟨d, hd⟩ : ∃ d, g.ops[i]? = some d := ⟨g.ops[i]'hlt, List.getElem?_eq_getElem _⟩
          obtain ⟨b, off, rfl, hbl, hc⟩ := (HD.out.later H1.out.1) (by omega)
          obtain ⟨A', c', d0, d1, d2, d3⟩ := hc i d hd
          obtain ⟨p1, p2, p3, p4⟩ := HP.out.2.2.2 d (List.mem_of_getElem? hd)
          have hjl := joinC_len d.args p3
          rw [size_toList] at p1 p4
          obtain ⟨J, hJ⟩ : ∃ J : ByteArray, J.data.toList = joinC d.args := ⟨⟨(joinC d.args).toArray⟩, by simp⟩
          have hjz : J.size ≤ 252 := by rw [← size_toList, hJ]; omega
          have HJJ := Lib.hid hJ
          have HLM := Lib.hid (show lens d.args ≤ 1000000 by have := lens_40 d.args p3; omega)
          have HLN := Lib.hid (show d.args.length ≤ 1000000 by omega)
          have HSL := Lib.hid d3
          have HDD := Lib.hid hd
          have hI : (i : Int) < (g.ops.length : Int) := by omega
          have hI' : decide ((i : Int) < (g.ops.length : Int)) = true := decide_eq_true hI
          have n1 : ¬ 9223372036854775807 < ks.size + 3 := by omega
          have n2 : ¬ 9223372036854775807 < ks.size + 3 + d.nm.size := by omega
          have n3 : ¬ 9223372036854775807 < ks.size + 3 + d.nm.size + 1 := by omega
          have n4 : ¬ 9223372036854775807 < ks.size + 3 + d.nm.size + 1 + J.size := by omega
          have n5 : ¬ 9223372036854775807 < ks.size + 3 + d.nm.size + 1 + J.size + 5 := by omega
          have n6 : ¬ 9223372036854775807 < ks.size + 3 + d.nm.size + 1 + J.size + 5 + d.res.size := by omega
          have n7 : ¬ 9223372036854775807 < ks.size + 3 + d.nm.size + 1 + J.size + 5 + d.res.size + 1 := by omega
          clear hc hd d3 hJ p3
          go_wp2_with fail
          go_quiet ((go_at_call 93; exact Calls.quiet_of_same (joined_eq A' c' d.args.length d.args J w.heap.size _ rfl (HSL.out) HLM.out HLN.out HJJ.out)))
          go_wp2_with fail
          go_roundw
          case rel =>
            refine ⟨i + 1, _, by go_num, rfl, hlt, ?_, below_drewN H1.out.1 _, H1.out.2⟩
            have h := HJ.out
            rw [List.take_add_one, HDD.out, List.flatMap_append, ← List.append_assoc, ← h]
            simp [opTxt, ByteArray.data_append, Array.toList_append, HJJ.out]
          case measure => simp [intOf]; omega
        · have hkl : i = g.ops.length := by omega
          have HE : Hid (ks = ⟨(sigTxt g).toArray⟩) := Lib.hid (toList_inj (by have := HJ.out; rw [hkl, List.take_length] at this; rw [this]; unfold sigTxt; simp))
          have hI : ¬ (i : Int) < (g.ops.length : Int) := by omega
          have hI' : decide ((i : Int) < (g.ops.length : Int)) = false := decide_eq_false hI
          clear hkl
          go_wp2_with fail
          go_ret
          exact ⟨by rw [HE.out]; rfl, H1.out.1⟩

/-! ### SameSignature on equal signatures -/
/-- What the loop of SameSignature keeps: the boxes of both. -/
def SGInv (g : Sg) (A1 : Option Addr) (c1 : Nat) (A2 : Option Addr) (c2 : Nat) (B1 : Option Addr) (d1 : Nat) (B2 : Option Addr) (d2 : Nat) (w wr : World) : Prop :=
  Below w.heap.size w wr ∧ wr.heap[w.heap.size]? = some (.cells (gcells g A1 c1 A2 c2) 82 (0, 0)) ∧ wr.heap[w.heap.size + 1]? = some (.cells (gcells g B1 d1 B2 d2) 82 (0, 0))

set_option maxHeartbeats 8000000 in
theorem sameSig_any (g : Sg) (A1 : Option Addr) (c1 : Nat) (A2 : Option Addr) (c2 : Nat) (B1 : Option Addr) (d1 : Nat) (B2 : Option Addr) (d2 : Nat) (w : World) (hs : SlS w.heap.size w A1 g.sorts) (hd : SlD w.heap.size w A2 g.ops) (ht : SlS w.heap.size w B1 g.sorts) (he : SlD w.heap.size w B2 g.ops)
    (hm : g.sorts.length ≤ 1000000 ∧ g.ops.length ≤ 1000000 ∧ ∀ d, d ∈ g.ops → d.args.length ≤ 1000000) :
    Calls Tryd.prog 48 #[GV g A1 c1 A2 c2, GV g B1 d1 B2 d2] w fun e w' => e = .returned (.bool true) ∧ Below w.heap.size w w' := by
  have hB : Below w.heap.size w ((w.alloc (.cells (gcells g A1 c1 A2 c2) 82)).alloc (.cells (gcells g B1 d1 B2 d2) 82)) := ((Below.refl _ _).alloc (Nat.le_refl _) _).alloc (by simp) _
  have hx := (Below.heap_alloc (w.alloc (.cells (gcells g A1 c1 A2 c2) 82)) (.cells (gcells g B1 d1 B2 d2) 82) w.heap.size (by simp)).trans (heap_alloc_new w (.cells (gcells g A1 c1 A2 c2) 82))
  have hy := heap_alloc_new (w.alloc (.cells (gcells g A1 c1 A2 c2) 82)) (.cells (gcells g B1 d1 B2 d2) 82)
  rw [World.size_alloc] at hy
  have H0 : Hid (SGInv g A1 c1 A2 c2 B1 d1 B2 d2 w ((w.alloc (.cells (gcells g A1 c1 A2 c2) 82)).alloc (.cells (gcells g B1 d1 B2 d2) 82))) := Lib.hid ⟨hB, hx, hy⟩
  obtain ⟨⟨x0, x1⟩, _⟩ := blk2 hx
  obtain ⟨⟨y0, y1⟩, _⟩ := blk2 hy
  have HS := Lib.hid hs
  have HD := Lib.hid hd
  have HT := Lib.hid ht
  have HE := Lib.hid he
  have HM := Lib.hid hm
  have hm2 := hm.2.1
  clear hs hd ht he hB hx hy hm
  unfold GV
  go_enter Tryd.func48, Tryd.ntmps48
  go_upto_region 1 with fail
  generalize (w.alloc (.cells #[.slice A1 g.sorts.length c1, .slice A2 g.ops.length c2] 82)).alloc (.cells #[.slice B1 g.sorts.length d1, .slice B2 g.ops.length d2] 82) = W0 at H0 x0 x1 y0 y1 ⊢
  have HC := Lib.hid (sameNames_any A1 B1 c1 d1 g.sorts _ W0 HM.out.1 (HS.out.later H0.out.1) (HT.out.later H0.out.1))
  go_wp2_with fail
  refine HC.out.mono ?_
  rintro e w1 ⟨rfl, q, rfl⟩
  have H1 : Hid (SGInv g A1 c1 A2 c2 B1 d1 B2 d2 w (W0.drewN q)) := Lib.hid ⟨below_drewN H0.out.1 _, H0.out.2⟩
  clear H0 HC
  go_wp2_with fail
  clear x0 x1 y0 y1
  go_loopw [5] (fun y wr => ∃ k : Nat, y = .int .i64 k ∧ k ≤ g.ops.length ∧ SGInv g A1 c1 A2 c2 B1 d1 B2 d2 w wr) (fun y _ => g.ops.length - (intOf y).toNat)
  case atStart => exact ⟨0, rfl, Nat.zero_le _, H1.out⟩
  case round =>
    clear H1
    obtain ⟨k, rfl, hk, hv⟩ := hrel
    have H1 := Lib.hid hv
    obtain ⟨⟨x0, x1⟩, _⟩ := blk2 hv.2.1
    obtain ⟨⟨y0, y1⟩, _⟩ := blk2 hv.2.2
    clear hv
    by_cases hlt : k < g.ops.length
    · obtain ⟨d, hd⟩ : ∃ d, g.ops[k]? = some d := ⟨g.ops[k]'hlt, List.getElem?_eq_getElem _⟩
      obtain ⟨b, off, rfl, hbl, hc⟩ := (HD.out.later H1.out.1) (by omega)
      obtain ⟨A', c', p0, p1, p2, p3⟩ := hc k d hd
      obtain ⟨b', off', rfl, hbl', hc'⟩ := (HE.out.later H1.out.1) (by omega)
      obtain ⟨A'', c'', q0, q1, q2, q3⟩ := hc' k d hd
      have HSL := Lib.hid p3
      have HSR := Lib.hid q3
      have HLM := Lib.hid (HM.out.2.2 d (List.mem_of_getElem? hd))
      have hI : (k : Int) < (g.ops.length : Int) := by omega
      have hI' : decide ((k : Int) < (g.ops.length : Int)) = true := decide_eq_true hI
      clear hc hc' hd p3 q3
      go_wp2_with fail
      go_quiet ((go_at_call 101; exact Calls.quiet_of (sameNames_any A' A'' c' c'' d.args w.heap.size _ HLM.out HSL.out HSR.out)))
      go_wp2_with fail
      go_roundw
      case rel => exact ⟨k + 1, by go_num, hlt, below_drewN H1.out.1 _, H1.out.2⟩
      case measure => simp [intOf]; omega
    · have hI : ¬ (k : Int) < (g.ops.length : Int) := by omega
      have hI' : decide ((k : Int) < (g.ops.length : Int)) = false := decide_eq_false hI
      go_wp2_with fail
      go_ret
      exact ⟨rfl, H1.out.1⟩
end Go.Proofs.YthbcfcbonmphfaaDoor
namespace Go.Proofs.YthbcfcbonmphfaaDoor
open Go.RowKit Go.WideShapes Go.ChangeShapes

section
variable {H : Type} {enc : TypeId × Value → H} {P : Program}
/-- The arguments read again behind a call that left what was there. -/
theorem trodAll_below (hl : laidOutB P = true) {W W' : World} (hb : Below W.heap.size W W') {sp : Nat → Bool} : ∀ {ts : List TypeId} {vs : List Value} {ds : List (DataW H)} {ps : List MemPlace},
    (∀ t ∈ ts, P.readableRec t = true ∧ t < P.types.size) → DataW.TrodAll enc P W 0 (fun _ => true) true ts vs ds ps → (∀ x ∈ ps, x.block < W.heap.size) → (∀ x ∈ ps, sp x.block = true) → DataW.TrodAll enc P W' 0 sp true ts vs ds ps
  | [], [], [], _, _, h, _, _ => h
  | [], _ :: _, _, _, _, h, _, _ => h.elim
  | [], [], _ :: _, _, _, h, _, _ => h.elim
  | _ :: _, [], _, _, _, h, _, _ => h.elim
  | _ :: _, _ :: _, [], _, _, h, _, _ => h.elim
  | t :: ts, v :: vs, d :: ds, ps, hr, h, hlt, hsp => by
    obtain ⟨p, q, h1, h2, rfl⟩ := h
    have ht := hr t (List.mem_cons_self ..)
    exact ⟨p, q, WideElems.Trod_stays hl ht.1 ht.2 h1 (fun x hx => hb.same (hlt x (List.mem_append_left _ hx))) (fun x hx => hsp x (List.mem_append_left _ hx)),
      trodAll_below hl hb (fun t ht => hr t (List.mem_cons_of_mem _ ht)) h2 (fun x hx => hlt x (List.mem_append_right _ hx)) (fun x hx => hsp x (List.mem_append_right _ hx)), rfl⟩

theorem law_post {f : Func} {s : ChangeSpec} {apart fresh handsOn : Bool} {W W' : World} {args : Array Value} {ds gs : List (DataW H)} {before : List MemPlace} {tb : TypeId}
    (hl : laidOutB P = true) (hr : ∀ t ∈ f.params.toList, P.readableRec t = true ∧ t < P.types.size) (hb4 : P.underlying tb = some .bool) (hres : f.resultTypes = #[tb]) (hvars : s.vars = [])
    (hs : s.fn H (ds ++ []) = { results := [.lit (.bool true)], args := ds })
    (hW : DataW.Whole enc P f.params.toList s.vars apart W args.toList ds gs before) (hb : Below W.heap.size W W') : s.post enc P f apart fresh handsOn false W args (.bool true) W' := by
  have hlt : ∀ p ∈ before, p.block < W.heap.size := fun p hp => hW.lt p hp
  obtain ⟨p, q, hA, hV, rfl, hz, hn⟩ := id hW
  rw [hvars] at hV
  obtain ⟨rfl, rfl⟩ : gs = [] ∧ q = [] := by
    cases gs with
    | nil => exact ⟨rfl, hV⟩
    | cons g r => exact absurd hV (by intro h; cases h)
  rw [List.append_nil] at hlt
  have hold : ∀ x ∈ p, (fun b => decide (b < W.heap.size)) x.block = true := fun x hx => by simpa using hlt x hx
  refine ⟨ds, [], p ++ [], [], p, [], hW, ?_, ?_, ?_, World.keptBut_mono (fun x hx => ⟨hx, ?_⟩) (hb.frame (· ∈ p ++ [])), fun h => by cases h⟩
  · rw [hs, hres]
    exact trodAll_mk1 (shut_bool hb4 true)
  · rw [hs]
    exact trodAll_below hl hb hr hA hlt hold
  · rw [hs, hvars]; rfl
  · rw [List.append_nil] at hx
    exact Or.inr (by simpa using hx)
end
end Go.Proofs.YthbcfcbonmphfaaDoor
