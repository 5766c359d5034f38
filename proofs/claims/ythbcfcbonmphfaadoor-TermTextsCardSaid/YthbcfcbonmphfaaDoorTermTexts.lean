/- TermTexts: whatever the term and the text, the law answers true and leaves them as they were. -/
import Derived.StillTailTactics
import Derived.Test.YthbcfcbonmphfaaDoorTermBk
import Derived.Test.YthbcfcbonmphfaaDoorTermVarsW
import Derived.Test.YthbcfcbonmphfaaDoorTokB
import Derived.Deep.RegionWith
import Derived.Test.YthbcfcbonmphfaaDoorTermU
import Derived.Test.YthbcfcbonmphfaaDoorTermPath
import Derived.Test.YthbcfcbonmphfaaDoorTermTx
import Derived.Test.YthbcfcbonmphfaaDoorLexNames
import Derived.Test.YthbcfcbonmphfaaDoorTermOpen
namespace Go.Proofs.YthbcfcbonmphfaaDoor
open Go.RowKit Go.Shelf
set_option maxRecDepth 100000

set_option maxHeartbeats 4000000 in
theorem refParse_full (s : ByteArray) (w : World) (hbig : 65536 < s.size) : Calls Tryd.prog 42 #[.string s] w (ParsePost s w) := by
  have H0 := Lib.hid (RW.start w)
  · have HT := Lib.hid (refTokens_full s ((w.alloc (.cells #[.string ⟨#[]⟩, .string ⟨#[]⟩, .slice none 0 0] 56)).alloc (.cells #[.int .i64 0, .int .i64 0] 23)) hbig)
    have HBIG := Lib.hid hbig
    clear hbig
    go_enter Tryd.func42, Tryd.ntmps42
    go_wp2_with fail
    refine HT.out.mono ?_
    rintro e w1 ⟨rfl, hb1⟩
    have H1 := Lib.hid (H0.out.next hb1)
    have H2 := Lib.hid (H1.out.next ((Below.refl _ _).alloc (Nat.le_refl _) (.cells #[.int .i64 0, .int .i64 0] 23)))
    have hs1 := hb1.size
    simp at hs1
    have hlt0 : w.heap.size < w1.heap.size := by omega
    have hlt1 : w.heap.size + 1 < w1.heap.size := by omega
    clear hb1 HT
    go_wp2_with fail
    have r0 := heap_alloc_new w1 (.cells #[.int .i64 0, .int .i64 0] 23)
    have H6 := H2.out
    clear H2
    generalize (w1.alloc (.cells #[.int .i64 0, .int .i64 0] 23)) = W5 at r0 H6 ⊢
    obtain ⟨⟨p0, p1⟩, pf0, pf1⟩ := blk2 r0
    obtain ⟨⟨x0, x1, x2⟩, xf0, xf1, xf2⟩ := blk3 H6.c0
    obtain ⟨⟨y0, y1⟩, yf0, yf1⟩ := blk2 H6.c1
    have HB6 := Lib.hid H6.below
    clear r0 H6
    go_region
    all_goals
      go_wp2
      refine bodyPost_ret (v := .tuple #[TV0, .agg #[.int .i64 0, .int .i64 0], .int .i64 4]) (by simp [results, Tryd.results42, go_sem, x0, x1, x2, y0, y1, TV0, hlt0, hlt1, World.size_setCell]) rfl ?_
      refine ⟨?_, .inl ⟨HBIG.out, rfl⟩⟩
      (repeat' (first | exact HB6.out | refine Below.drew ?_ | refine Below.setCell ?_ (by simp) _ | refine Below.alloc ?_ (by simp <;> omega) _))
set_option maxHeartbeats 4000000 in
theorem refParse_err (s : ByteArray) (w : World) (hle : s.size ≤ 65536) (p : Int × Int) (htk : toks s.data.toList 1 1 = .error p) : Calls Tryd.prog 42 #[.string s] w (ParsePost s w) := by
  have H0 := Lib.hid (RW.start w)
  · have HS : Hid (s.size ≤ 65536) := Lib.hid (by omega)
    have HT := Lib.hid (refTokens_any s ((w.alloc (.cells #[.string ⟨#[]⟩, .string ⟨#[]⟩, .slice none 0 0] 56)).alloc (.cells #[.int .i64 0, .int .i64 0] 23)) (by omega))
    clear hle
    go_enter Tryd.func42, Tryd.ntmps42
    go_wp2_with fail
    refine HT.out.mono ?_
    rintro e w1 ⟨hb1, hT⟩
    have H1 := Lib.hid (H0.out.next hb1)
    have H2 := Lib.hid (H1.out.next ((Below.refl _ _).alloc (Nat.le_refl _) (.cells #[.int .i64 0, .int .i64 0] 23)))
    have hs1' := hb1.size
    simp at hs1'
    have hlt0 : w.heap.size < w1.heap.size := by omega
    have hlt1 : w.heap.size + 1 < w1.heap.size := by omega
    clear HT
    rw [htk] at hT
    simp only at hT
    subst hT
    have HTK := Lib.hid htk
    have H3 := Lib.hid (H1.out.next ((Below.refl _ _).alloc (Nat.le_refl _) (.cells #[.int .i64 p.1, .int .i64 p.2] 23)))
    clear htk hb1
    go_wp2_with fail
    have r0 := heap_alloc_new w1 (.cells #[.int .i64 p.1, .int .i64 p.2] 23)
    have H6 := H3.out
    clear H2 H3
    generalize (w1.alloc (.cells #[.int .i64 p.1, .int .i64 p.2] 23)) = W5 at r0 H6 ⊢
    obtain ⟨⟨p0, p1⟩, pf0, pf1⟩ := blk2 r0
    obtain ⟨⟨x0, x1, x2⟩, xf0, xf1, xf2⟩ := blk3 H6.c0
    obtain ⟨⟨y0, y1⟩, yf0, yf1⟩ := blk2 H6.c1
    have HB6 := Lib.hid H6.below
    clear r0 H6
    go_region
    all_goals
      go_wp2
      refine bodyPost_ret (v := .tuple #[TV0, .agg #[.int .i64 p.1, .int .i64 p.2], .int .i64 7]) (by simp [results, Tryd.results42, go_sem, x0, x1, x2, y0, y1, TV0, hlt0, hlt1, World.size_setCell]) rfl ?_
      refine ⟨?_, .inr (.inl ⟨HS.out, p, HTK.out, rfl⟩)⟩
      (repeat' (first | exact HB6.out | refine Below.drew ?_ | refine Below.setCell ?_ (by simp) _ | refine Below.alloc ?_ (by simp <;> omega) _))
end Go.Proofs.YthbcfcbonmphfaaDoor

/- TermPs: The reference's Parse, where the text has tokens. -/namespace Go.Proofs.YthbcfcbonmphfaaDoor
open Go.RowKit Go.Shelf
set_option maxRecDepth 100000

theorem wrongK_fE (x : Tk) : wrongK x = fE x := rfl
theorem small_nmd {t : Tm} (h : Nmd t) : decide (small t 1 1000 < 0) = !fitsL (t.pre 1) := by
  rw [small_formed, nmd_all h, Bool.and_true]
theorem formed_nmd2 {t : Tm} (h : Nmd t) (hf : fitsL (t.pre 1) = true) : formed t = agreeL (t.pre 1) := by
  unfold formed
  rw [nmd_all h, hf]; simp
theorem tlen_mem2 : ∀ {L : List Tk} {x : Tk}, x ∈ L → x.t.length ≤ tlen L
  | [], x, h => by cases h
  | y :: L, x, h => by
    unfold tlen
    rcases List.mem_cons.1 h with rfl | h
    · omega
    · have := tlen_mem2 h; omega

set_option maxHeartbeats 8000000 in
theorem refParse_ok (s : ByteArray) (w : World) (hle : s.size ≤ 65536) (L : List Tk) (htk : toks s.data.toList 1 1 = .ok L) : Calls Tryd.prog 42 #[.string s] w (ParsePost s w) := by
  have H0 := Lib.hid (RW.start w)
  have HS : Hid (s.size ≤ 65536) := Lib.hid hle
  have HT := Lib.hid (refTokens_any s ((w.alloc (.cells #[.string ⟨#[]⟩, .string ⟨#[]⟩, .slice none 0 0] 56)).alloc (.cells #[.int .i64 0, .int .i64 0] 23)) (by omega))
  clear hle
  go_enter Tryd.func42, Tryd.ntmps42
  go_wp2_with fail
  refine HT.out.mono ?_
  rintro e w1 ⟨hb1, hT⟩
  have H1 := Lib.hid (H0.out.next hb1)
  have H2 := Lib.hid (H1.out.next ((Below.refl _ _).alloc (Nat.le_refl _) (.cells #[.int .i64 0, .int .i64 0] 23)))
  have hs1 := hb1.size
  simp at hs1
  clear HT
  rw [htk] at hT
  simp only at hT
  obtain ⟨v, rfl, ho⟩ := hT
  obtain ⟨hval, _, hends, htl, hln⟩ := toks_places _ _ htk
  have hek := ends_k hends
  have hne : 0 < L.length := by obtain ⟨a, b, e⟩ := hek.ne; rw [e]; simp
  obtain ⟨g, c, rfl, hc1, hc2, hg, htat⟩ := pb_of_own ho hne
  rw [size_toList] at hln htl
  have hLn : L.length ≤ 65537 := by have := HS.out; omega
  have HVT : Hid (Vt L) := Lib.hid hval
  have HTL := Lib.hid htl
  have HTK := Lib.hid htk
  have hb2 : Below w1.heap.size w1 (w1.alloc (.cells #[.int .i64 0, .int .i64 0] 23)) := (Below.refl _ _).alloc (Nat.le_refl _) _
  have HTA := Lib.hid (show TkAt (w1.alloc (.cells #[.int .i64 0, .int .i64 0] 23)) g 0 L from fun i u hu => tk_at hb2 htat hg hu)
  have HPD := Lib.hid (Parsed_any L g 0 c (by omega) L.length 0 (w1.alloc (.cells #[.int .i64 0, .int .i64 0] 23)) (by omega) HTA.out (by simp; omega) (by rw [List.drop_zero]; exact hek))
  unfold PdOk at HPD
  have hg2 : g < w1.heap.size + 1 := by omega
  have hsW : (w1.alloc (.cells #[.int .i64 0, .int .i64 0] 23)).heap.size = w1.heap.size + 1 := by simp
  have HSW := Lib.hid hsW
  clear htk hb1 ho hval hends htl hek htat hc1 hc2 hne hb2 hsW
  go_wp2_with fail
  refine HPD.out.mono ?_
  rintro e w3 ⟨hb3, k', _, hk', he3, hcase⟩
  have hs3 := hb3.size
  rw [HSW.out] at hs3
  have H3 := Lib.hid (H2.out.next hb3)
  have HB3 := Lib.hid hb3
  have HE3 := Lib.hid he3
  obtain ⟨y, hy, _, hdy⟩ := ends_at he3
  have HY := Lib.hid hy
  have HDY := Lib.hid hdy
  clear hb3 he3 HPD hy hdy
  have hkI : (k' : Int) < (L.length : Int) := by omega
  rcases hcase with ⟨t, A, ct, _, hpt, rfl, htx⟩ | ⟨hpt, rfl⟩
  · have HPT := Lib.hid (show PT L (some t) (y :: L.drop (k' + 1)) by rw [← HDY.out]; rw [List.drop_zero] at hpt; exact hpt)
    have HTX := Lib.hid htx
    clear hpt htx
    have hb4 : Below w3.heap.size w3 (w3.alloc (.cells (tcells t A ct) 56)) := (Below.refl _ _).alloc (Nat.le_refl _) _
    have H4 := Lib.hid (H3.out.next hb4)
    have hbt := heap_alloc_new w3 (.cells (tcells t A ct) 56)
    have HB4 := Lib.hid (HB3.out.trans (hb4.mono HB3.out.size))
    have hta4 : TkAt (w3.alloc (.cells (tcells t A ct) 56)) g 0 L := fun i u hu => tk_at HB4.out HTA.out (by rw [HSW.out]; exact hg2) hu
    have htx4 : TX (fun b => w1.heap.size + 1 ≤ b ∧ b < w3.heap.size) (w3.alloc (.cells (tcells t A ct) 56)) t A := (HTX.out.imp (fun b hb => ⟨by have := hb.1; rw [HSW.out] at this; exact this, hb.2⟩)).keep (fun b hb => hb4.block b hb.2)
    have hs4 : (w3.alloc (.cells (tcells t A ct) 56)).heap.size = w3.heap.size + 1 := by simp
    unfold TV
    go_upto_region 5 with fail
    generalize w3.alloc (.cells (tcells t A ct) 56) = W4 at H4 hbt HB4 hta4 htx4 hs4 ⊢
    have HBT := Lib.hid hbt
    have HTX4 := Lib.hid htx4
    have hs4a := Nat.le_of_eq hs4
    have hs4b := Nat.le_of_eq hs4.symm
    obtain ⟨x0, x1, x2, x3, x4⟩ := hta4 k' y HY.out
    rw [Nat.zero_add] at x0 x1 x2 x3 x4
    clear hbt htx4 hs4 hta4 hb4
    by_cases hk : y.k = 5
    · have hkb : (y.k != 5) = false := by rw [hk]; rfl
      have HK := Lib.hid hk
      clear hk
      obtain ⟨hok, hsz⟩ := (PT_ok (M := 65537) HPT.out (fun z hz => Nat.le_trans (tlen_mem2 hz) (by have := HTL.out; have := HS.out; omega)) hLn).2 t rfl
      have HNM := Lib.hid ((PT_nmd HPT.out HVT.out).2 t rfl)
      have HOK := Lib.hid (hok.mono (m' := maxLen) (by unfold maxLen; omega))
      have HREP : Hid (TRep W4.heap.size W4 t A) := Lib.hid (HTX4.out.rep (fun b hb => by have := hb.2; omega))
      have HC := Lib.hid (Small_any t A ct W4.heap.size 1 1000 W4 HREP.out (Nat.le_refl _) HOK.out (by omega) (by omega) (by omega))
      unfold TV at HC
      obtain ⟨⟨b0, b1, b2⟩, _⟩ := blk3 HBT.out
      clear hok hsz
      go_wp2_with fail
      refine HC.out.mono ?_
      rintro e w5 ⟨rfl, hb5⟩
      have H5 := Lib.hid (H4.out.next hb5)
      have HBT5 := Lib.hid (cells_below HBT.out hb5)
      have HTX5 := Lib.hid (HTX4.out.keep (fun b hb => hb5.block b (by have := hb.2; omega)))
      have HREP5 := Lib.hid ((HREP.out.later hb5).mono hb5.size)
      have hs5 := hb5.size
      have hsm := small_nmd HNM.out
      clear hb5 HC b0 b1 b2 x0 x1 x2 x3 x4
      cases hf : fitsL (t.pre 1)
      · rw [hf] at hsm
        have HF := Lib.hid hf
        have hsm2 : decide (small t 1 1000 < 0) = true := hsm
        obtain ⟨⟨r0, r1, r2⟩, rf0, rf1, rf2⟩ := blk3 H5.out.c0
        obtain ⟨⟨q0, q1⟩, qf0, qf1⟩ := blk2 H5.out.c1
        clear hf hsm
        go_wp2_with fail
        refine bodyPost_ret (v := .tuple #[TV0, .agg #[.int .i64 0, .int .i64 0], .int .i64 4]) (by simp [results, Tryd.results42, go_sem, r0, r1, r2, q0, q1, TV0]) rfl ?_
        refine ⟨?_, .inr (.inr (.inr ⟨HS.out, L, t, y, _, HTK.out, HPT.out, HK.out, .inl ⟨HF.out, rfl⟩⟩))⟩
        (repeat' (first | refine Below.drew ?_ | refine Below.setCell ?_ (by simp) _ | exact H5.out.below))
      · rw [hf] at hsm
        have HF := Lib.hid hf
        have hsm2 : decide (small t 1 1000 < 0) = false := hsm
        have hfa := formed_nmd2 HNM.out hf
        obtain ⟨⟨b0, b1, b2⟩, _⟩ := blk3 HBT5.out
        have HC := Lib.hid (formed_any t A ct w5.heap.size w5 HREP5.out (Nat.le_refl _) HOK.out)
        rw [hfa] at HC
        unfold TV at HC
        clear hf hsm hfa
        go_wp2_with fail
        refine HC.out.mono ?_
        rintro e w6 ⟨rfl, hb6⟩
        have H6 := Lib.hid (H5.out.next hb6)
        have HBT6 := Lib.hid (cells_below HBT5.out hb6)
        have HTX6 := Lib.hid (HTX5.out.keep (fun b hb => hb6.block b (by have := hb.2; omega)))
        have hs6 := hb6.size
        clear hb6 HC b0 b1 b2 hsm2
        obtain ⟨⟨r0, r1, r2⟩, rf0, rf1, rf2⟩ := blk3 H6.out.c0
        obtain ⟨⟨q0, q1⟩, qf0, qf1⟩ := blk2 H6.out.c1
        obtain ⟨⟨b0, b1, b2⟩, _⟩ := blk3 HBT6.out
        generalize hg : agreeL (t.pre 1) = ag
        have HAG := Lib.hid hg
        clear hg
        cases ag
        · go_wp2_with fail
          refine bodyPost_ret (v := .tuple #[TV0, .agg #[.int .i64 0, .int .i64 0], .int .i64 11]) (by simp [results, Tryd.results42, go_sem, r0, r1, r2, q0, q1, TV0]) rfl ?_
          refine ⟨?_, .inr (.inr (.inr ⟨HS.out, L, t, y, _, HTK.out, HPT.out, HK.out, .inr (.inl ⟨HF.out, HAG.out, rfl⟩)⟩))⟩
          (repeat' (first | refine Below.drew ?_ | refine Below.setCell ?_ (by simp) _ | exact H6.out.below))
        · go_wp2_with fail
          refine bodyPost_ret (v := .tuple #[TV t A ct, .agg #[.int .i64 0, .int .i64 0], .int .i64 0]) (by simp [results, Tryd.results42, go_sem, r0, r1, r2, q0, q1, TV]) rfl ?_
          refine ⟨?_, .inr (.inr (.inr ⟨HS.out, L, t, y, _, HTK.out, HPT.out, HK.out, .inr (.inr ⟨HF.out, HAG.out, A, ct, rfl, ?_⟩)⟩))⟩
          · (repeat' (first | refine Below.drew ?_ | refine Below.setCell ?_ (by simp) _ | exact H6.out.below))
          · refine (HTX6.out.keep (fun b hb => ?_)).imp (fun b hb => ⟨by have := hb.1; omega, by have := hb.2; simp; omega⟩)
            have h1 := hb.1
            refine (Below.heap_setCell _ _ _ _ (by simp; omega)).trans ((Below.heap_setCell _ _ _ _ (by simp; omega)).trans ((Below.heap_setCell _ _ _ _ (by simp; omega)).trans ((Below.heap_setCell _ _ _ _ (by simp; omega)).trans (Below.heap_setCell _ _ _ _ (by simp; omega)))))
    · have hkb : (y.k != 5) = true := bne_iff_ne.2 hk
      have HK := Lib.hid hk
      clear hk
      have HW := Lib.hid (Wrong_any y W4.drew)
      unfold tkW at HW
      have HF := Lib.hid (fun (w5 : World) (hb : Below W4.drew.heap.size W4.drew w5) => (show (w5.cell? ⟨g, k' * 5, none⟩ = some (.int .i64 y.k) ∧ w5.cell? ⟨g, k' * 5 + 1, none⟩ = some (.string ⟨y.t.toArray⟩) ∧ w5.cell? ⟨g, k' * 5 + 2, none⟩ = some (.int .i64 y.n) ∧ w5.cell? ⟨g, k' * 5 + 3, none⟩ = some (.int .i64 y.a) ∧ w5.cell? ⟨g, k' * 5 + 4, none⟩ = some (.int .i64 y.b)) ∧ RW w w5 by
        have hb' : Below W4.heap.size W4 w5 := (Below.refl _ _).drew.trans hb
        have hgl : g < W4.heap.size := by omega
        exact ⟨⟨(hb'.cell (p := ⟨g, _, none⟩) hgl).trans x0, (hb'.cell (p := ⟨g, _, none⟩) hgl).trans x1, (hb'.cell (p := ⟨g, _, none⟩) hgl).trans x2, (hb'.cell (p := ⟨g, _, none⟩) hgl).trans x3, (hb'.cell (p := ⟨g, _, none⟩) hgl).trans x4⟩, H4.out.next hb'⟩))
      go_upto_region 6 with fail
      go_region_with (go_at_call 90; refine HW.out.mono ?_; rintro e w5 ⟨rfl, hb5⟩; obtain ⟨⟨z0, z1, z2, z3, z4⟩, H5⟩ := HF.out w5 hb5; obtain ⟨⟨r0, r1, r2⟩, rf0, rf1, rf2⟩ := blk3 H5.c0; obtain ⟨⟨q0, q1⟩, qf0, qf1⟩ := blk2 H5.c1; have HH5 := Lib.hid H5.below; clear H5 hb5)
      all_goals
        go_wp2_with fail
        refine bodyPost_ret (v := .tuple #[TV0, .agg #[.int .i64 y.a, .int .i64 y.b], .int .i64 (fE y)]) (by simp [results, Tryd.results42, go_sem, r0, r1, r2, q0, q1, TV0, wrongK_fE]) rfl ?_
        refine ⟨?_, .inr (.inr (.inl ⟨HS.out, L, some t, y, _, HTK.out, HPT.out, .inr HK.out, rfl⟩))⟩
        (repeat' (first | refine Below.drew ?_ | refine Below.setCell ?_ (by simp) _ | exact HH5.out))
  · have HPT := Lib.hid (show PT L none (y :: L.drop (k' + 1)) by rw [← HDY.out]; rw [List.drop_zero] at hpt; exact hpt)
    have hb4 : Below w3.heap.size w3 (w3.alloc (.cells #[.string ⟨#[]⟩, .string ⟨#[]⟩, .slice none 0 0] 56)) := (Below.refl _ _).alloc (Nat.le_refl _) _
    have H4 := Lib.hid (H3.out.next hb4)
    have HB4 := Lib.hid (HB3.out.trans (hb4.mono HB3.out.size))
    have hta4 : TkAt (w3.alloc (.cells #[.string ⟨#[]⟩, .string ⟨#[]⟩, .slice none 0 0] 56)) g 0 L := fun i u hu => tk_at HB4.out HTA.out (by rw [HSW.out]; exact hg2) hu
    clear hpt hb4
    unfold TV0
    go_upto_region 6 with fail
    generalize w3.alloc (.cells #[.string ⟨#[]⟩, .string ⟨#[]⟩, .slice none 0 0] 56) = W4 at H4 HB4 hta4 ⊢
    obtain ⟨x0, x1, x2, x3, x4⟩ := hta4 k' y HY.out
    rw [Nat.zero_add] at x0 x1 x2 x3 x4
    have HW := Lib.hid (Wrong_any y W4.drew)
    unfold tkW at HW
    have hgW : g < W4.heap.size := by have := HB4.out.size; rw [HSW.out] at this; omega
    have HF := Lib.hid (fun (w5 : World) (hb : Below W4.drew.heap.size W4.drew w5) => (show (w5.cell? ⟨g, k' * 5, none⟩ = some (.int .i64 y.k) ∧ w5.cell? ⟨g, k' * 5 + 1, none⟩ = some (.string ⟨y.t.toArray⟩) ∧ w5.cell? ⟨g, k' * 5 + 2, none⟩ = some (.int .i64 y.n) ∧ w5.cell? ⟨g, k' * 5 + 3, none⟩ = some (.int .i64 y.a) ∧ w5.cell? ⟨g, k' * 5 + 4, none⟩ = some (.int .i64 y.b)) ∧ RW w w5 by
      have hb' : Below W4.heap.size W4 w5 := (Below.refl _ _).drew.trans hb
      exact ⟨⟨(hb'.cell (p := ⟨g, _, none⟩) hgW).trans x0, (hb'.cell (p := ⟨g, _, none⟩) hgW).trans x1, (hb'.cell (p := ⟨g, _, none⟩) hgW).trans x2, (hb'.cell (p := ⟨g, _, none⟩) hgW).trans x3, (hb'.cell (p := ⟨g, _, none⟩) hgW).trans x4⟩, H4.out.next hb'⟩))
    clear hta4
    go_region_with (go_at_call 90; refine HW.out.mono ?_; rintro e w5 ⟨rfl, hb5⟩; obtain ⟨⟨z0, z1, z2, z3, z4⟩, H5⟩ := HF.out w5 hb5; obtain ⟨⟨r0, r1, r2⟩, rf0, rf1, rf2⟩ := blk3 H5.c0; obtain ⟨⟨q0, q1⟩, qf0, qf1⟩ := blk2 H5.c1; have HH5 := Lib.hid H5.below; clear H5 hb5)
    all_goals
      go_wp2_with fail
      refine bodyPost_ret (v := .tuple #[TV0, .agg #[.int .i64 y.a, .int .i64 y.b], .int .i64 (fE y)]) (by simp [results, Tryd.results42, go_sem, r0, r1, r2, q0, q1, TV0, wrongK_fE]) rfl ?_
      refine ⟨?_, .inr (.inr (.inl ⟨HS.out, L, none, y, _, HTK.out, HPT.out, .inl rfl, rfl⟩))⟩
      (repeat' (first | refine Below.drew ?_ | refine Below.setCell ?_ (by simp) _ | exact HH5.out))
end Go.Proofs.YthbcfcbonmphfaaDoor

/- TermTt: What is parsed, as data; both Parse at every text. -/namespace Go.Proofs.YthbcfcbonmphfaaDoor
open Go.RowKit Go.Shelf
set_option maxRecDepth 100000

theorem Parse_all (s : ByteArray) (w : World) (hp : Pairs w) : Calls Tryd.prog 41 #[.string s] w (ParsePost s w) := by
  by_cases hb : 65536 < s.size
  · exact Parse_full s w hb hp
  · cases ht : toks s.data.toList 1 1 with
    | error p => exact Parse_err s w (by omega) hp p ht
    | ok L => exact Parse_ok s w (by omega) hp L ht
theorem refParse_all (s : ByteArray) (w : World) : Calls Tryd.prog 42 #[.string s] w (ParsePost s w) := by
  by_cases hb : 65536 < s.size
  · exact refParse_full s w hb
  · cases ht : toks s.data.toList 1 1 with
    | error p => exact refParse_err s w (by omega) p ht
    | ok L => exact refParse_ok s w (by omega) L ht
/-- What is parsed. -/
def PR (s : ByteArray) (T : Tm) (a b er : Int) : Prop :=
  (65536 < s.size ∧ T = tm0 ∧ a = 0 ∧ b = 0 ∧ er = 4) ∨
  (s.size ≤ 65536 ∧ ∃ p, toks s.data.toList 1 1 = .error p ∧ T = tm0 ∧ a = p.1 ∧ b = p.2 ∧ er = 7) ∨
  (s.size ≤ 65536 ∧ ∃ L r x l', toks s.data.toList 1 1 = .ok L ∧ PT L r (x :: l') ∧ (r = none ∨ x.k ≠ 5) ∧ T = tm0 ∧ a = x.a ∧ b = x.b ∧ er = fE x) ∨
  (s.size ≤ 65536 ∧ ∃ L t x l', toks s.data.toList 1 1 = .ok L ∧ PT L (some t) (x :: l') ∧ x.k = 5 ∧ a = 0 ∧ b = 0 ∧
    ((fitsL (t.pre 1) = false ∧ T = tm0 ∧ er = 4) ∨ (fitsL (t.pre 1) = true ∧ agreeL (t.pre 1) = false ∧ T = tm0 ∧ er = 11) ∨ (fitsL (t.pre 1) = true ∧ agreeL (t.pre 1) = true ∧ T = t ∧ er = 0)))
theorem pr_of {s : ByteArray} {w w' : World} {e : Ending} (h : ParsePost s w e w') :
    ∃ T a b er A c, PR s T a b er ∧ e = .returned (.tuple #[TV T A c, .agg #[.int .i64 a, .int .i64 b], .int .i64 er]) ∧ TRep w'.heap.size w' T A ∧ Below w.heap.size w w' := by
  obtain ⟨hb, h⟩ := h
  rcases h with ⟨h1, rfl⟩ | ⟨h1, p, h2, rfl⟩ | ⟨h1, L, r, x, l', h2, h3, h4, rfl⟩ | ⟨h1, L, t, x, l', h2, h3, h4, h5⟩
  · exact ⟨tm0, 0, 0, 4, none, 0, .inl ⟨h1, rfl, rfl, rfl, rfl⟩, rfl, TRep.leaf _ _ _ _ rfl, hb⟩
  · exact ⟨tm0, p.1, p.2, 7, none, 0, .inr (.inl ⟨h1, p, h2, rfl, rfl, rfl, rfl⟩), rfl, TRep.leaf _ _ _ _ rfl, hb⟩
  · exact ⟨tm0, x.a, x.b, fE x, none, 0, .inr (.inr (.inl ⟨h1, L, r, x, l', h2, h3, h4, rfl, rfl, rfl, rfl⟩)), rfl, TRep.leaf _ _ _ _ rfl, hb⟩
  · rcases h5 with ⟨h6, rfl⟩ | ⟨h6, h7, rfl⟩ | ⟨h6, h7, A, c, rfl, h8⟩
    · exact ⟨tm0, 0, 0, 4, none, 0, .inr (.inr (.inr ⟨h1, L, t, x, l', h2, h3, h4, rfl, rfl, .inl ⟨h6, rfl, rfl⟩⟩)), rfl, TRep.leaf _ _ _ _ rfl, hb⟩
    · exact ⟨tm0, 0, 0, 11, none, 0, .inr (.inr (.inr ⟨h1, L, t, x, l', h2, h3, h4, rfl, rfl, .inr (.inl ⟨h6, h7, rfl, rfl⟩)⟩)), rfl, TRep.leaf _ _ _ _ rfl, hb⟩
    · exact ⟨t, 0, 0, 0, A, c, .inr (.inr (.inr ⟨h1, L, t, x, l', h2, h3, h4, rfl, rfl, .inr (.inr ⟨h6, h7, rfl, rfl⟩)⟩)), rfl, h8.rep (fun b hb => hb.2), hb⟩
theorem pr_one {s : ByteArray} {T T2 : Tm} {a b er a2 b2 er2 : Int} (h : PR s T a b er) (h' : PR s T2 a2 b2 er2) : T = T2 ∧ a = a2 ∧ b = b2 ∧ er = er2 := by
  rcases h with ⟨h1, rfl, rfl, rfl, rfl⟩ | ⟨h1, p, h2, rfl, rfl, rfl, rfl⟩ | ⟨h1, L, r, x, l', h2, h3, h4, rfl, rfl, rfl, rfl⟩ | ⟨h1, L, t, x, l', h2, h3, h4, rfl, rfl, h5⟩ <;>
  rcases h' with ⟨g1, rfl, rfl, rfl, rfl⟩ | ⟨g1, q, g2, rfl, rfl, rfl, rfl⟩ | ⟨g1, M, r', y, m', g2, g3, g4, rfl, rfl, rfl, rfl⟩ | ⟨g1, M, u, y, m', g2, g3, g4, rfl, rfl, g5⟩
  · exact ⟨rfl, rfl, rfl, rfl⟩
  · omega
  · omega
  · omega
  · omega
  · rw [h2] at g2; injection g2 with g2; subst g2; exact ⟨rfl, rfl, rfl, rfl⟩
  · rw [h2] at g2; cases g2
  · rw [h2] at g2; cases g2
  · omega
  · rw [h2] at g2; cases g2
  · rw [h2] at g2
    injection g2 with g2
    subst g2
    obtain ⟨_, e2⟩ := PT_one h3 g3
    injection e2 with e2 e3
    subst e2
    exact ⟨rfl, rfl, rfl, rfl⟩
  · rw [h2] at g2
    injection g2 with g2
    subst g2
    obtain ⟨e1, e2⟩ := PT_one h3 g3
    injection e2 with e2 e3
    subst e2
    rcases h4 with h4 | h4
    · rw [h4] at e1; cases e1
    · exact absurd g4 h4
  · omega
  · rw [h2] at g2; cases g2
  · rw [h2] at g2
    injection g2 with g2
    subst g2
    obtain ⟨e1, e2⟩ := PT_one h3 g3
    injection e2 with e2 e3
    subst e2
    rcases g4 with g4 | g4
    · rw [g4] at e1; cases e1
    · exact absurd h4 g4
  · rw [h2] at g2
    injection g2 with g2
    subst g2
    obtain ⟨e1, _⟩ := PT_one h3 g3
    injection e1 with e1
    subst e1
    rcases h5 with ⟨h6, rfl, rfl⟩ | ⟨h6, h7, rfl, rfl⟩ | ⟨h6, h7, rfl, rfl⟩ <;> rcases g5 with ⟨g6, rfl, rfl⟩ | ⟨g6, g7, rfl, rfl⟩ | ⟨g6, g7, rfl, rfl⟩ <;>
      first | exact ⟨rfl, rfl, rfl, rfl⟩ | (rw [h6] at g6; exact absurd g6 (by decide)) | (rw [h7] at g7; exact absurd g7 (by decide))
theorem okB_nmd (t : Tm) : ∀ d : Nat, Nmd t → (∀ x ∈ t.pre d, fitX x = true) → okB t := by
  induction t using Tm.ind with
  | h nm st ks ih =>
    intro d hn hf
    have htop := hn.top
    have hfx := hf (d, .mk nm st ks) (by simp [Tm.pre])
    unfold fitX at hfx
    rw [Bool.and_eq_true] at hfx
    have hlk : ks.length ≤ 6 := of_decide_eq_true hfx.2
    have hl : ∀ n : ByteArray, isName n.toList = true → n.size ≤ 100 := fun n h => by
      unfold isName at h
      simp at h
      have := h.1.1.1.2
      rw [Lib.toList_data, size_toList] at this
      omega
    have hst : nm.size ≤ 100 ∧ st.size ≤ 100 := by
      cases hv : isV (Tm.mk nm st ks) with
      | true =>
        obtain ⟨h1, h2, _⟩ := named_v htop hv
        exact ⟨hl nm h1, hl st h2⟩
      | false =>
        refine ⟨hl nm (named_o htop hv), ?_⟩
        unfold isV at hv
        have h0 : st.toList = [] := by simpa using hv
        rw [Lib.toList_data] at h0
        rw [← size_toList, h0]; simp
    refine .mk _ _ _ hst.1 hst.2 (by omega) (fun k hk => ih k hk (d + 1) (hn.kid hk) (fun x hx => hf x ?_))
    rw [Tm.pre]
    refine List.mem_cons_of_mem _ ?_
    obtain ⟨i, hi⟩ := List.getElem?_of_mem hk
    rw [pres_at ks i k hi]
    simp [hx]
theorem pr_big {s : ByteArray} {T : Tm} {a b er : Int} (h : PR s T a b er) : okB T ∧ bigL [T] = false := by
  rcases h with ⟨h1, rfl, rfl, rfl, rfl⟩ | ⟨h1, p, h2, rfl, rfl, rfl, rfl⟩ | ⟨h1, L, r, x, l', h2, h3, h4, rfl, rfl, rfl, rfl⟩ | ⟨h1, L, t, x, l', h2, h3, h4, rfl, rfl, ⟨h6, rfl, rfl⟩ | ⟨h6, h7, rfl, rfl⟩ | ⟨h6, h7, rfl, rfl⟩⟩
  · exact ⟨okB0, big0⟩
  · exact ⟨okB0, big0⟩
  · exact ⟨okB0, big0⟩
  · exact ⟨okB0, big0⟩
  · exact ⟨okB0, big0⟩
  · obtain ⟨hval, _⟩ := toks_places _ _ h2
    have hn := (PT_nmd h3 hval).2 _ rfl
    obtain ⟨hd, hz⟩ := fitsL_depth h6
    have hf : ∀ x ∈ T.pre 1, fitX x = true := by
      unfold fitsL at h6
      rw [Bool.and_eq_true, List.all_eq_true] at h6
      exact h6.2
    have ho := okB_nmd T 1 hn hf
    exact ⟨ho, bigL_one ho (by omega) (by omega)⟩
/-- The text of a term is parsed as that term. -/
theorem pr_txt {t : Tm} (hf : formed t = true) (hl : (tmx t).length ≤ 65536) : PR ⟨(tmx t).toArray⟩ t 0 0 0 := by
  obtain ⟨L, x, h1, h2, h3⟩ := read_back (formed_nmd hf)
  have hsz : (⟨(tmx t).toArray⟩ : ByteArray).size ≤ 65536 := by rw [← size_toList]; simpa using hl
  have hfi := formed_fits hf
  have hag : agreeL (t.pre 1) = true := by rw [← formed_nmd2 (formed_nmd hf) hfi]; exact hf
  exact .inr (.inr (.inr ⟨hsz, L, t, x, [], by simpa using h1, h2, h3, rfl, rfl, .inr (.inr ⟨hfi, hag, rfl, rfl⟩)⟩))
end Go.Proofs.YthbcfcbonmphfaaDoor

/- TermTextsW: TermTexts: the law's walk. -/namespace Go.Proofs.YthbcfcbonmphfaaDoor
open Go.RowKit Go.Shelf
set_option maxRecDepth 100000

/-- The boxes of the law. -/
structure QT (t : Tm) (A : Option Addr) (c : Nat) (w w' : World) : Prop where
  below : Below w.heap.size w w'
  bt : BX w' w.heap.size t A c
theorem QT.next {t : Tm} {A : Option Addr} {c : Nat} {w w1 w2 : World} (h : QT t A c w w1) (hb : Below w1.heap.size w1 w2) : QT t A c w w2 := ⟨h.below.trans (hb.mono h.below.size), h.bt.next hb⟩
theorem QT.start (t : Tm) (A : Option Addr) (c : Nat) (w : World) (h : TRep w.heap.size w t A) : QT t A c w (w.alloc (.cells (tcells t A c) 56)) := ⟨(Below.refl _ _).alloc (Nat.le_refl _) _, BX.new w t A c h⟩
/-- A place in a box. -/
structure PX (w : World) (p : Nat) (a b : Int) : Prop where
  out : w.heap[p]? = some (.cells #[.int .i64 a, .int .i64 b] 23 (0, 0))
theorem PX.next {w w' : World} {p : Nat} {a b : Int} (h : PX w p a b) (hb : Below w.heap.size w w') : PX w' p a b := ⟨cells_below h.out hb⟩
theorem PX.new (w : World) (a b : Int) : PX (w.alloc (.cells #[.int .i64 a, .int .i64 b] 23)) w.heap.size a b := ⟨heap_alloc_new _ _⟩
theorem bigOneT_any (a : Tm) (A : Option Addr) (ca : Nat) (w : World) (x : Nat) (h : w.heap[x]? = some (.cells #[.string a.nm, .string a.st, .slice A a.ks.length ca] 56 (0, 0))) (ha : TRep w.heap.size w a A) (hoa : okT maxLen a) :
    Calls Tryd.prog 31 #[.slice (some ⟨x, 0, none⟩) 1 1] w fun e w' => e = .returned (.bool (bigL [a])) ∧ Below w.heap.size w w' :=
  bigTerms_any ⟨#[]⟩ ⟨#[]⟩ [a] (some ⟨x, 0, none⟩) 1 w (trep_one _ _ h (Array.getElem?_eq_some_iff.1 h).1 ha)
    (.mk _ _ _ (Nat.zero_le _) (Nat.zero_le _) (by show 1 ≤ maxLen; unfold maxLen; omega) (fun k hk => by
      simp at hk
      rw [hk]; exact hoa)) (by simp)

set_option maxHeartbeats 16000000 in
theorem termTexts_any (t : Tm) (A : Option Addr) (c : Nat) (s : ByteArray) (w : World) (hp : Pairs w) (hrt : TRep w.heap.size w t A) (hot : okT maxLen t) (hss : s.size ≤ maxLen) :
    Calls Tryd.prog 10 #[TV t A c, .string s] w fun e w' => e = .returned (.bool true) ∧ Below w.heap.size w w' := by
  have H0 := Lib.hid (QT.start t A c w hrt)
  have HP := Lib.hid (hp.alloc (.cells (tcells t A c) 56))
  have HP0 := Lib.hid hp
  have HOT := Lib.hid hot
  have hsl : (s.size : Int) ≤ 9223372036854775807 := by unfold maxLen at hss; omega
  clear hp hrt hot
  unfold TV
  go_enter Tryd.func10, Tryd.ntmps10
  go_wp2_with fail
  refine (awake02_any _ HP.out).mono ?_
  rintro e w1 ⟨rfl, hb⟩
  have H1 := Lib.hid (H0.out.next hb)
  clear H0
  clear hb HP
  have HPR := Lib.hid (fun (W : World) (h : Below w.heap.size w W) => HP0.out.below h HP0.out.lt)
  go_upto_region 3 with fail
  go_cut [36] from 19 (fun v wx => (v = .bool true ∨ (v = .bool false ∧ bigL [t] = false ∧ s.size ≤ 70000)) ∧ QT t A c w wx)
  case first =>
    obtain ⟨⟨x0, x1, x2⟩, _⟩ := blk3 H1.out.bt.1
    have hbN : Below w1.heap.size w1 (w1.alloc (.cells #[.string t.nm, .string t.st, .slice A t.ks.length c] 56)) := (Below.refl _ _).alloc (Nat.le_refl _) _
    have HBIG := Lib.hid (bigOneT_any t A c _ w1.heap.size (heap_alloc_new w1 (.cells #[.string t.nm, .string t.st, .slice A t.ks.length c] 56)) (H1.out.bt.next hbN).2 HOT.out)
    have H2 := Lib.hid (H1.out.next hbN)
    clear H1
    clear hbN
    go_wp2_with fail
    refine HBIG.out.mono ?_
    rintro e w2 ⟨rfl, hb⟩
    have H3 := Lib.hid (H2.out.next hb)
    clear H2
    clear hb x0 x1 x2 HBIG
    cases hbg : bigL [t]
    rotate_left
    · clear hbg
      go_wp2_with fail
      go_meet
      exact ⟨.inl rfl, H3.out⟩
    have HBG := Lib.hid hbg
    clear hbg
    by_cases h1 : 3000 < s.size
    · have e1 : decide ((3000 : Int) < (s.size : Int)) = true := decide_eq_true (by omega)
      by_cases h2 : s.size ≤ 65536
      · have e2 : decide ((s.size : Int) ≤ 65536) = true := decide_eq_true (by omega)
        clear h1 h2
        go_wp2_with fail
        go_meet
        exact ⟨.inl rfl, H3.out⟩
      · have e2 : decide ((s.size : Int) ≤ 65536) = false := decide_eq_false (by omega)
        by_cases h3 : 70000 < s.size
        · have e3 : decide ((70000 : Int) < (s.size : Int)) = true := decide_eq_true (by omega)
          clear h1 h2 h3
          go_wp2_with fail
          go_meet
          exact ⟨.inl rfl, H3.out⟩
        · have e3 : decide ((70000 : Int) < (s.size : Int)) = false := decide_eq_false (by omega)
          have h3' : s.size ≤ 70000 := by omega
          clear h1 h2 h3
          go_wp2_with fail
          go_meet
          exact ⟨.inr ⟨rfl, HBG.out, h3'⟩, H3.out⟩
    · have e1 : decide ((3000 : Int) < (s.size : Int)) = false := decide_eq_false (by omega)
      have e3 : decide ((70000 : Int) < (s.size : Int)) = false := decide_eq_false (by omega)
      have h3' : s.size ≤ 70000 := by omega
      clear h1
      go_wp2_with fail
      go_meet
      exact ⟨.inr ⟨rfl, HBG.out, h3'⟩, H3.out⟩
  case rest =>
    obtain ⟨hc, hz⟩ := hcut
    have H50 := Lib.hid hz
    clear hz H1
    rcases hc with rfl | ⟨rfl, hbg, hs7⟩
    · go_wp2_with fail
      go_ret
      exact ⟨rfl, H50.out.below⟩
    obtain ⟨hsm, hsz⟩ := bigL_small hbg
    have HST := Lib.hid (hsm t (by simp))
    have hszt : t.size ≤ 1100 := by simp [sizes] at hsz; omega
    have HBT := Lib.hid hbg
    clear hsm hsz hbg
    have HC := Lib.hid (Parse_all s wc (HPR.out _ H50.out.below))
    go_wp2_with fail
    refine HC.out.mono ?_
    rintro e w11 hpp
    obtain ⟨X, pa, pb, er, AX, cX, hpr, rfl, hr, hb⟩ := pr_of hpp
    have HPRx := Lib.hid hpr
    have HBGx := Lib.hid (pr_big hpr)
    have hbA : Below w11.heap.size w11 (w11.alloc (.cells #[.string X.nm, .string X.st, .slice AX X.ks.length cX] 56)) := (Below.refl _ _).alloc (Nat.le_refl _) _
    have hbB : Below (w11.alloc (.cells #[.string X.nm, .string X.st, .slice AX X.ks.length cX] 56)).heap.size (w11.alloc (.cells #[.string X.nm, .string X.st, .slice AX X.ks.length cX] 56)) ((w11.alloc (.cells #[.string X.nm, .string X.st, .slice AX X.ks.length cX] 56)).alloc (.cells #[.int .i64 pa, .int .i64 pb] 23)) := (Below.refl _ _).alloc (Nat.le_refl _) _
    have H51 := Lib.hid (H50.out.next hb)
    clear H50
    have H52 := Lib.hid (H51.out.next hbA)
    clear H51
    have H53 := Lib.hid (H52.out.next hbB)
    clear H52
    have Xx0 := Lib.hid ((BX.new w11 X AX cX hr).next hbB)
    have Px0 := Lib.hid (PX.new (w11.alloc (.cells #[.string X.nm, .string X.st, .slice AX X.ks.length cX] 56)) pa pb)
    simp only [World.size_alloc] at Px0
    clear hpp hpr hr hb hbA hbB HC
    unfold TV
    go_upto_region 6 with fail
    generalize (w11.alloc (.cells #[.string X.nm, .string X.st, .slice AX X.ks.length cX] 56)).alloc (.cells #[.int .i64 pa, .int .i64 pb] 23) = Wx at H53 Xx0 Px0 ⊢
    obtain ⟨⟨x0, x1, x2⟩, _⟩ := blk3 Xx0.out.1
    have hbN : Below Wx.heap.size Wx (Wx.alloc (.cells #[.string X.nm, .string X.st, .slice AX X.ks.length cX] 56)) := (Below.refl _ _).alloc (Nat.le_refl _) _
    have HBIG := Lib.hid (bigOne_any X AX cX _ Wx.heap.size (heap_alloc_new Wx (.cells #[.string X.nm, .string X.st, .slice AX X.ks.length cX] 56)) (Xx0.out.next hbN).2 HBGx.out.1)
    rw [HBGx.out.2] at HBIG
    have H54 := Lib.hid (H53.out.next hbN)
    have Xx1 := Lib.hid (Xx0.out.next hbN)
    have Px1 := Lib.hid (Px0.out.next hbN)
    clear H53 Xx0 Px0
    clear hbN
    go_wp2_with fail
    refine HBIG.out.mono ?_
    rintro e w12 ⟨rfl, hb⟩
    have H55 := Lib.hid (H54.out.next hb)
    have Xx2 := Lib.hid (Xx1.out.next hb)
    have Px2 := Lib.hid (Px1.out.next hb)
    clear H54 Xx1 Px1
    clear hb x0 x1 x2 HBIG
    go_upto_region 8 with fail
    have HC := Lib.hid (refParse_all s w12)
    go_wp2_with fail
    refine HC.out.mono ?_
    rintro e w13 hpp
    obtain ⟨T9, a9, b9, er9, AY, cY, hpr, rfl, hr, hb⟩ := pr_of hpp
    obtain ⟨rfl, rfl, rfl, rfl⟩ := pr_one HPRx.out hpr
    have hbA : Below w13.heap.size w13 (w13.alloc (.cells #[.string X.nm, .string X.st, .slice AY X.ks.length cY] 56)) := (Below.refl _ _).alloc (Nat.le_refl _) _
    have hbB : Below (w13.alloc (.cells #[.string X.nm, .string X.st, .slice AY X.ks.length cY] 56)).heap.size (w13.alloc (.cells #[.string X.nm, .string X.st, .slice AY X.ks.length cY] 56)) ((w13.alloc (.cells #[.string X.nm, .string X.st, .slice AY X.ks.length cY] 56)).alloc (.cells #[.int .i64 pa, .int .i64 pb] 23)) := (Below.refl _ _).alloc (Nat.le_refl _) _
    have H56 := Lib.hid (H55.out.next hb)
    have Xx3 := Lib.hid (Xx2.out.next hb)
    have Px3 := Lib.hid (Px2.out.next hb)
    clear H55 Xx2 Px2
    have H57 := Lib.hid (H56.out.next hbA)
    have Xx4 := Lib.hid (Xx3.out.next hbA)
    have Px4 := Lib.hid (Px3.out.next hbA)
    clear H56 Xx3 Px3
    have H58 := Lib.hid (H57.out.next hbB)
    have Xx5 := Lib.hid (Xx4.out.next hbB)
    have Px5 := Lib.hid (Px4.out.next hbB)
    clear H57 Xx4 Px4
    have Xy0 := Lib.hid ((BX.new w13 X AY cY hr).next hbB)
    have Py0 := Lib.hid (PX.new (w13.alloc (.cells #[.string X.nm, .string X.st, .slice AY X.ks.length cY] 56)) pa pb)
    simp only [World.size_alloc] at Py0
    clear hpp hpr hr hb hbA hbB HC
    unfold TV
    go_upto_region 9 with fail
    generalize (w13.alloc (.cells #[.string X.nm, .string X.st, .slice AY X.ks.length cY] 56)).alloc (.cells #[.int .i64 pa, .int .i64 pb] 23) = Wy at H58 Xx5 Px5 Xy0 Py0 ⊢
    have hpa : (pa == pa) = true := beq_self_eq_true _
    have hpb : (pb == pb) = true := beq_self_eq_true _
    have hee : (er != er) = false := bne_self_eq_false _
    obtain ⟨⟨p0, p1⟩, _⟩ := blk2 Px5.out.out
    obtain ⟨⟨q0, q1⟩, _⟩ := blk2 Py0.out.out
    clear p0 p1 q0 q1
    obtain ⟨⟨x0, x1, x2⟩, _⟩ := blk3 Xx5.out.1
    obtain ⟨⟨y0, y1, y2⟩, _⟩ := blk3 Xy0.out.1
    have HC := Lib.hid (refSame_any X X AX AY cX cY Wy.heap.size Wy Xx5.out.2 Xy0.out.2 (Nat.le_refl _) (HBGx.out.1.okT.mono (by unfold maxLen; omega)) (HBGx.out.1.okT.mono (by unfold maxLen; omega)))
    rw [rcmp_self] at HC
    unfold TV at HC
    go_wp2_with fail
    refine HC.out.mono ?_
    rintro e w14 ⟨rfl, hb⟩
    have H59 := Lib.hid (H58.out.next hb)
    have Xx6 := Lib.hid (Xx5.out.next hb)
    have Px6 := Lib.hid (Px5.out.next hb)
    have Xy1 := Lib.hid (Xy0.out.next hb)
    have Py1 := Lib.hid (Py0.out.next hb)
    clear H58 Xx5 Px5 Xy0 Py0
    clear hb x0 x1 x2 y0 y1 y2 HC
    obtain ⟨⟨p0, p1⟩, _⟩ := blk2 Px6.out.out
    obtain ⟨⟨q0, q1⟩, _⟩ := blk2 Py1.out.out
    go_upto_region 11 with fail
    clear p0 p1 q0 q1 hpa hpb hee
    clear Xx6 Px6 Xy1 Py1
    cases hf : formed t
    · have hr : textRes t = .tuple #[.string ⟨#[]⟩, .int .i64 1] := by unfold textRes; rw [hf]; rfl
      have HR := Lib.hid hr
      have HF := Lib.hid hf
      clear hr hf
      obtain ⟨⟨x0, x1, x2⟩, _⟩ := blk3 H59.out.bt.1
      have HC := Lib.hid (Text_any t A c w14 H59.out.bt.2 HST.out.1 hszt (by have := HST.out.2; omega))
      rw [HR.out] at HC
      unfold TV at HC
      go_wp2_with fail
      refine HC.out.mono ?_
      rintro e w15 ⟨rfl, hb⟩
      have H60 := Lib.hid (H59.out.next hb)
      clear H59
      clear hb HC x0 x1 x2
      obtain ⟨⟨x0, x1, x2⟩, _⟩ := blk3 H60.out.bt.1
      have HC := Lib.hid (formed_any t A c w15.heap.size w15 H60.out.bt.2 (Nat.le_refl _) (HST.out.1.okT.mono (by unfold maxLen; omega)))
      rw [HF.out] at HC
      unfold TV at HC
      go_wp2_with fail
      refine HC.out.mono ?_
      rintro e w16 ⟨rfl, hb⟩
      have H61 := Lib.hid (H60.out.next hb)
      clear H60
      clear hb HC x0 x1 x2
      go_wp2_with fail
      go_ret
      exact ⟨rfl, H61.out.below⟩
    have HF := Lib.hid hf
    by_cases hbig : 65536 < (tmx t).length
    · have hr : textRes t = .tuple #[.string ⟨#[]⟩, .int .i64 4] := by unfold textRes limRes; rw [if_pos hf, if_pos hbig]
      have HR := Lib.hid hr
      have HBL := Lib.hid hbig
      clear hr hf hbig
      obtain ⟨⟨x0, x1, x2⟩, _⟩ := blk3 H59.out.bt.1
      have HC := Lib.hid (Text_any t A c w14 H59.out.bt.2 HST.out.1 hszt (by have := HST.out.2; omega))
      rw [HR.out] at HC
      unfold TV at HC
      go_wp2_with fail
      refine HC.out.mono ?_
      rintro e w17 ⟨rfl, hb⟩
      have H60 := Lib.hid (H59.out.next hb)
      clear H59
      clear hb HC x0 x1 x2
      obtain ⟨⟨x0, x1, x2⟩, _⟩ := blk3 H60.out.bt.1
      have HC := Lib.hid (formed_any t A c w17.heap.size w17 H60.out.bt.2 (Nat.le_refl _) (HST.out.1.okT.mono (by unfold maxLen; omega)))
      rw [HF.out] at HC
      unfold TV at HC
      go_wp2_with fail
      refine HC.out.mono ?_
      rintro e w18 ⟨rfl, hb⟩
      have H61 := Lib.hid (H60.out.next hb)
      clear H60
      clear hb HC x0 x1 x2
      obtain ⟨⟨x0, x1, x2⟩, _⟩ := blk3 H61.out.bt.1
      have HC := Lib.hid (refText_any t A c w18.heap.size w18 H61.out.bt.2 (Nat.le_refl _) HST.out.1 hszt)
      unfold TV at HC
      go_wp2_with fail
      refine HC.out.mono ?_
      rintro e w19 ⟨⟨js, rfl, hjs⟩, hb⟩
      have H62 := Lib.hid (H61.out.next hb)
      clear H61
      clear hb HC x0 x1 x2
      have hI : decide ((65536 : Int) < (js.size : Int)) = true := decide_eq_true (by rw [← size_toList, hjs]; have := HBL.out; omega)
      clear hjs
      go_wp2_with fail
      go_ret
      exact ⟨rfl, H62.out.below⟩
    obtain ⟨J, hJ⟩ : ∃ J : ByteArray, J = ⟨(tmx t).toArray⟩ := ⟨_, rfl⟩
    have hJl : J.data.toList = tmx t := by rw [hJ]
    have hr : textRes t = .tuple #[.string J, .int .i64 0] := by unfold textRes limRes; rw [if_pos hf, if_neg hbig, hJ]
    have HR := Lib.hid hr
    have HJL := Lib.hid hJl
    have HPT := Lib.hid (show PR J t 0 0 0 by rw [hJ]; exact pr_txt hf (by omega))
    have hJz : J.size ≤ 65536 := by rw [← size_toList, hJl]; omega
    clear hr hf hbig hJ hJl
    obtain ⟨⟨x0, x1, x2⟩, _⟩ := blk3 H59.out.bt.1
    have HC := Lib.hid (Text_any t A c w14 H59.out.bt.2 HST.out.1 hszt (by have := HST.out.2; omega))
    rw [HR.out] at HC
    unfold TV at HC
    go_wp2_with fail
    refine HC.out.mono ?_
    rintro e w20 ⟨rfl, hb⟩
    have H60 := Lib.hid (H59.out.next hb)
    clear H59
    clear hb HC x0 x1 x2
    obtain ⟨⟨x0, x1, x2⟩, _⟩ := blk3 H60.out.bt.1
    have HC := Lib.hid (formed_any t A c w20.heap.size w20 H60.out.bt.2 (Nat.le_refl _) (HST.out.1.okT.mono (by unfold maxLen; omega)))
    rw [HF.out] at HC
    unfold TV at HC
    go_wp2_with fail
    refine HC.out.mono ?_
    rintro e w21 ⟨rfl, hb⟩
    have H61 := Lib.hid (H60.out.next hb)
    clear H60
    clear hb HC x0 x1 x2
    obtain ⟨⟨x0, x1, x2⟩, _⟩ := blk3 H61.out.bt.1
    have HC := Lib.hid (refText_any t A c w21.heap.size w21 H61.out.bt.2 (Nat.le_refl _) HST.out.1 hszt)
    unfold TV at HC
    go_wp2_with fail
    refine HC.out.mono ?_
    rintro e w22 ⟨⟨js, rfl, hjs⟩, hb⟩
    have H62 := Lib.hid (H61.out.next hb)
    clear H61
    clear hb HC x0 x1 x2
    obtain rfl : js = J := toList_inj (hjs.trans HJL.out.symm)
    clear hjs
    have hI : decide ((65536 : Int) < (js.size : Int)) = false := decide_eq_false (by omega)
    have hjj : (js.toList == js.toList) = true := beq_self_eq_true _
    go_upto_region 17 with fail
    have HC := Lib.hid (Parse_all js w22 (HPR.out _ H62.out.below))
    go_wp2_with fail
    refine HC.out.mono ?_
    rintro e w23 hpp
    obtain ⟨T9, a9, b9, er9, AB, cB, hpr, rfl, hr, hb⟩ := pr_of hpp
    obtain ⟨rfl, rfl, rfl, rfl⟩ := pr_one HPT.out hpr
    have hbA : Below w23.heap.size w23 (w23.alloc (.cells #[.string t.nm, .string t.st, .slice AB t.ks.length cB] 56)) := (Below.refl _ _).alloc (Nat.le_refl _) _
    have hbB : Below (w23.alloc (.cells #[.string t.nm, .string t.st, .slice AB t.ks.length cB] 56)).heap.size (w23.alloc (.cells #[.string t.nm, .string t.st, .slice AB t.ks.length cB] 56)) ((w23.alloc (.cells #[.string t.nm, .string t.st, .slice AB t.ks.length cB] 56)).alloc (.cells #[.int .i64 0, .int .i64 0] 23)) := (Below.refl _ _).alloc (Nat.le_refl _) _
    have H63 := Lib.hid (H62.out.next hb)
    clear H62
    have H64 := Lib.hid (H63.out.next hbA)
    clear H63
    have H65 := Lib.hid (H64.out.next hbB)
    clear H64
    have Xb0 := Lib.hid ((BX.new w23 t AB cB hr).next hbB)
    have Pb0 := Lib.hid (PX.new (w23.alloc (.cells #[.string t.nm, .string t.st, .slice AB t.ks.length cB] 56)) 0 0)
    simp only [World.size_alloc] at Pb0
    clear hpp hpr hr hb hbA hbB HC
    unfold TV
    go_upto_region 18 with fail
    generalize (w23.alloc (.cells #[.string t.nm, .string t.st, .slice AB t.ks.length cB] 56)).alloc (.cells #[.int .i64 0, .int .i64 0] 23) = Wb at H65 Xb0 Pb0 ⊢
    obtain ⟨⟨p0, p1⟩, _⟩ := blk2 Pb0.out.out
    obtain ⟨⟨x0, x1, x2⟩, _⟩ := blk3 Xb0.out.1
    have hbN : Below Wb.heap.size Wb (Wb.alloc (.cells #[.string t.nm, .string t.st, .slice AB t.ks.length cB] 56)) := (Below.refl _ _).alloc (Nat.le_refl _) _
    have HBIG := Lib.hid (bigOne_any t AB cB _ Wb.heap.size (heap_alloc_new Wb (.cells #[.string t.nm, .string t.st, .slice AB t.ks.length cB] 56)) (Xb0.out.next hbN).2 HST.out.1)
    rw [HBT.out] at HBIG
    have H66 := Lib.hid (H65.out.next hbN)
    have Xb1 := Lib.hid (Xb0.out.next hbN)
    have Pb1 := Lib.hid (Pb0.out.next hbN)
    clear H65 Xb0 Pb0
    clear hbN
    go_wp2_with fail
    refine HBIG.out.mono ?_
    rintro e w24 ⟨rfl, hb⟩
    have H67 := Lib.hid (H66.out.next hb)
    have Xb2 := Lib.hid (Xb1.out.next hb)
    have Pb2 := Lib.hid (Pb1.out.next hb)
    clear H66 Xb1 Pb1
    clear hb x0 x1 x2 HBIG
    clear p0 p1
    obtain ⟨⟨x0, x1, x2⟩, _⟩ := blk3 Xb2.out.1
    obtain ⟨⟨y0, y1, y2⟩, _⟩ := blk3 H67.out.bt.1
    have HC := Lib.hid (refSame_any t t AB A cB c w24.heap.size w24 Xb2.out.2 H67.out.bt.2 (Nat.le_refl _) (HST.out.1.okT.mono (by unfold maxLen; omega)) (HST.out.1.okT.mono (by unfold maxLen; omega)))
    rw [rcmp_self] at HC
    unfold TV at HC
    go_wp2_with fail
    refine HC.out.mono ?_
    rintro e w25 ⟨rfl, hb⟩
    have H68 := Lib.hid (H67.out.next hb)
    have Xb3 := Lib.hid (Xb2.out.next hb)
    have Pb3 := Lib.hid (Pb2.out.next hb)
    clear H67 Xb2 Pb2
    clear hb x0 x1 x2 y0 y1 y2 HC
    go_wp2_with fail
    go_ret
    exact ⟨rfl, H68.out.below⟩
end Go.Proofs.YthbcfcbonmphfaaDoor

/- TermTexts: TermTexts: whatever the term and the text, the law answers true and leaves them as they were. -/namespace Go.Proofs.YthbcfcbonmphfaaDoor
set_option maxRecDepth 100000
open Go.ChangeMaps (open_string)
open Go.ChangeShapes Go.WideShapes Go.ChangeAt Go.WideMaps Go.WideElems Go.RowKit Go.Deep

set_option maxRecDepth 100000 in
theorem termTexts_lifted (os : Os) (started : os.Started) (H : Type) (enc : TypeId × Value → H) :
    ReturnsInHanded {} Tryd.checked os 10 .any (fun w args => (Rows.termTextsSpec.pre enc Tryd.prog Tryd.f10 [] false w args ∧ laidMetH Tryd.prog Rows.lexNamesRow.laid w) ∧ sizedMet enc Tryd.prog Tryd.f10 (OpenSpec.ofChange Rows.termTextsSpec) false w args)
      (Rows.termTextsSpec.post enc Tryd.prog Tryd.f10 false true false false) := by
  refine returnsInHanded_of_change_and (C := Tryd.checked) (X := fun w _ => laidMetH Tryd.prog Rows.lexNamesRow.laid w) (fun _ _ _ hh h => h.of_heap hh) Tryd.own started (by kernel_rfl) Tryd.func10
    (ChangeSpec.witness_shaped (enc := enc) (C := Tryd.checked) (os := os) (X := fun w _ => laidMetH Tryd.prog Rows.lexNamesRow.laid w) false (World.doorLaid Tryd.prog 400 os) #[.agg #[.string ⟨#[]⟩, .string ⟨#[]⟩, .slice none 0 0], .string ⟨#[]⟩] 8 rfl (World.shaped_of_RefB (by kernel_rfl) (by kernel_rfl)) (by kernel_rfl) (by kernel_rfl) (by kernel_rfl) (door_met os _)) ?_
  intro W base args ds gs before hval0 hW _ _ hL _
  have hval : ∀ (j : Nat) t v, Tryd.f10.params[j]? = some t → args[j]? = some v → Value.okWide Tryd.prog W .any base t v := hval0
  have hW' := hW
  obtain ⟨p, q, hA0, hV, rfl, hfz, hnd⟩ := hW
  have hA : DataW.TrodAll enc Tryd.prog W 0 (fun _ => true) true Tryd.f10.params.toList args.toList ds p := hA0
  rw [Tryd.params10] at hA hval
  obtain ⟨v0, v1, d0, d1, p0, p1, rfl, rfl, rfl, h0, h1⟩ := trodAll_two hA
  obtain ⟨a, A, ca, rfl, hoa, hra⟩ := open_term (hval 0 56 v0 rfl rfl) h0
  obtain ⟨s, rfl, rfl, rfl, hs⟩ := open_string Tryd.underlying9 (hval 1 9 v1 rfl rfl) h1
  refine (termTexts_any a A ca s W (pairs_of_laid hL) hra hoa hs).mono fun e W' ⟨he, hb⟩ => ?_
  subst he
  exact ⟨_, rfl, law_post (tb := 4) Tryd.laidOut (by rw [Tryd.params10]; intro t ht; simp at ht; rcases ht with rfl | rfl <;> exact ⟨by kernel_rfl, of_decide_eq_true (by kernel_rfl)⟩) Tryd.underlying4 (by kernel_rfl) rfl (by simp [Rows.termTextsSpec]) hW' hb⟩

theorem termTexts_holds : Rows.TermTextsSaid :=
  OpenClaim.holds_of_wide 10 Tryd.f10 rfl rfl rfl rfl rfl rfl rfl ⟨rfl, rfl, rfl, rfl, rfl⟩ rfl rfl rfl rfl rfl (by kernel_rfl) Tryd.func10 (by kernel_rfl)
    (of_decide_eq_true (by kernel_rfl)) (by unfold Func.isWrapper; first | (rw [if_pos (by decide +kernel)]; kernel_rfl) | (rw [if_neg (by decide +kernel)]; exact ⟨rfl, rfl⟩))
    (fun os started H enc _ => termTexts_lifted os started H enc)

/-- The tied card. -/
theorem termTexts_card : Rows.TermTextsCardSaid :=
  Claim7.holds_tied_plain_at .later [] [.data] true (true, Rows.termTextsCard.stood.harness.2) false
    termTexts_holds (fun _ h => by cases h) (by kernel_rfl) (fun _ h => by cases h) termTexts_row_tie rfl ⟨rfl, rfl⟩ (by kernel_rfl) rfl
    (fun f fn hf hfn => by
      obtain rfl : f = 10 := Option.some.inj ((show Tryd.prog.funcNamed Rows.termTextsRow.func = some 10 by kernel_rfl).symm.trans hf) |>.symm
      obtain rfl : fn = Tryd.f10 := (Option.some.inj (Tryd.func10.symm.trans hfn)).symm
      exact ⟨by kernel_rfl, fun j t ht => by
        rw [Tryd.params10] at ht
        have h3 : t ∈ ([56, 9] : List TypeId) := by
          have := Array.mem_of_getElem? ht
          simpa using this
        simp only [List.mem_cons, List.not_mem_nil, or_false] at h3
        rcases h3 with rfl | rfl
        · exact (show Tryd.prog.wantsStandIn 56 = false by kernel_rfl)
        · exact (show Tryd.prog.wantsStandIn 9 = false by kernel_rfl)⟩)
    (by kernel_rfl)
#print axioms termTexts_card
end Go.Proofs.YthbcfcbonmphfaaDoor
