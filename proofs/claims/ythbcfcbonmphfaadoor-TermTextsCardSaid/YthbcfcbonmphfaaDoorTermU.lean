/- Parse, where the text has tokens. -/
import Derived.Test.YthbcfcbonmphfaaDoorTermT
import Derived.Test.YthbcfcbonmphfaaDoorTermE
namespace Go.Proofs.YthbcfcbonmphfaaDoor
open Go.RowKit Go.Shelf
set_option maxRecDepth 100000

theorem tlen_mem : ∀ {L : List Tk} {x : Tk}, x ∈ L → x.t.length ≤ tlen L
  | [], x, h => by cases h
  | y :: L, x, h => by
    unfold tlen
    rcases List.mem_cons.1 h with rfl | h
    · omega
    · have := tlen_mem h; omega

set_option maxHeartbeats 16000000 in
theorem Parse_ok (s : ByteArray) (w : World) (hle : s.size ≤ 65536) (hp : Pairs w) (L : List Tk) (htk : toks s.data.toList 1 1 = .ok L) : Calls Tryd.prog 41 #[.string s] w (ParsePost s w) := by
  have H0 := Lib.hid (RW.start w)
  have HP0 := Lib.hid ((hp.alloc (.cells #[.string ⟨#[]⟩, .string ⟨#[]⟩, .slice none 0 0] 56)).alloc (.cells #[.int .i64 0, .int .i64 0] 23))
  clear hp
  · have HS : Hid (s.size ≤ 65536) := Lib.hid (by omega)
    have HT := Lib.hid (tokens_any s ((w.alloc (.cells #[.string ⟨#[]⟩, .string ⟨#[]⟩, .slice none 0 0] 56)).alloc (.cells #[.int .i64 0, .int .i64 0] 23)) (by omega) HP0.out)
    clear hle
    go_enter Tryd.func41, Tryd.ntmps41
    go_wp2_with fail
    refine HT.out.mono ?_
    rintro e w1 ⟨hb1, hT⟩
    have H1 := Lib.hid (H0.out.next hb1)
    have H2 := Lib.hid (H1.out.next ((Below.refl _ _).alloc (Nat.le_refl _) (.cells #[.int .i64 0, .int .i64 0] 23)))
    have hs1' := hb1.size
    simp at hs1'
    have hlt0 : w.heap.size < w1.heap.size := by omega
    have hlt1 : w.heap.size + 1 < w1.heap.size := by omega
    clear HT
    · rw [htk] at hT
      simp only at hT
      obtain ⟨v, rfl, ho⟩ := hT
      obtain ⟨hval, _, hends, htl, hln⟩ := toks_places _ _ htk
      have hek := ends_k hends
      have hne : 0 < L.length := by obtain ⟨a, b, e⟩ := hek.ne; rw [e]; simp
      obtain ⟨g, c, rfl, hc1, hc2, hg, htat⟩ := pb_of_own ho hne
      rw [size_toList] at hln
      have hLn : L.length ≤ 65537 := by have := HS.out; omega
      have hpb := pb_new hc1 hc2 hg htat (.cells #[.int .i64 0, .int .i64 0] 23)
      have HTT := Lib.hid (term_any (w1.heap.size + 1) L.length L _ (Nat.le_refl _) (by omega) hpb hek)
      unfold TermOk at HTT
      have HTK := Lib.hid htk
      have H3 := Lib.hid (H2.out.next ((Below.refl _ _).alloc (Nat.le_refl _) (.cells #[.slice (some ⟨g, 0, none⟩) L.length c] 127)))
      have HPX : Hid (((w1.alloc (.cells #[.int .i64 0, .int .i64 0] 23)).alloc (.cells #[.slice (some ⟨g, 0, none⟩) L.length c] 127)).heap[w1.heap.size]? = some (.cells #[.int .i64 0, .int .i64 0] 23 (0, 0))) := Lib.hid ((Below.heap_alloc _ _ _ (by simp)).trans (heap_alloc_new w1 _))
      have HPM := Lib.hid (fun x (hx : x ∈ L) => Nat.le_trans (tlen_mem hx) htl)
      clear htk hb1 ho hval hends htl hpb hek htat hc1 hc2 hne
      go_wp2_with fail
      refine HTT.out.mono ?_
      rintro e w3 ⟨l', hp3, he3, hl3, hg3, hcase⟩
      obtain ⟨x, lr, rfl⟩ := he3.ne
      have H4 := Lib.hid (H3.out.grown hg3 (by omega))
      have HPX3 := Lib.hid (grown_block HPX.out hg3 (by omega))
      have HP3 := Lib.hid hp3
      have HG3 := Lib.hid hg3
      have hs3 := hg3.size
      simp at hs3
      clear hp3 he3 hg3 HTT
      rcases hcase with ⟨t, A, ct, hpt, rfl, htx⟩ | ⟨n, hpt, rfl⟩
      · have HPT := Lib.hid hpt
        have HTX := Lib.hid htx
        have HBX := Lib.hid ((Below.refl w3.heap.size w3).alloc (Nat.le_refl _) (.cells (tcells t A ct) 56))
        have HE := Lib.hid (atEnd_any (w1.heap.size + 1) x lr _ (HP3.out.below HBX.out))
        have H5 := Lib.hid (H4.out.next HBX.out)
        obtain ⟨_, hokt⟩ := PT_ok (M := 65537) hpt (fun y hy => Nat.le_trans (HPM.out y hy) (by rw [size_toList]; have := HS.out; omega)) hLn
        obtain ⟨hok0, hsz0⟩ := hokt t rfl
        have HOKT := Lib.hid (hok0.mono (m' := maxLen) (by unfold maxLen; omega))
        have hsz : t.size ≤ 140737488355326 := by omega
        have hdp : t.depth ≤ 140737488355326 := Nat.le_trans (Tm.depth_le t).2 hsz
        have hrep := ((htx.rep (n₀ := w3.heap.size) (fun b hb => hb.2)).later HBX.out).mono HBX.out.size
        have HREP := Lib.hid hrep
        have HBT := Lib.hid (heap_alloc_new w3 (.cells (tcells t A ct) 56))
        clear hpt htx hokt hok0 hsz0 hrep
        unfold TV
        by_cases hk : x.k = 5
        · have hkb : (x.k == 5) = true := by rw [hk]; rfl
          have HK := Lib.hid hk
          obtain ⟨⟨b0, b1, b2⟩, _⟩ := blk3 HBT.out
          have HFI := Lib.hid (fits_any t A ct _ HREP.out HOKT.out hdp)
          clear hk
          unfold TV at HFI
          go_wp2_with fail
          refine HE.out.mono ?_
          rintro e w4 ⟨rfl, rfl⟩
          go_wp2_with fail
          refine HFI.out.mono ?_
          rintro e w4 ⟨rfl, hb4⟩
          have H6 := Lib.hid (H5.out.next hb4)
          have HBT4 := Lib.hid (cells_below HBT.out hb4)
          have HB4 := Lib.hid (HBX.out.trans (hb4.mono HBX.out.size))
          have hs4 := hb4.size
          simp at hs4
          clear hb4 b0 b1 b2 HFI HE
          generalize hf : fitsL (t.pre 1) = f
          cases f
          · obtain ⟨⟨x0, x1, x2⟩, xf0, xf1, xf2⟩ := blk3 H6.out.c0
            obtain ⟨⟨y0, y1⟩, yf0, yf1⟩ := blk2 H6.out.c1
            have HF := Lib.hid hf
            clear hf
            go_wp2_with fail
            refine bodyPost_ret (v := .tuple #[TV0, .agg #[.int .i64 0, .int .i64 0], .int .i64 4]) (by simp [results, Tryd.results41, go_sem, x0, x1, x2, y0, y1, TV0]) rfl ?_
            refine ⟨?_, .inr (.inr (.inr ⟨HS.out, L, t, x, lr, HTK.out, HPT.out, HK.out, .inl ⟨HF.out, rfl⟩⟩))⟩
            (repeat' (first | exact H6.out.below | refine Below.drew ?_ | refine Below.setCell ?_ (by simp) _ | refine Below.alloc ?_ (by simp <;> omega) _))
          · have HF := Lib.hid hf
            have HVS := Lib.hid (varSorts_any t A ct w4 (((HREP.out.later (by exact (Below.refl _ _))).later (by exact (Below.refl _ _))) |> fun _ => ((HTX.out.rep (n₀ := w3.heap.size) (fun b hb => hb.2)).later HB4.out).mono (by omega)) HOKT.out hdp hsz)
            obtain ⟨⟨b0, b1, b2⟩, _⟩ := blk3 HBT4.out
            clear hf
            unfold TV at HVS
            go_wp2_with fail
            refine HVS.out.mono ?_
            rintro e w5 ⟨⟨m, rfl, _⟩, hb5⟩
            have H7 := Lib.hid (H6.out.next hb5)
            have HBT5 := Lib.hid (cells_below HBT4.out hb5)
            have HB5 := Lib.hid (HB4.out.trans (hb5.mono (by omega)))
            have hs5 := hb5.size
            obtain ⟨⟨x0, x1, x2⟩, xf0, xf1, xf2⟩ := blk3 H7.out.c0
            obtain ⟨⟨y0, y1⟩, yf0, yf1⟩ := blk2 H7.out.c1
            clear hb5 b0 b1 b2 HVS
            obtain ⟨⟨b0, b1, b2⟩, _⟩ := blk3 HBT5.out
            generalize hg : agreeL (t.pre 1) = ag
            have HAG := Lib.hid hg
            clear hg
            cases ag
            · go_wp2_with fail
              refine bodyPost_ret (v := .tuple #[TV0, .agg #[.int .i64 0, .int .i64 0], .int .i64 11]) (by simp [results, Tryd.results41, go_sem, x0, x1, x2, y0, y1, TV0]) rfl ?_
              refine ⟨?_, .inr (.inr (.inr ⟨HS.out, L, t, x, lr, HTK.out, HPT.out, HK.out, .inr (.inl ⟨HF.out, HAG.out, rfl⟩)⟩))⟩
              (repeat' (first | exact H7.out.below | refine Below.drew ?_ | refine Below.setCell ?_ (by simp) _ | refine Below.alloc ?_ (by simp <;> omega) _))
            · go_wp2_with fail
              refine bodyPost_ret (v := .tuple #[TV t A ct, .agg #[.int .i64 0, .int .i64 0], .int .i64 0]) (by simp [results, Tryd.results41, go_sem, x0, x1, x2, y0, y1, TV]) rfl ?_
              refine ⟨?_, .inr (.inr (.inr ⟨HS.out, L, t, x, lr, HTK.out, HPT.out, HK.out, .inr (.inr ⟨HF.out, HAG.out, A, ct, rfl, ?_⟩)⟩))⟩
              · (repeat' (first | exact H7.out.below | refine Below.drew ?_ | refine Below.setCell ?_ (by simp) _ | refine Below.alloc ?_ (by simp <;> omega) _))
              · refine ((HTX.out.keep (fun b hb => HB5.out.block b hb.2)).keep (fun b hb => ?_)).imp (fun b hb => ⟨by have := hb.1; simp at this; omega, by simp; omega⟩)
                have h1 := hb.1
                simp at h1
                (repeat' (first | rfl | refine (Below.heap_setCell _ _ _ _ (by simp; omega)).trans ?_))
        · have hkb : (x.k == 5) = false := beq_eq_false_iff_ne.2 hk
          have HK := Lib.hid hk
          have HF := Lib.hid (fault_any (w1.heap.size + 1) x lr _ (HP3.out.below HBX.out))
          clear hk
          go_wp2_with fail
          refine HE.out.mono ?_
          rintro e w4 ⟨rfl, rfl⟩
          clear H5
          go_wp2_with fail
          refine HF.out.mono ?_
          rintro e w4 ⟨rfl, hb4⟩
          have H5 := Lib.hid ((H4.out.next HBX.out).next hb4)
          have q0 := cells_below (cells_below HPX3.out HBX.out) hb4
          obtain ⟨⟨p0, p1⟩, pf0, pf1⟩ := blk2 q0
          have hs4 := hb4.size
          simp at hs4
          have r0 := heap_setCell_same _ w1.heap.size 1 _ _ (.int .i64 x.b) (heap_setCell_same w4 w1.heap.size 0 _ _ (.int .i64 x.a) q0)
          have H6 : RW w ((w4.setCell ⟨w1.heap.size, 0, none⟩ (.int .i64 x.a)).setCell ⟨w1.heap.size, 1, none⟩ (.int .i64 x.b)) :=
            ⟨(H5.out.below.setCell (p := ⟨w1.heap.size, 0, none⟩) (by show w.heap.size ≤ w1.heap.size; omega) _).setCell (p := ⟨w1.heap.size, 1, none⟩) (by show w.heap.size ≤ w1.heap.size; omega) _,
              (Below.heap_setCell _ _ _ _ (by simp; omega)).trans ((Below.heap_setCell _ _ _ _ (by simp; omega)).trans H5.out.c0),
              (Below.heap_setCell _ _ _ _ (by simp; omega)).trans ((Below.heap_setCell _ _ _ _ (by simp; omega)).trans H5.out.c1)⟩
          have hlt5 : w1.heap.size < ((w4.setCell ⟨w1.heap.size, 0, none⟩ (.int .i64 x.a)).setCell ⟨w1.heap.size, 1, none⟩ (.int .i64 x.b)).heap.size := by simp; omega
          clear q0 hb4 HF
          go_wp2_with fail
          clear p0 p1 pf0 pf1
          generalize ((w4.setCell ⟨w1.heap.size, 0, none⟩ (.int .i64 x.a)).setCell ⟨w1.heap.size, 1, none⟩ (.int .i64 x.b)) = W5 at r0 H6 hlt5 ⊢
          obtain ⟨⟨p0, p1⟩, pf0, pf1⟩ := blk2 r0
          obtain ⟨⟨x0, x1, x2⟩, xf0, xf1, xf2⟩ := blk3 H6.c0
          obtain ⟨⟨y0, y1⟩, yf0, yf1⟩ := blk2 H6.c1
          have HB6 := Lib.hid H6.below
          clear r0 H6
          go_region
          all_goals
            go_wp2
            refine bodyPost_ret (v := .tuple #[TV0, .agg #[.int .i64 x.a, .int .i64 x.b], .int .i64 (fE x)]) (by simp [results, Tryd.results41, go_sem, x0, x1, x2, y0, y1, TV0]) rfl ?_
            refine ⟨?_, .inr (.inr (.inl ⟨HS.out, L, some t, x, lr, HTK.out, HPT.out, .inr HK.out, rfl⟩))⟩
            (repeat' (first | exact HB6.out | refine Below.drew ?_ | refine Below.setCell ?_ (by simp) _ | refine Below.alloc ?_ (by simp <;> omega) _))
      · have HPT := Lib.hid hpt
        have HBX := Lib.hid ((Below.refl w3.heap.size w3).alloc (Nat.le_refl _) (.cells #[.string n, .string ⟨#[]⟩, .slice none 0 0] 56))
        have HF := Lib.hid (fault_any (w1.heap.size + 1) x lr _ (HP3.out.below HBX.out))
        clear hpt
        go_wp2_with fail
        refine HF.out.mono ?_
        rintro e w4 ⟨rfl, hb4⟩
        have H5 := Lib.hid ((H4.out.next HBX.out).next hb4)
        have q0 := cells_below (cells_below HPX3.out HBX.out) hb4
        obtain ⟨⟨p0, p1⟩, pf0, pf1⟩ := blk2 q0
        have hs4 := hb4.size
        simp at hs4
        have r0 := heap_setCell_same _ w1.heap.size 1 _ _ (.int .i64 x.b) (heap_setCell_same w4 w1.heap.size 0 _ _ (.int .i64 x.a) q0)
        have H6 : RW w ((w4.setCell ⟨w1.heap.size, 0, none⟩ (.int .i64 x.a)).setCell ⟨w1.heap.size, 1, none⟩ (.int .i64 x.b)) :=
          ⟨(H5.out.below.setCell (p := ⟨w1.heap.size, 0, none⟩) (by show w.heap.size ≤ w1.heap.size; omega) _).setCell (p := ⟨w1.heap.size, 1, none⟩) (by show w.heap.size ≤ w1.heap.size; omega) _,
            (Below.heap_setCell _ _ _ _ (by simp; omega)).trans ((Below.heap_setCell _ _ _ _ (by simp; omega)).trans H5.out.c0),
            (Below.heap_setCell _ _ _ _ (by simp; omega)).trans ((Below.heap_setCell _ _ _ _ (by simp; omega)).trans H5.out.c1)⟩
        have hlt5 : w1.heap.size < ((w4.setCell ⟨w1.heap.size, 0, none⟩ (.int .i64 x.a)).setCell ⟨w1.heap.size, 1, none⟩ (.int .i64 x.b)).heap.size := by simp; omega
        clear q0 hb4 HF
        go_wp2_with fail
        clear p0 p1 pf0 pf1
        generalize ((w4.setCell ⟨w1.heap.size, 0, none⟩ (.int .i64 x.a)).setCell ⟨w1.heap.size, 1, none⟩ (.int .i64 x.b)) = W5 at r0 H6 hlt5 ⊢
        obtain ⟨⟨p0, p1⟩, pf0, pf1⟩ := blk2 r0
        obtain ⟨⟨x0, x1, x2⟩, xf0, xf1, xf2⟩ := blk3 H6.c0
        obtain ⟨⟨y0, y1⟩, yf0, yf1⟩ := blk2 H6.c1
        have HB6 := Lib.hid H6.below
        clear r0 H6
        go_region
        all_goals
          go_wp2
          refine bodyPost_ret (v := .tuple #[TV0, .agg #[.int .i64 x.a, .int .i64 x.b], .int .i64 (fE x)]) (by simp [results, Tryd.results41, go_sem, x0, x1, x2, y0, y1, TV0]) rfl ?_
          refine ⟨?_, .inr (.inr (.inl ⟨HS.out, L, none, x, lr, HTK.out, HPT.out, .inl rfl, rfl⟩))⟩
          (repeat' (first | exact HB6.out | refine Below.drew ?_ | refine Below.setCell ?_ (by simp) _ | refine Below.alloc ?_ (by simp <;> omega) _))
end Go.Proofs.YthbcfcbonmphfaaDoor
