/- The reference: names, Declaration. -/
import Derived.Test.YthbcfcbonmphfaaDoorTermSdBundle
import Derived.Test.YthbcfcbonmphfaaDoorTermUBundle
import Derived.Test.YthbcfcbonmphfaaDoorTermBkBundle
/- ParseSignature. -/
namespace Go.Proofs.YthbcfcbonmphfaaDoor
open Go.RowKit Go.Shelf
set_option maxRecDepth 100000

def GV0 : Value := .agg #[.slice none 0 0, .slice none 0 0]
def S0 (a b er : Int) : Ending := .returned (.tuple #[GV0, .agg #[.int .i64 a, .int .i64 b], .int .i64 er])
/-- What ParseSignature hands back. -/
def PSPost (s : ByteArray) (w : World) (e : Ending) (w' : World) : Prop :=
  Below w.heap.size w w' ∧
    ((65536 < s.size ∧ e = S0 0 0 4) ∨
     (s.size ≤ 65536 ∧ ∃ p, toks s.data.toList 1 1 = .error p ∧ e = S0 p.1 p.2 7) ∨
     (s.size ≤ 65536 ∧ ∃ L r x l', toks s.data.toList 1 1 = .ok L ∧ sigL L = (r, x :: l') ∧ (r = none ∨ x.k ≠ 5) ∧ e = S0 x.a x.b (fE x)) ∨
     (s.size ≤ 65536 ∧ ∃ L g x l', toks s.data.toList 1 1 = .ok L ∧ sigL L = (some g, x :: l') ∧ x.k = 5 ∧
       ((validSg g = false ∧ e = S0 0 0 1) ∨
        (validSg g = true ∧ ∃ A1 c1 A2 c2, e = .returned (.tuple #[GV g A1 c1 A2 c2, .agg #[.int .i64 0, .int .i64 0], .int .i64 0]) ∧ SlS w'.heap.size w' A1 g.sorts ∧ SlD w'.heap.size w' A2 g.ops))))
/-- The cells of its results. -/
structure RG (w w' : World) : Prop where
  below : Below w.heap.size w w'
  c0 : w'.heap[w.heap.size]? = some (.cells #[.slice none 0 0, .slice none 0 0] 82 (0, 0))
  c1 : w'.heap[w.heap.size + 1]? = some (.cells #[.int .i64 0, .int .i64 0] 23 (0, 0))
theorem RG.start (w : World) : RG w ((w.alloc (.cells #[.slice none 0 0, .slice none 0 0] 82)).alloc (.cells #[.int .i64 0, .int .i64 0] 23)) :=
  ⟨((Below.refl _ _).alloc (Nat.le_refl _) _).alloc (by simp) _, (Below.heap_alloc _ _ _ (by simp)).trans (heap_alloc_new w _), by
    have := heap_alloc_new (w.alloc (.cells #[.slice none 0 0, .slice none 0 0] 82)) (.cells #[.int .i64 0, .int .i64 0] 23)
    simpa using this⟩
theorem RG.next {w w1 w2 : World} (h : RG w w1) (hb : Below w1.heap.size w1 w2) : RG w w2 :=
  ⟨h.below.trans (hb.mono h.below.size), cells_below h.c0 hb, cells_below h.c1 hb⟩
theorem RG.grown {w w1 w2 : World} {P : Nat} (h : RG w w1) (hg : w1.grownBy w2 (some P)) (hP : w.heap.size + 1 < P) : RG w w2 :=
  ⟨h.below.grown hg h.below.size (fun k e => by injection e with e; omega), grown_block h.c0 hg (by omega), grown_block h.c1 hg (by omega)⟩
set_option maxHeartbeats 4000000 in
theorem PSig_full (s : ByteArray) (w : World) (hbig : 65536 < s.size) (hp : Pairs w) : Calls Tryd.prog 46 #[.string s] w (PSPost s w) := by
  have H0 := Lib.hid (RG.start w)
  have HP0 := Lib.hid ((hp.alloc (.cells #[.slice none 0 0, .slice none 0 0] 82)).alloc (.cells #[.int .i64 0, .int .i64 0] 23))
  clear hp
  · have HT := Lib.hid (tokens_full s ((w.alloc (.cells #[.slice none 0 0, .slice none 0 0] 82)).alloc (.cells #[.int .i64 0, .int .i64 0] 23)) hbig)
    have HBIG := Lib.hid hbig
    clear hbig
    go_enter Tryd.func46, Tryd.ntmps46
    go_wp2_with fail
    refine HT.out.mono ?_
    rintro e w1 ⟨rfl, hb1⟩
    have H1 := Lib.hid (H0.out.next hb1)
    have H2 := Lib.hid (H1.out.next ((Below.refl _ _).alloc (Nat.le_refl _) (.cells #[.int .i64 0, .int .i64 0] 23)))
    have hs1 := hb1.size
    simp at hs1
    have hlt0 : w.heap.size < w1.heap.size := by omega
    have hlt1 : w.heap.size + 1 < w1.heap.size := by omega
    clear hb1 HT
    go_wp2_with fail
    have r0 := heap_alloc_new w1 (.cells #[.int .i64 0, .int .i64 0] 23)
    have H6 := H2.out
    clear H2
    generalize (w1.alloc (.cells #[.int .i64 0, .int .i64 0] 23)) = W5 at r0 H6 ⊢
    obtain ⟨⟨p0, p1⟩, pf0, pf1⟩ := blk2 r0
    obtain ⟨⟨x0, x1⟩, xf0, xf1⟩ := blk2 H6.c0
    obtain ⟨⟨y0, y1⟩, yf0, yf1⟩ := blk2 H6.c1
    have HB6 := Lib.hid H6.below
    clear r0 H6
    go_region
    all_goals
      go_wp2
      refine bodyPost_ret (v := .tuple #[GV0, .agg #[.int .i64 0, .int .i64 0], .int .i64 4]) (by simp [results, Tryd.results46, go_sem, x0, x1, y0, y1, GV0, hlt0, hlt1, World.size_setCell]) rfl ?_
      refine ⟨?_, .inl ⟨HBIG.out, rfl⟩⟩
      (repeat' (first | exact HB6.out | refine Below.drew ?_ | refine Below.setCell ?_ (by simp) _ | refine Below.alloc ?_ (by simp <;> omega) _))
set_option maxHeartbeats 4000000 in
theorem PSig_err (s : ByteArray) (w : World) (hle : s.size ≤ 65536) (hp : Pairs w) (p : Int × Int) (htk : toks s.data.toList 1 1 = .error p) : Calls Tryd.prog 46 #[.string s] w (PSPost s w) := by
  have H0 := Lib.hid (RG.start w)
  have HP0 := Lib.hid ((hp.alloc (.cells #[.slice none 0 0, .slice none 0 0] 82)).alloc (.cells #[.int .i64 0, .int .i64 0] 23))
  clear hp
  · have HS : Hid (s.size ≤ 65536) := Lib.hid (by omega)
    have HT := Lib.hid (tokens_any s ((w.alloc (.cells #[.slice none 0 0, .slice none 0 0] 82)).alloc (.cells #[.int .i64 0, .int .i64 0] 23)) (by omega) HP0.out)
    clear hle
    go_enter Tryd.func46, Tryd.ntmps46
    go_wp2_with fail
    refine HT.out.mono ?_
    rintro e w1 ⟨hb1, hT⟩
    have H1 := Lib.hid (H0.out.next hb1)
    have H2 := Lib.hid (H1.out.next ((Below.refl _ _).alloc (Nat.le_refl _) (.cells #[.int .i64 0, .int .i64 0] 23)))
    have hs1' := hb1.size
    simp at hs1'
    have hlt0 : w.heap.size < w1.heap.size := by omega
    have hlt1 : w.heap.size + 1 < w1.heap.size := by omega
    clear HT
    rw [htk] at hT
    simp only at hT
    subst hT
    have HTK := Lib.hid htk
    have H3 := Lib.hid (H1.out.next ((Below.refl _ _).alloc (Nat.le_refl _) (.cells #[.int .i64 p.1, .int .i64 p.2] 23)))
    clear htk hb1
    go_wp2_with fail
    have r0 := heap_alloc_new w1 (.cells #[.int .i64 p.1, .int .i64 p.2] 23)
    have H6 := H3.out
    clear H2 H3
    generalize (w1.alloc (.cells #[.int .i64 p.1, .int .i64 p.2] 23)) = W5 at r0 H6 ⊢
    obtain ⟨⟨p0, p1⟩, pf0, pf1⟩ := blk2 r0
    obtain ⟨⟨x0, x1⟩, xf0, xf1⟩ := blk2 H6.c0
    obtain ⟨⟨y0, y1⟩, yf0, yf1⟩ := blk2 H6.c1
    have HB6 := Lib.hid H6.below
    clear r0 H6
    go_region
    all_goals
      go_wp2
      refine bodyPost_ret (v := .tuple #[GV0, .agg #[.int .i64 p.1, .int .i64 p.2], .int .i64 7]) (by simp [results, Tryd.results46, go_sem, x0, x1, y0, y1, GV0, hlt0, hlt1, World.size_setCell]) rfl ?_
      refine ⟨?_, .inr (.inl ⟨HS.out, p, HTK.out, rfl⟩)⟩
      (repeat' (first | exact HB6.out | refine Below.drew ?_ | refine Below.setCell ?_ (by simp) _ | refine Below.alloc ?_ (by simp <;> omega) _))
set_option maxHeartbeats 16000000 in
theorem PSig_ok (s : ByteArray) (w : World) (hle : s.size ≤ 65536) (hp : Pairs w) (L : List Tk) (htk : toks s.data.toList 1 1 = .ok L) : Calls Tryd.prog 46 #[.string s] w (PSPost s w) := by
  have H0 := Lib.hid (RG.start w)
  have HP0 := Lib.hid ((hp.alloc (.cells #[.slice none 0 0, .slice none 0 0] 82)).alloc (.cells #[.int .i64 0, .int .i64 0] 23))
  clear hp
  · have HS : Hid (s.size ≤ 65536) := Lib.hid (by omega)
    have HT := Lib.hid (tokens_any s ((w.alloc (.cells #[.slice none 0 0, .slice none 0 0] 82)).alloc (.cells #[.int .i64 0, .int .i64 0] 23)) (by omega) HP0.out)
    clear hle
    go_enter Tryd.func46, Tryd.ntmps46
    go_wp2_with fail
    refine HT.out.mono ?_
    rintro e w1 ⟨hb1, hT⟩
    have H1 := Lib.hid (H0.out.next hb1)
    have H2 := Lib.hid (H1.out.next ((Below.refl _ _).alloc (Nat.le_refl _) (.cells #[.int .i64 0, .int .i64 0] 23)))
    have hs1' := hb1.size
    simp at hs1'
    have hlt0 : w.heap.size < w1.heap.size := by omega
    have hlt1 : w.heap.size + 1 < w1.heap.size := by omega
    clear HT
    · rw [htk] at hT
      simp only at hT
      obtain ⟨v, rfl, ho⟩ := hT
      obtain ⟨hval, _, hends, htl, hln⟩ := toks_places _ _ htk
      have hek := ends_k hends
      have hne : 0 < L.length := by obtain ⟨a, b, e⟩ := hek.ne; rw [e]; simp
      obtain ⟨g, c, rfl, hc1, hc2, hg, htat⟩ := pb_of_own ho hne
      rw [size_toList] at hln
      have hLn : L.length ≤ 65537 := by have := HS.out; omega
      have hpb := pb_new hc1 hc2 hg htat (.cells #[.int .i64 0, .int .i64 0] 23)
      have HTT := Lib.hid (signature_any (w1.heap.size + 1) L _ hpb hek (by omega))
      have HTK := Lib.hid htk
      have H3 := Lib.hid (H2.out.next ((Below.refl _ _).alloc (Nat.le_refl _) (.cells #[.slice (some ⟨g, 0, none⟩) L.length c] 127)))
      have HPX : Hid (((w1.alloc (.cells #[.int .i64 0, .int .i64 0] 23)).alloc (.cells #[.slice (some ⟨g, 0, none⟩) L.length c] 127)).heap[w1.heap.size]? = some (.cells #[.int .i64 0, .int .i64 0] 23 (0, 0))) := Lib.hid ((Below.heap_alloc _ _ _ (by simp)).trans (heap_alloc_new w1 _))
      have HPM := Lib.hid (fun x (hx : x ∈ L) => Nat.le_trans (tlen_mem hx) htl)
      clear htk hb1 ho hval hends htl hpb hek htat hc1 hc2 hne
      go_wp2_with fail
      refine HTT.out.mono ?_
      rintro e w3 ⟨l', hp3, he3, hl3, hg3, hcase⟩
      obtain ⟨x, lr, rfl⟩ := he3.ne
      have H4 := Lib.hid (H3.out.grown hg3 (by omega))
      have HPX3 := Lib.hid (grown_block HPX.out hg3 (by omega))
      have HP3 := Lib.hid hp3
      have HG3 := Lib.hid hg3
      have hs3 := hg3.size
      simp at hs3
      clear hp3 he3 hg3 HTT
      rcases hcase with ⟨g', A1, k1, A2, k2, hpt, rfl, hres, _, _⟩ | ⟨A1, n1, k1, A2, n2, k2, hpt, rfl⟩
      · have HPT := Lib.hid hpt
        obtain ⟨hsl, hsd⟩ := hres w3 (fun _ _ _ => rfl)
        have HSL := Lib.hid hsl
        have HSD := Lib.hid hsd
        have HRES := Lib.hid hres
        have HBX := Lib.hid ((Below.refl w3.heap.size w3).alloc (Nat.le_refl _) (.cells (gcells g' A1 k1 A2 k2) 82))
        have HE := Lib.hid (atEnd_any (w1.heap.size + 1) x lr _ (HP3.out.below HBX.out))
        have H5 := Lib.hid (H4.out.next HBX.out)
        obtain ⟨_, hokt⟩ := sigL_ok (M := 65537) (by unfold maxLen; omega) L (fun y hy => Nat.le_trans (HPM.out y hy) (by rw [size_toList]; have := HS.out; omega)) hLn
        have HOK := Lib.hid (hokt g' (by rw [hpt])).1
        have HBT := Lib.hid (heap_alloc_new w3 (.cells (gcells g' A1 k1 A2 k2) 82))
        clear hpt hsl hsd hokt hres
        unfold GV
        by_cases hk : x.k = 5
        · have hkb : (x.k == 5) = true := by rw [hk]; rfl
          have HK := Lib.hid hk
          obtain ⟨⟨b0, b1⟩, _⟩ := blk2 HBT.out
          have HVS := Lib.hid (validSignature_any g' A1 k1 A2 k2 _ ((HSL.out.later HBX.out).mono HBX.out.size) ((HSD.out.later HBX.out).mono HBX.out.size) HOK.out)
          unfold GV at HVS
          clear hk
          go_wp2_with fail
          refine HE.out.mono ?_
          rintro e w4 ⟨rfl, rfl⟩
          clear HE
          go_wp2_with fail
          refine HVS.out.mono ?_
          rintro e w4 ⟨rfl, hb4⟩
          have H6 := Lib.hid (H5.out.next hb4)
          have HBT4 := Lib.hid (cells_below HBT.out hb4)
          have HB4 := Lib.hid (HBX.out.trans (hb4.mono HBX.out.size))
          have hs4 := hb4.size
          simp at hs4
          clear hb4 b0 b1 HVS
          obtain ⟨⟨b0, b1⟩, _⟩ := blk2 HBT4.out
          obtain ⟨⟨x0, x1⟩, xf0, xf1⟩ := blk2 H6.out.c0
          obtain ⟨⟨y0, y1⟩, yf0, yf1⟩ := blk2 H6.out.c1
          generalize hf : validSg g' = f
          have HF := Lib.hid hf
          clear hf
          cases f
          · go_wp2_with fail
            refine bodyPost_ret (v := .tuple #[GV0, .agg #[.int .i64 0, .int .i64 0], .int .i64 1]) (by simp [results, Tryd.results46, go_sem, x0, x1, y0, y1, GV0]) rfl ?_
            refine ⟨?_, .inr (.inr (.inr ⟨HS.out, L, g', x, lr, HTK.out, HPT.out, HK.out, .inl ⟨HF.out, rfl⟩⟩))⟩
            (repeat' (first | exact H6.out.below | refine Below.drew ?_ | refine Below.setCell ?_ (by simp) _ | refine Below.alloc ?_ (by simp <;> omega) _))
          · have hws3 : w.heap.size < w3.heap.size := by have := H4.out.below.size; have := (Array.getElem?_eq_some_iff.1 H4.out.c0).1; omega
            go_wp2_with fail
            refine bodyPost_ret (v := .tuple #[GV g' A1 k1 A2 k2, .agg #[.int .i64 0, .int .i64 0], .int .i64 0]) (by simp [results, Tryd.results46, go_sem, x0, x1, y0, y1, GV]) rfl ?_
            refine ⟨?_, .inr (.inr (.inr ⟨HS.out, L, g', x, lr, HTK.out, HPT.out, HK.out, .inr ⟨HF.out, A1, k1, A2, k2, rfl, ?_⟩⟩))⟩
            · (repeat' (first | exact H6.out.below | refine Below.drew ?_ | refine Below.setCell ?_ (by simp) _ | refine Below.alloc ?_ (by simp <;> omega) _))
            · refine And.imp (fun h => SlS.mono ?_ h) (fun h => SlD.mono ?_ h) (HRES.out _ (fun b h1 h2 => ?_))
              · simp; omega
              · simp; omega
              · simp at h1
                (repeat' (first | exact HB4.out.block b h2 | refine (Below.heap_setCell _ _ _ _ (by simp; omega)).trans ?_))
        · have hkb : (x.k == 5) = false := beq_eq_false_iff_ne.2 hk
          have HK := Lib.hid hk
          have HF := Lib.hid (fault_any (w1.heap.size + 1) x lr _ (HP3.out.below HBX.out))
          clear hk
          go_wp2_with fail
          refine HE.out.mono ?_
          rintro e w4 ⟨rfl, rfl⟩
          clear H5
          go_wp2_with fail
          refine HF.out.mono ?_
          rintro e w4 ⟨rfl, hb4⟩
          have H5 := Lib.hid ((H4.out.next HBX.out).next hb4)
          have q0 := cells_below (cells_below HPX3.out HBX.out) hb4
          obtain ⟨⟨p0, p1⟩, pf0, pf1⟩ := blk2 q0
          have hs4 := hb4.size
          simp at hs4
          have r0 := heap_setCell_same _ w1.heap.size 1 _ _ (.int .i64 x.b) (heap_setCell_same w4 w1.heap.size 0 _ _ (.int .i64 x.a) q0)
          have H6 : RG w ((w4.setCell ⟨w1.heap.size, 0, none⟩ (.int .i64 x.a)).setCell ⟨w1.heap.size, 1, none⟩ (.int .i64 x.b)) :=
            ⟨(H5.out.below.setCell (p := ⟨w1.heap.size, 0, none⟩) (by show w.heap.size ≤ w1.heap.size; omega) _).setCell (p := ⟨w1.heap.size, 1, none⟩) (by show w.heap.size ≤ w1.heap.size; omega) _,
              (Below.heap_setCell _ _ _ _ (by simp; omega)).trans ((Below.heap_setCell _ _ _ _ (by simp; omega)).trans H5.out.c0),
              (Below.heap_setCell _ _ _ _ (by simp; omega)).trans ((Below.heap_setCell _ _ _ _ (by simp; omega)).trans H5.out.c1)⟩
          have hlt5 : w1.heap.size < ((w4.setCell ⟨w1.heap.size, 0, none⟩ (.int .i64 x.a)).setCell ⟨w1.heap.size, 1, none⟩ (.int .i64 x.b)).heap.size := by simp; omega
          clear q0 hb4 HF
          go_wp2_with fail
          clear p0 p1 pf0 pf1
          generalize ((w4.setCell ⟨w1.heap.size, 0, none⟩ (.int .i64 x.a)).setCell ⟨w1.heap.size, 1, none⟩ (.int .i64 x.b)) = W5 at r0 H6 hlt5 ⊢
          obtain ⟨⟨p0, p1⟩, pf0, pf1⟩ := blk2 r0
          obtain ⟨⟨x0, x1⟩, xf0, xf1⟩ := blk2 H6.c0
          obtain ⟨⟨y0, y1⟩, yf0, yf1⟩ := blk2 H6.c1
          have HB6 := Lib.hid H6.below
          clear r0 H6
          go_region
          all_goals
            go_wp2
            refine bodyPost_ret (v := .tuple #[GV0, .agg #[.int .i64 x.a, .int .i64 x.b], .int .i64 (fE x)]) (by simp [results, Tryd.results46, go_sem, x0, x1, y0, y1, GV0]) rfl ?_
            refine ⟨?_, .inr (.inr (.inl ⟨HS.out, L, some g', x, lr, HTK.out, HPT.out, .inr HK.out, rfl⟩))⟩
            (repeat' (first | exact HB6.out | refine Below.drew ?_ | refine Below.setCell ?_ (by simp) _ | refine Below.alloc ?_ (by simp <;> omega) _))
      · have HPT := Lib.hid hpt
        have HBX := Lib.hid ((Below.refl w3.heap.size w3).alloc (Nat.le_refl _) (.cells #[.slice A1 n1 k1, .slice A2 n2 k2] 82))
        have HF := Lib.hid (fault_any (w1.heap.size + 1) x lr _ (HP3.out.below HBX.out))
        clear hpt
        go_wp2_with fail
        refine HF.out.mono ?_
        rintro e w4 ⟨rfl, hb4⟩
        have H5 := Lib.hid ((H4.out.next HBX.out).next hb4)
        have q0 := cells_below (cells_below HPX3.out HBX.out) hb4
        obtain ⟨⟨p0, p1⟩, pf0, pf1⟩ := blk2 q0
        have hs4 := hb4.size
        simp at hs4
        have r0 := heap_setCell_same _ w1.heap.size 1 _ _ (.int .i64 x.b) (heap_setCell_same w4 w1.heap.size 0 _ _ (.int .i64 x.a) q0)
        have H6 : RG w ((w4.setCell ⟨w1.heap.size, 0, none⟩ (.int .i64 x.a)).setCell ⟨w1.heap.size, 1, none⟩ (.int .i64 x.b)) :=
          ⟨(H5.out.below.setCell (p := ⟨w1.heap.size, 0, none⟩) (by show w.heap.size ≤ w1.heap.size; omega) _).setCell (p := ⟨w1.heap.size, 1, none⟩) (by show w.heap.size ≤ w1.heap.size; omega) _,
            (Below.heap_setCell _ _ _ _ (by simp; omega)).trans ((Below.heap_setCell _ _ _ _ (by simp; omega)).trans H5.out.c0),
            (Below.heap_setCell _ _ _ _ (by simp; omega)).trans ((Below.heap_setCell _ _ _ _ (by simp; omega)).trans H5.out.c1)⟩
        have hlt5 : w1.heap.size < ((w4.setCell ⟨w1.heap.size, 0, none⟩ (.int .i64 x.a)).setCell ⟨w1.heap.size, 1, none⟩ (.int .i64 x.b)).heap.size := by simp; omega
        clear q0 hb4 HF
        go_wp2_with fail
        clear p0 p1 pf0 pf1
        generalize ((w4.setCell ⟨w1.heap.size, 0, none⟩ (.int .i64 x.a)).setCell ⟨w1.heap.size, 1, none⟩ (.int .i64 x.b)) = W5 at r0 H6 hlt5 ⊢
        obtain ⟨⟨p0, p1⟩, pf0, pf1⟩ := blk2 r0
        obtain ⟨⟨x0, x1⟩, xf0, xf1⟩ := blk2 H6.c0
        obtain ⟨⟨y0, y1⟩, yf0, yf1⟩ := blk2 H6.c1
        have HB6 := Lib.hid H6.below
        clear r0 H6
        go_region
        all_goals
          go_wp2
          refine bodyPost_ret (v := .tuple #[GV0, .agg #[.int .i64 x.a, .int .i64 x.b], .int .i64 (fE x)]) (by simp [results, Tryd.results46, go_sem, x0, x1, y0, y1, GV0]) rfl ?_
          refine ⟨?_, .inr (.inr (.inl ⟨HS.out, L, none, x, lr, HTK.out, HPT.out, .inl rfl, rfl⟩))⟩
          (repeat' (first | exact HB6.out | refine Below.drew ?_ | refine Below.setCell ?_ (by simp) _ | refine Below.alloc ?_ (by simp <;> omega) _))
end Go.Proofs.YthbcfcbonmphfaaDoor
namespace Go.Proofs.YthbcfcbonmphfaaDoor
open Go.RowKit Go.Shelf
set_option maxRecDepth 100000

set_option maxHeartbeats 1000000 in
theorem Is_kw (t : Tk) (b : ByteArray) (s : List UInt8) (hb : b.toList = s) (w : World) :
    Calls Tryd.prog 129 #[tkW t, .int .i64 3, .string b] w fun e w' => e = .returned (.bool (decide (kw t s))) ∧ Below w.heap.size w w' := by
  have HB := Lib.hid ((Below.refl w.heap.size w).alloc (Nat.le_refl _) (.cells #[.int .i64 t.k, .string ⟨t.t.toArray⟩, .int .i64 t.n, .int .i64 t.a, .int .i64 t.b] 25))
  obtain ⟨⟨x0, x1, x2, x3, x4⟩, _⟩ := blk5 (heap_alloc_new w (.cells #[.int .i64 t.k, .string ⟨t.t.toArray⟩, .int .i64 t.n, .int .i64 t.a, .int .i64 t.b] 25))
  unfold tkW
  by_cases hk : t.k = 3
  · have h1 : (t.k == 3) = true := by rw [hk]; rfl
    by_cases ht : t.t = s
    · have h2 : (t.t == b.toList) = true := by rw [hb, ht]; exact beq_self_eq_true _
      have HR := Lib.hid (decide_eq_true (show kw t s from ⟨hk, ht⟩))
      clear hk ht hb
      go_enter Tryd.func129, Tryd.ntmps129
      go_wp2_with fail
      go_ret
      exact ⟨ret_bool (by rw [HR.out]), HB.out⟩
    · have h2 : (t.t == b.toList) = false := beq_eq_false_iff_ne.2 (by rw [hb]; exact ht)
      have HR := Lib.hid (decide_eq_false (show ¬ kw t s from fun h => ht h.2))
      clear hk ht hb
      go_enter Tryd.func129, Tryd.ntmps129
      go_wp2_with fail
      go_ret
      exact ⟨ret_bool (by rw [HR.out]), HB.out⟩
  · have h1 : (t.k == 3) = false := beq_eq_false_iff_ne.2 hk
    have HR := Lib.hid (decide_eq_false (show ¬ kw t s from fun h => hk h.1))
    clear hk hb
    go_enter Tryd.func129, Tryd.ntmps129
    go_wp2_with fail
    go_ret
    exact ⟨ret_bool (by rw [HR.out]), HB.out⟩

/-- What names hands back. -/
def NmPost (L : List Tk) (k : Nat) (w : World) (e : Ending) (w' : World) : Prop :=
  Below w.heap.size w w' ∧ ∃ k' : Nat, k ≤ k' ∧ k' < L.length ∧ EndsK (L.drop k') ∧
    ((∃ ns A c, names0 (L.drop k) = (some ns, L.drop k') ∧ e = .returned (.tuple #[.slice A ns.length c, .int .i64 k', .bool true]) ∧ SlX (fun b => w.heap.size ≤ b ∧ b < w'.heap.size) w' A ns) ∨
     (names0 (L.drop k) = (none, L.drop k') ∧ e = .returned (.tuple #[.slice none 0 0, .int .i64 k', .bool false])))
def NmInv (L : List Tk) (k0 : Nat) (w : World) (g : Nat) (at' out : Value) (wr : World) : Prop :=
  ∃ (j : Nat) (ss : List ByteArray) (A : Option Addr) (c : Nat), at' = .int .i64 j ∧ out = .slice A ss.length c ∧ L.length - j ≤ g ∧ EndsK (L.drop j) ∧ k0 ≤ j ∧ ss.length ≤ j ∧ Below w.heap.size w wr ∧
    wr.ownsRow w.heap.size 9 1 (.slice A ss.length c) ss.length (strsC ss) ∧ namesL (L.drop k0) = ((namesL (L.drop j)).1.map (ss ++ ·), (namesL (L.drop j)).2)

set_option maxHeartbeats 4000000 in
theorem refNames_any (L : List Tk) (tb tq cap : Nat) (hL : L.length ≤ 100000) (k : Nat) (w : World) (hT : TkAt w tb tq L) (hlt : tb < w.heap.size) (he : EndsK (L.drop k)) :
    Calls Tryd.prog 147 #[.slice (some ⟨tb, tq, none⟩) L.length cap, .int .i64 k] w (NmPost L k w) := by
  obtain ⟨x, hx, hk, hdx⟩ := ends_at he
  have HT := Lib.hid hT
  have HE := Lib.hid he
  have HX := Lib.hid hx
  have HDX := Lib.hid hdx
  obtain ⟨i0, hi, hz0, hz1, hz2⟩ := info_parts Tryd.infoString
  obtain ⟨x0, x1, x2, x3, x4⟩ := tk_at (Below.refl _ _) hT hlt hx
  have hkI : (k : Int) < (L.length : Int) := by omega
  have HC := Lib.hid (Is_any x ⟨#[41]⟩ [41] l41 w)
  unfold tkW at HC
  clear hT he hx hdx
  go_enter Tryd.func147, Tryd.ntmps147
  go_wp2_with fail
  refine HC.out.mono ?_
  rintro e w2 ⟨rfl, hb2⟩
  have HB2 := Lib.hid hb2
  clear HC hb2 x0 x1 x2 x3 x4
  by_cases h41 : sym x [41]
  · rw [decide_eq_true h41]
    obtain ⟨k1, hk1e⟩ : ∃ k1 : Nat, k1 = k + 1 := ⟨_, rfl⟩
    have hw1 : IntKind.i64.wrap ((k : Int) + 1) = (k1 : Int) := by rw [hk1e, IntWalk.i64_in _ (by omega)]; rfl
    have he1 := ends_next HE.out HX.out (by rw [h41.1]; decide)
    rw [← hk1e] at he1
    obtain ⟨_, _, hk1, _⟩ := ends_at he1
    have HE1 := Lib.hid he1
    have HR : Hid (names0 (L.drop k) = (some [], L.drop k1)) := Lib.hid (by rw [HDX.out, names0, if_pos h41, ← hk1e])
    have hk1a : k ≤ k1 := by omega
    clear h41 he1 hk1e
    go_wp2_with fail
    refine bodyPost_ret (v := .tuple #[.slice none 0 0, .int .i64 k1, .bool true]) (by simp [results, Tryd.results147, go_sem]) rfl ?_
    exact ⟨HB2.out, k1, hk1a, hk1, HE1.out, .inl ⟨[], none, 0, HR.out, rfl, SlX.nil _ _ _⟩⟩
  · rw [decide_eq_false h41]
    have HN0 : Hid (names0 (L.drop k) = namesL (L.drop k)) := Lib.hid (by rw [HDX.out, names0, if_neg h41])
    clear h41
    go_wp2_with fail
    go_loopg [1, 7] (L.length + 1) (fun g a o wr => NmInv L k w g a o wr)
    case atStart => exact ⟨k, [], none, 0, rfl, rfl, by omega, HE.out, Nat.le_refl _, Nat.zero_le _, HB2.out, World.ownsRow_nil _ _ _ _, by rw [map_nil_app]⟩
    case round =>
      clear HB2 HE HX HDX
      obtain ⟨j, ss, A, c, rfl, rfl, hjg, hej, hkj, hsj, hbw, hown, hcont⟩ := hrel
      have HEJ := Lib.hid hej
      have HBW := Lib.hid hbw
      have HOWN := Lib.hid hown
      have HCONT := Lib.hid hcont
      have hws := hbw.size
      obtain ⟨y, hy, hj, hdy⟩ := ends_at hej
      have HY := Lib.hid hy
      have HDY := Lib.hid hdy
      obtain ⟨x0, x1, x2, x3, x4⟩ := tk_at hbw HT.out hlt hy
      have hjI : (j : Int) < (L.length : Int) := by omega
      clear hej hbw hown hcont hy hdy
      by_cases hyk : y.k = 1
      · have h1 : (y.k != 1) = false := by rw [hyk]; rfl
        obtain ⟨j1, hj1e⟩ : ∃ j1 : Nat, j1 = j + 1 := ⟨_, rfl⟩
        have hw1 : IntKind.i64.wrap ((j : Int) + 1) = (j1 : Int) := by rw [hj1e, IntWalk.i64_in _ (by omega)]; rfl
        have he1 := ends_next HEJ.out HY.out (by rw [hyk]; decide)
        rw [← hj1e] at he1
        obtain ⟨z, hz, hj1, hdz⟩ := ends_at he1
        have HE1 := Lib.hid he1
        have HZ := Lib.hid hz
        have HDZ : Hid (L.drop j = y :: z :: L.drop (j1 + 1)) := Lib.hid (by rw [HDY.out, ← hj1e, hdz])
        have HYK := Lib.hid hyk
        have HOWA := Lib.hid (HOWN.out.alloc (.cells #[.string ⟨y.t.toArray⟩] 9))
        have hj1a : j + 1 ≤ j1 := by omega
        have hj1b : j1 ≤ j + 1 := by omega
        clear hyk he1 hj1e hz hdz
        go_wp2_with (at_builtin; refine wpList_append_own _ rfl (.tmp 23) (.tmp 29) 51 rfl w.heap.size 9 i0 _ 1 16 Tryd.underlying51 hi hz0 hz1 hz2 rfl (by decide) _ ss.length _ rfl HOWA.out ⟨wr.heap.size, 0, none⟩ 1 1 [.string ⟨y.t.toArray⟩] rfl rfl ?c1 ?c2 ?c3 ?c4 ?c5 ?_)
        case c1 =>
          intro i u hu
          have : i = 0 := by have := (List.getElem?_eq_some_iff.1 hu).1; simpa using this
          subst this
          simp at hu
          subst hu
          simp [Addr.add]
        case c2 => intro u hu; simp at hu; subst hu; rfl
        case c3 => unfold maxLen; omega
        case c4 => omega
        case c5 => simp; omega
        intro v' w4 ho4 hg4 _
        have hs4 := hg4.size
        simp at hs4
        have hb4 : Below w.heap.size w w4 := (HBW.out.alloc HBW.out.size _).grown hg4 (by simp; omega) (fun i e => (HOWN.out.lt i e).1)
        have HB4 := Lib.hid hb4
        have ho4' : w4.ownsRow w.heap.size 9 1 v' (ss ++ [nmOf y]).length (strsC (ss ++ [nmOf y])) := by
          rw [← strsC_snoc]; simpa [nmOf] using ho4
        obtain ⟨A4, c4, rfl⟩ := own_slice ho4'
        have HO4 := Lib.hid ho4'
        obtain ⟨z0, z1, z2, z3, z4⟩ := tk_at hb4 HT.out hlt HZ.out
        have hj1I : (j1 : Int) < (L.length : Int) := by omega
        have HC := Lib.hid (Is_any z ⟨#[41]⟩ [41] l41 w4)
        unfold tkW at HC
        clear ho4 hg4 ho4' hb4 x0 x1 x2 x3 x4 h1
        go_wp2_with fail
        refine HC.out.mono ?_
        rintro e w5 ⟨rfl, hb5⟩
        have HB5 := Lib.hid (HB4.out.trans (hb5.mono HB4.out.size))
        have HO5 := Lib.hid (own_below HO4.out hb5)
        have hs5 := hb5.size
        clear hb5 HC z0 z1 z2 z3 z4 hw1
        by_cases h41 : sym z [41]
        · rw [decide_eq_true h41]
          obtain ⟨k3, hk3e⟩ : ∃ k3 : Nat, k3 = j1 + 1 := ⟨_, rfl⟩
          have hw3 : IntKind.i64.wrap ((j1 : Int) + 1) = (k3 : Int) := by rw [hk3e, IntWalk.i64_in _ (by omega)]; rfl
          have he3 := ends_next HE1.out HZ.out (by rw [h41.1]; decide)
          rw [← hk3e] at he3
          obtain ⟨_, _, hk3, _⟩ := ends_at he3
          have HE3 := Lib.hid he3
          have HR : Hid (names0 (L.drop k) = (some (ss ++ [nmOf y]), L.drop k3)) := Lib.hid (by
            rw [HN0.out, HCONT.out, HDZ.out, namesL_last HYK.out h41, ← hk3e]; rfl)
          obtain ⟨A5, c5, e5, _, _, hsl⟩ := slX_own HO5.out rfl
          injection e5 with e5 _ e6
          subst e5 e6
          have HSL := Lib.hid hsl
          have hk3a : k ≤ k3 := by omega
          clear h41 he3 hk3e hsl
          go_wp2_with fail
          refine bodyPost_ret (v := .tuple #[.slice A4 (ss ++ [nmOf y]).length c4, .int .i64 k3, .bool true]) (by simp [results, Tryd.results147, go_sem]) rfl ?_
          exact ⟨HB5.out, k3, hk3a, hk3, HE3.out, .inl ⟨ss ++ [nmOf y], A4, c4, HR.out, rfl, HSL.out.imp (fun b hb => ⟨hb.1, hb.2.1⟩)⟩⟩
        · rw [decide_eq_false h41]
          have H41 := Lib.hid h41
          obtain ⟨z0, z1, z2, z3, z4⟩ := tk_at HB5.out HT.out hlt HZ.out
          have HC := Lib.hid (Is_any z ⟨#[44]⟩ [44] l44 w5)
          unfold tkW at HC
          clear h41
          go_wp2_with fail
          refine HC.out.mono ?_
          rintro e w6 ⟨rfl, hb6⟩
          have HB6 := Lib.hid (HB5.out.trans (hb6.mono HB5.out.size))
          have HO6 := Lib.hid (own_below HO5.out hb6)
          have hs6 := hb6.size
          clear hb6 HC z0 z1 z2 z3 z4
          by_cases h44 : sym z [44]
          · rw [decide_eq_true h44]
            obtain ⟨k3, hk3e⟩ : ∃ k3 : Nat, k3 = j1 + 1 := ⟨_, rfl⟩
            have hw3 : IntKind.i64.wrap ((j1 : Int) + 1) = (k3 : Int) := by rw [hk3e, IntWalk.i64_in _ (by omega)]; rfl
            have he3 := ends_next HE1.out HZ.out (by rw [h44.1]; decide)
            rw [← hk3e] at he3
            obtain ⟨_, _, hk3, _⟩ := ends_at he3
            have HE3 := Lib.hid he3
            have HR : Hid (namesL (L.drop k) = ((namesL (L.drop k3)).1.map ((ss ++ [nmOf y]) ++ ·), (namesL (L.drop k3)).2)) := Lib.hid (by
              rw [HCONT.out, HDZ.out, namesL_more HYK.out H41.out h44, ← hk3e, Option.map_map]
              congr 2
              funext r; simp)
            have hk3a : j1 + 1 ≤ k3 := by omega
            clear h44 he3 hk3e
            go_wp2_with fail
            go_roundg (L.length - k3)
            case rel => exact ⟨k3, ss ++ [nmOf y], A4, c4, rfl, by simp, Nat.le_refl _, HE3.out, by omega, by simp; omega, HB6.out, HO6.out, HR.out⟩
            case measure => omega
          · rw [decide_eq_false h44]
            have HR : Hid (names0 (L.drop k) = (none, L.drop j1)) := Lib.hid (by
              have e : L.drop j1 = z :: L.drop (j1 + 1) := by
                obtain ⟨z', hz', _, e⟩ := ends_at HE1.out
                rw [HZ.out] at hz'; injection hz' with hz'; subst hz'; exact e
              rw [HN0.out, HCONT.out, HDZ.out, namesL_stop HYK.out H41.out h44, e]; rfl)
            clear h44
            go_wp2_with fail
            refine bodyPost_ret (v := .tuple #[.slice none 0 0, .int .i64 j1, .bool false]) (by simp [results, Tryd.results147, go_sem]) rfl ?_
            exact ⟨HB6.out, j1, by omega, hj1, HE1.out, .inr ⟨HR.out, rfl⟩⟩
      · have h1 : (y.k != 1) = true := bne_iff_ne.2 hyk
        have HR : Hid (names0 (L.drop k) = (none, L.drop j)) := Lib.hid (by rw [HN0.out, HCONT.out, HDY.out, namesL_bad hyk]; rfl)
        clear hyk
        go_wp2_with fail
        refine bodyPost_ret (v := .tuple #[.slice none 0 0, .int .i64 j, .bool false]) (by simp [results, Tryd.results147, go_sem]) rfl ?_
        exact ⟨HBW.out, j, hkj, hj, HEJ.out, .inr ⟨HR.out, rfl⟩⟩

/-- What Declaration hands back. -/
def DcPost (L : List Tk) (k : Nat) (w : World) (e : Ending) (w' : World) : Prop :=
  Below w.heap.size w w' ∧ ∃ k' : Nat, k ≤ k' ∧ k' < L.length ∧ EndsK (L.drop k') ∧
    ((∃ d A c, k < k' ∧ declL (L.drop k) = (some d, L.drop k') ∧ e = .returned (.tuple #[.agg #[.string d.nm, .slice A d.args.length c, .string d.res], .int .i64 k', .bool true]) ∧ SlX (fun b => w.heap.size ≤ b ∧ b < w'.heap.size) w' A d.args) ∨
     (declL (L.drop k) = (none, L.drop k') ∧ e = .returned (.tuple #[.agg #[.string ⟨#[]⟩, .slice none 0 0, .string ⟨#[]⟩], .int .i64 k', .bool false])))

set_option maxHeartbeats 8000000 in
theorem Declaration_any (L : List Tk) (tb tq cap : Nat) (hL : L.length ≤ 100000) (k : Nat) (w : World) (hT : TkAt w tb tq L) (hlt : tb < w.heap.size) (he : EndsK (L.drop k)) :
    Calls Tryd.prog 137 #[.slice (some ⟨tb, tq, none⟩) L.length cap, .int .i64 k] w (DcPost L k w) := by
  obtain ⟨x, hx, hk, hdx⟩ := ends_at he
  have HT := Lib.hid hT
  have HE := Lib.hid he
  have HX := Lib.hid hx
  have HDX := Lib.hid hdx
  have hB0 : Below w.heap.size w (w.alloc (.cells #[.string ⟨#[]⟩, .slice none 0 0, .string ⟨#[]⟩] 140)) := (Below.refl _ _).alloc (Nat.le_refl _) _
  have hR0 := heap_alloc_new w (.cells #[.string ⟨#[]⟩, .slice none 0 0, .string ⟨#[]⟩] 140)
  have hs0 : (w.alloc (.cells #[.string ⟨#[]⟩, .slice none 0 0, .string ⟨#[]⟩] 140)).heap.size = w.heap.size + 1 := by simp
  have hs1 := Nat.le_of_eq hs0
  have hs2 := Nat.le_of_eq hs0.symm
  have HS0 := Lib.hid hs0
  have HB0 := Lib.hid hB0
  have HR0 := Lib.hid hR0
  clear hT he hx hdx hB0 hR0 hs0
  go_enter Tryd.func137, Tryd.ntmps137
  go_upto_region 1 with fail
  generalize w.alloc (.cells #[.string ⟨#[]⟩, .slice none 0 0, .string ⟨#[]⟩] 140) = W0 at HB0 HR0 HS0 hs1 hs2 ⊢
  obtain ⟨⟨r0, r1, r2⟩, rf0, rf1, rf2⟩ := blk3 HR0.out
  obtain ⟨x0, x1, x2, x3, x4⟩ := tk_at HB0.out HT.out hlt HX.out
  have hkI : (k : Int) < (L.length : Int) := by omega
  by_cases hxk : x.k = 1
  · have h1 : (x.k != 1) = false := by rw [hxk]; rfl
    have HXK := Lib.hid hxk
    have he1 := ends_next HE.out HX.out (by rw [hxk]; decide)
    obtain ⟨y, hy, hk1, hdy⟩ := ends_at he1
    have HE1 := Lib.hid he1
    have HY := Lib.hid hy
    clear hxk he1
    obtain ⟨k1, hk1e⟩ : ∃ k1 : Nat, k1 = k + 1 := ⟨_, rfl⟩
    have hw1 : IntKind.i64.wrap ((k : Int) + 1) = (k1 : Int) := by rw [hk1e, IntWalk.i64_in _ (by omega)]; rfl
    rw [← hk1e] at HE1 HY hk1 hdy
    have HD : Hid (declL (L.drop k) = tailL (nmOf x) (argsL (y :: L.drop (k1 + 1)))) := Lib.hid (by rw [HDX.out, declL_yes HXK.out, ← hk1e, hdy])
    have HDY := Lib.hid hdy
    have hk1a : k + 1 ≤ k1 := by omega
    have hk1b : k1 ≤ k + 1 := by omega
    clear hk1e hy hdy
    go_upto_region 4 with fail
    rw [HS0.out]
    have hB1 : Below w.heap.size w (W0.alloc (.cells #[.string ⟨x.t.toArray⟩, .slice none 0 0, .string ⟨#[]⟩] 140)) := HB0.out.alloc (by omega) _
    have hT1 := heap_alloc_new W0 (.cells #[.string ⟨x.t.toArray⟩, .slice none 0 0, .string ⟨#[]⟩] 140)
    rw [HS0.out] at hT1
    have hR1 := (Below.heap_alloc W0 (.cells #[.string ⟨x.t.toArray⟩, .slice none 0 0, .string ⟨#[]⟩] 140) w.heap.size (by omega)).trans HR0.out
    have hs1' : (W0.alloc (.cells #[.string ⟨x.t.toArray⟩, .slice none 0 0, .string ⟨#[]⟩] 140)).heap.size = w.heap.size + 2 := by simp; omega
    generalize W0.alloc (.cells #[.string ⟨x.t.toArray⟩, .slice none 0 0, .string ⟨#[]⟩] 140) = W1 at hB1 hT1 hR1 hs1' ⊢
    have HB1 := Lib.hid hB1
    have HT1 := Lib.hid hT1
    have HR1 := Lib.hid hR1
    have hsa := Nat.le_of_eq hs1'
    have hsb := Nat.le_of_eq hs1'.symm
    clear hB1 hT1 hR1 hs1' x0 x1 x2 x3 x4 r0 r1 r2 rf0 rf1 rf2 hs1 hs2 HB0 HR0 HS0 h1
    obtain ⟨x0, x1, x2, x3, x4⟩ := tk_at HB1.out HT.out hlt HY.out
    have hk1I : (k1 : Int) < (L.length : Int) := by omega
    have HC := Lib.hid (Is_any y ⟨#[40]⟩ [40] l40 W1)
    unfold tkW at HC
    go_wp2_with fail
    refine HC.out.mono ?_
    rintro e w2 ⟨rfl, hb2⟩
    have hs2 := hb2.size
    have HB2 := Lib.hid (HB1.out.trans (hb2.mono HB1.out.size))
    have HT2 := Lib.hid (cells_below HT1.out hb2)
    have HR2 := Lib.hid (cells_below HR1.out hb2)
    clear hb2 HC x0 x1 x2 x3 x4
    obtain ⟨⟨r0, r1, r2⟩, rf0, rf1, rf2⟩ := blk3 HR2.out
    by_cases h40 : sym y [40]
    · rw [decide_eq_true h40]
      have he2 := ends_next HE1.out HY.out (by rw [h40.1]; decide)
      obtain ⟨k2, hk2e⟩ : ∃ k2 : Nat, k2 = k1 + 1 := ⟨_, rfl⟩
      have hw2 : IntKind.i64.wrap ((k : Int) + 2) = (k2 : Int) := by rw [hk2e, IntWalk.i64_in _ (by omega)]; omega
      rw [← hk2e] at he2 HD HDY
      obtain ⟨_, _, hk2, _⟩ := ends_at he2
      have HD2 : Hid (declL (L.drop k) = tailL (nmOf x) (names0 (L.drop k2))) := Lib.hid (by rw [HD.out, argsL, if_pos h40])
      have HN := Lib.hid (refNames_any L tb tq cap hL k2 w2 (fun i u hu => tk_at HB2.out HT.out hlt hu) (by have := HB2.out.size; omega) he2)
      have hk2a : k1 + 1 ≤ k2 := by omega
      have hk2b : k2 ≤ k1 + 1 := by omega
      clear he2 hk2e h40 r0 r1 r2 rf0 rf1 rf2 hw1
      go_wp2_with fail
      refine HN.out.mono ?_
      rintro e w3 ⟨hb3, j, hj2, hj, hej, hcase⟩
      have hs3 := hb3.size
      have HB3 := Lib.hid (HB2.out.trans (hb3.mono HB2.out.size))
      have HT3 := Lib.hid (cells_below HT2.out hb3)
      have HR3 := Lib.hid (cells_below HR2.out hb3)
      have HEJ := Lib.hid hej
      obtain ⟨⟨r0, r1, r2⟩, rf0, rf1, rf2⟩ := blk3 HR3.out
      obtain ⟨u, hu, _, hdu⟩ := ends_at hej
      have HU := Lib.hid hu
      have HDU := Lib.hid hdu
      clear hb3 hej HN hu hdu
      rcases hcase with ⟨ns, A, c, hns, rfl, hsl⟩ | ⟨hns, rfl⟩
      · have HSL := Lib.hid hsl
        have HD3 : Hid (declL (L.drop k) = tailL (nmOf x) (some ns, u :: L.drop (j + 1))) := Lib.hid (by rw [HD2.out, hns, HDU.out])
        obtain ⟨⟨t0, t1, t2⟩, tf0, tf1, tf2⟩ := blk3 HT3.out
        clear hns hsl
        go_upto_region 10 with fail
        have hB4 : Below w.heap.size w (w3.setCell ⟨w.heap.size + 1, 1, none⟩ (.slice A ns.length c)) := HB3.out.setCell (p := ⟨w.heap.size + 1, 1, none⟩) (Nat.le_succ _) _
        have hR4 := (Below.heap_setCell w3 ⟨w.heap.size + 1, 1, none⟩ (.slice A ns.length c) w.heap.size (show w.heap.size ≠ w.heap.size + 1 by omega)).trans HR3.out
        have hT4 : (w3.setCell ⟨w.heap.size + 1, 1, none⟩ (.slice A ns.length c)).heap[w.heap.size + 1]? = some (.cells #[.string ⟨x.t.toArray⟩, .slice A ns.length c, .string ⟨#[]⟩] 140 (0, 0)) := by
          have := HT3.out
          simp [World.setCell, Array.getElem?_modify, this]
        have hS4 : (w3.setCell ⟨w.heap.size + 1, 1, none⟩ (.slice A ns.length c)).heap.size = w3.heap.size := by simp
        have hX4 : SlX (fun b => w2.heap.size ≤ b ∧ b < w3.heap.size) (w3.setCell ⟨w.heap.size + 1, 1, none⟩ (.slice A ns.length c)) A ns := HSL.out.keep (fun b hb => Below.heap_setCell _ _ _ _ (show b ≠ w.heap.size + 1 by have := hb.1; omega))
        generalize w3.setCell ⟨w.heap.size + 1, 1, none⟩ (.slice A ns.length c) = w4 at hB4 hR4 hT4 hS4 hX4 ⊢
        have HB4 := Lib.hid hB4
        have HR4 := Lib.hid hR4
        have HT4 := Lib.hid hT4
        have HX4 := Lib.hid hX4
        have hsc := Nat.le_of_eq hS4
        have hsd := Nat.le_of_eq hS4.symm
        clear hB4 hR4 hT4 hS4 hX4 r0 r1 r2 rf0 rf1 rf2 t0 t1 t2 tf0 tf1 tf2 HSL HB3 HT3 HR3
        obtain ⟨x0, x1, x2, x3, x4⟩ := tk_at HB4.out HT.out hlt HU.out
        have hjI : (j : Int) < (L.length : Int) := by omega
        have HC := Lib.hid (Is_any u ⟨#[45, 62]⟩ [45, 62] lArr w4)
        unfold tkW at HC
        go_wp2_with fail
        refine HC.out.mono ?_
        rintro e w5 ⟨rfl, hb5⟩
        have hs5 := hb5.size
        have HB5 := Lib.hid (HB4.out.trans (hb5.mono HB4.out.size))
        have HT5 := Lib.hid (cells_below HT4.out hb5)
        have HR5 := Lib.hid (cells_below HR4.out hb5)
        have HX5 := Lib.hid (HX4.out.keep (fun b hb => hb5.block b (by have := hb.2; omega)))
        clear hb5 HC x0 x1 x2 x3 x4
        obtain ⟨⟨r0, r1, r2⟩, rf0, rf1, rf2⟩ := blk3 HR5.out
        by_cases ha : sym u [45, 62]
        · rw [decide_eq_true ha]
          have he5 := ends_next HEJ.out HU.out (by rw [ha.1]; decide)
          obtain ⟨j1, hj1e⟩ : ∃ j1 : Nat, j1 = j + 1 := ⟨_, rfl⟩
          have hw3 : IntKind.i64.wrap ((j : Int) + 1) = (j1 : Int) := by rw [hj1e, IntWalk.i64_in _ (by omega)]; rfl
          rw [← hj1e] at he5 HD3
          obtain ⟨z, hz, hj1, hdz⟩ := ends_at he5
          have HE5 := Lib.hid he5
          have HZ := Lib.hid hz
          have HA := Lib.hid ha
          have HDZ := Lib.hid hdz
          obtain ⟨x0, x1, x2, x3, x4⟩ := tk_at HB5.out HT.out hlt hz
          have hj1I : (j1 : Int) < (L.length : Int) := by omega
          have hj1a : j + 1 ≤ j1 := by omega
          have hj1b : j1 ≤ j + 1 := by omega
          clear ha he5 hj1e hz hdz
          by_cases hzk : z.k = 1
          · have h1 : (z.k != 1) = false := by rw [hzk]; rfl
            obtain ⟨j2, hj2e⟩ : ∃ j2 : Nat, j2 = j1 + 1 := ⟨_, rfl⟩
            have hw4 : IntKind.i64.wrap ((j : Int) + 2) = (j2 : Int) := by rw [hj2e, IntWalk.i64_in _ (by omega)]; omega
            have he6 := ends_next HE5.out HZ.out (by rw [hzk]; decide)
            rw [← hj2e] at he6
            obtain ⟨_, _, hj2', _⟩ := ends_at he6
            have HE6 := Lib.hid he6
            have HD4 : Hid (declL (L.drop k) = (some ⟨nmOf x, ns, nmOf z⟩, L.drop j2)) := Lib.hid (by rw [HD3.out, HDZ.out, tailL_yes HA.out hzk, ← hj2e])
            have hj2a : j1 + 1 ≤ j2 := by omega
            obtain ⟨⟨t0, t1, t2⟩, tf0, tf1, tf2⟩ := blk3 HT5.out
            clear hzk he6 hj2e
            go_wp2_with fail
            refine bodyPost_ret (v := .tuple #[.agg #[.string (nmOf x), .slice A ns.length c, .string (nmOf z)], .int .i64 j2, .bool true]) (by simp [results, Tryd.results137, go_sem, r0, r1, r2, nmOf]) rfl ?_
            refine ⟨set3_below (HB5.out.setCell (p := ⟨w.heap.size + 1, 2, none⟩) (Nat.le_succ _) _) w.heap.size 0 _ _ _ (Nat.le_refl _), j2, by omega, hj2', HE6.out, .inl ⟨⟨nmOf x, ns, nmOf z⟩, A, c, by omega, HD4.out, rfl, ?_⟩⟩
            refine (HX5.out.keep (fun b hb => ?_)).imp (fun b hb => ⟨by have := hb.1; omega, by have := hb.2; simp; omega⟩)
            have h1 := hb.1
            (repeat' (first | rfl | refine (Below.heap_setCell _ _ _ _ (by simp; omega)).trans ?_))
          · have h1 : (z.k != 1) = true := bne_iff_ne.2 hzk
            have HD4 : Hid (declL (L.drop k) = (none, L.drop j1)) := Lib.hid (by rw [HD3.out, HDZ.out, tailL_bad HA.out hzk])
            clear hzk
            go_wp2_with fail
            refine bodyPost_ret (v := .tuple #[.agg #[.string ⟨#[]⟩, .slice none 0 0, .string ⟨#[]⟩], .int .i64 j1, .bool false]) (by simp [results, Tryd.results137, go_sem, r0, r1, r2]) rfl ?_
            exact ⟨set3_below HB5.out w.heap.size 0 _ _ _ (Nat.le_refl _), j1, by omega, hj1, HE5.out, .inr ⟨HD4.out, rfl⟩⟩
        · rw [decide_eq_false ha]
          have HD4 : Hid (declL (L.drop k) = (none, L.drop j)) := Lib.hid (by rw [HD3.out, tailL_no ha, HDU.out])
          clear ha
          go_wp2_with fail
          refine bodyPost_ret (v := .tuple #[.agg #[.string ⟨#[]⟩, .slice none 0 0, .string ⟨#[]⟩], .int .i64 j, .bool false]) (by simp [results, Tryd.results137, go_sem, r0, r1, r2]) rfl ?_
          exact ⟨set3_below HB5.out w.heap.size 0 _ _ _ (Nat.le_refl _), j, by omega, hj, HEJ.out, .inr ⟨HD4.out, rfl⟩⟩
      · have HD4 : Hid (declL (L.drop k) = (none, L.drop j)) := Lib.hid (by rw [HD2.out, hns, tailL_none])
        clear hns
        go_wp2_with fail
        refine bodyPost_ret (v := .tuple #[.agg #[.string ⟨#[]⟩, .slice none 0 0, .string ⟨#[]⟩], .int .i64 j, .bool false]) (by simp [results, Tryd.results137, go_sem, r0, r1, r2]) rfl ?_
        exact ⟨set3_below HB3.out w.heap.size 0 _ _ _ (Nat.le_refl _), j, by omega, hj, HEJ.out, .inr ⟨HD4.out, rfl⟩⟩
    · rw [decide_eq_false h40]
      have HD4 : Hid (declL (L.drop k) = (none, L.drop k1)) := Lib.hid (by rw [HD.out, argsL, if_neg h40, tailL_none, HDY.out])
      clear h40
      go_wp2_with fail
      refine bodyPost_ret (v := .tuple #[.agg #[.string ⟨#[]⟩, .slice none 0 0, .string ⟨#[]⟩], .int .i64 k1, .bool false]) (by simp [results, Tryd.results137, go_sem, r0, r1, r2]) rfl ?_
      exact ⟨set3_below HB2.out w.heap.size 0 _ _ _ (Nat.le_refl _), k1, by omega, hk1, HE1.out, .inr ⟨HD4.out, rfl⟩⟩
  · have h1 : (x.k != 1) = true := bne_iff_ne.2 hxk
    have HD4 : Hid (declL (L.drop k) = (none, L.drop k)) := Lib.hid (by rw [HDX.out, declL_no hxk])
    clear hxk
    go_wp2_with fail
    refine bodyPost_ret (v := .tuple #[.agg #[.string ⟨#[]⟩, .slice none 0 0, .string ⟨#[]⟩], .int .i64 k, .bool false]) (by simp [results, Tryd.results137, go_sem, r0, r1, r2]) rfl ?_
    exact ⟨set3_below HB0.out w.heap.size 0 _ _ _ (Nat.le_refl _), k, Nat.le_refl _, hk, HE.out, .inr ⟨HD4.out, rfl⟩⟩
end Go.Proofs.YthbcfcbonmphfaaDoor
