/- numbers; what awake finds. -/
import Derived.Test.YthbcfcbonmphfaaGreatDoorTermTBundle
import Derived.Test.YthbcfcbonmphfaaGreatDoorTermGBundle
import Derived.Deep.RegionWith
import Derived.Deep.DeepCutAuto
import Derived.Deep.CutBlock
import Derived.Test.YthbcfcbonmphfaaGreatDoorTermJBundle
import Derived.Test.YthbcfcbonmphfaaGreatDoorTermLBundle
import Derived.Test.YthbcfcbonmphfaaGreatDoorFormBBundle
import Derived.Test.YthbcfcbonmphfaaGreatDoorTermQBundle
/- Parse, where the text has tokens. -/
namespace Go.Proofs.YthbcfcbonmphfaaGreatDoor
open Go.RowKit Go.Shelf
set_option maxRecDepth 100000

theorem tlen_mem : ∀ {L : List Tk} {x : Tk}, x ∈ L → x.t.length ≤ tlen L
  | [], x, h => by cases h
  | y :: L, x, h => by
    unfold tlen
    rcases List.mem_cons.1 h with rfl | h
    · omega
    · have := tlen_mem h; omega

set_option maxHeartbeats 16000000 in
theorem Parse_ok (s : ByteArray) (w : World) (hle : s.size ≤ 65536) (hp : Pairs w) (L : List Tk) (htk : toks s.data.toList 1 1 = .ok L) : Calls Tryz.prog 24 #[.string s] w (ParsePost s w) := by
  have H0 := Lib.hid (RW.start w)
  have HP0 := Lib.hid ((hp.alloc (.cells #[.string ⟨#[]⟩, .string ⟨#[]⟩, .slice none 0 0] 28)).alloc (.cells #[.int .i64 0, .int .i64 0] 53))
  clear hp
  · have HS : Hid (s.size ≤ 65536) := Lib.hid (by omega)
    have HT := Lib.hid (tokens_any s ((w.alloc (.cells #[.string ⟨#[]⟩, .string ⟨#[]⟩, .slice none 0 0] 28)).alloc (.cells #[.int .i64 0, .int .i64 0] 53)) (by omega) HP0.out)
    clear hle
    go_enter Tryz.func24, Tryz.ntmps24
    go_wp2_with fail
    refine HT.out.mono ?_
    rintro e w1 ⟨hb1, hT⟩
    have H1 := Lib.hid (H0.out.next hb1)
    have H2 := Lib.hid (H1.out.next ((Below.refl _ _).alloc (Nat.le_refl _) (.cells #[.int .i64 0, .int .i64 0] 53)))
    have hs1' := hb1.size
    simp at hs1'
    have hlt0 : w.heap.size < w1.heap.size := by omega
    have hlt1 : w.heap.size + 1 < w1.heap.size := by omega
    clear HT
    · rw [htk] at hT
      simp only at hT
      obtain ⟨v, rfl, ho⟩ := hT
      obtain ⟨hval, _, hends, htl, hln⟩ := toks_places _ _ htk
      have hek := ends_k hends
      have hne : 0 < L.length := by obtain ⟨a, b, e⟩ := hek.ne; rw [e]; simp
      obtain ⟨g, c, rfl, hc1, hc2, hg, htat⟩ := pb_of_own ho hne
      rw [size_toList] at hln
      have hLn : L.length ≤ 65537 := by have := HS.out; omega
      have hpb := pb_new hc1 hc2 hg htat (.cells #[.int .i64 0, .int .i64 0] 53)
      have HTT := Lib.hid (term_any (w1.heap.size + 1) L.length L _ (Nat.le_refl _) (by omega) hpb hek)
      unfold TermOk at HTT
      have HTK := Lib.hid htk
      have H3 := Lib.hid (H2.out.next ((Below.refl _ _).alloc (Nat.le_refl _) (.cells #[.slice (some ⟨g, 0, none⟩) L.length c] 106)))
      have HPX : Hid (((w1.alloc (.cells #[.int .i64 0, .int .i64 0] 53)).alloc (.cells #[.slice (some ⟨g, 0, none⟩) L.length c] 106)).heap[w1.heap.size]? = some (.cells #[.int .i64 0, .int .i64 0] 53 (0, 0))) := Lib.hid ((Below.heap_alloc _ _ _ (by simp)).trans (heap_alloc_new w1 _))
      have HPM := Lib.hid (fun x (hx : x ∈ L) => Nat.le_trans (tlen_mem hx) htl)
      clear htk hb1 ho hval hends htl hpb hek htat hc1 hc2 hne
      go_wp2_with fail
      refine HTT.out.mono ?_
      rintro e w3 ⟨l', hp3, he3, hl3, hg3, hcase⟩
      obtain ⟨x, lr, rfl⟩ := he3.ne
      have H4 := Lib.hid (H3.out.grown hg3 (by omega))
      have HPX3 := Lib.hid (grown_block HPX.out hg3 (by omega))
      have HP3 := Lib.hid hp3
      have HG3 := Lib.hid hg3
      have hs3 := hg3.size
      simp at hs3
      clear hp3 he3 hg3 HTT
      rcases hcase with ⟨t, A, ct, hpt, rfl, htx⟩ | ⟨n, hpt, rfl⟩
      · have HPT := Lib.hid hpt
        have HTX := Lib.hid htx
        have HBX := Lib.hid ((Below.refl w3.heap.size w3).alloc (Nat.le_refl _) (.cells (tcells t A ct) 28))
        have HE := Lib.hid (atEnd_any (w1.heap.size + 1) x lr _ (HP3.out.below HBX.out))
        have H5 := Lib.hid (H4.out.next HBX.out)
        obtain ⟨_, hokt⟩ := PT_ok (M := 65537) hpt (fun y hy => Nat.le_trans (HPM.out y hy) (by rw [size_toList]; have := HS.out; omega)) hLn
        obtain ⟨hok0, hsz0⟩ := hokt t rfl
        have HOKT := Lib.hid (hok0.mono (m' := maxLen) (by unfold maxLen; omega))
        have hsz : t.size ≤ 140737488355326 := by omega
        have hdp : t.depth ≤ 140737488355326 := Nat.le_trans (Tm.depth_le t).2 hsz
        have hrep := ((htx.rep (n₀ := w3.heap.size) (fun b hb => hb.2)).later HBX.out).mono HBX.out.size
        have HREP := Lib.hid hrep
        have HBT := Lib.hid (heap_alloc_new w3 (.cells (tcells t A ct) 28))
        clear hpt htx hokt hok0 hsz0 hrep
        unfold TV
        by_cases hk : x.k = 5
        · have hkb : (x.k == 5) = true := by rw [hk]; rfl
          have HK := Lib.hid hk
          obtain ⟨⟨b0, b1, b2⟩, _⟩ := blk3 HBT.out
          have HFI := Lib.hid (fits_any t A ct _ HREP.out HOKT.out hdp)
          clear hk
          unfold TV at HFI
          go_wp2_with fail
          refine HE.out.mono ?_
          rintro e w4 ⟨rfl, rfl⟩
          go_wp2_with fail
          refine HFI.out.mono ?_
          rintro e w4 ⟨rfl, hb4⟩
          have H6 := Lib.hid (H5.out.next hb4)
          have HBT4 := Lib.hid (cells_below HBT.out hb4)
          have HB4 := Lib.hid (HBX.out.trans (hb4.mono HBX.out.size))
          have hs4 := hb4.size
          simp at hs4
          clear hb4 b0 b1 b2 HFI HE
          generalize hf : fitsL (t.pre 1) = f
          cases f
          · obtain ⟨⟨x0, x1, x2⟩, xf0, xf1, xf2⟩ := blk3 H6.out.c0
            obtain ⟨⟨y0, y1⟩, yf0, yf1⟩ := blk2 H6.out.c1
            have HF := Lib.hid hf
            clear hf
            go_wp2_with fail
            refine bodyPost_ret (v := .tuple #[TV0, .agg #[.int .i64 0, .int .i64 0], .int .i64 4]) (by simp [results, Tryz.results24, go_sem, x0, x1, x2, y0, y1, TV0]) rfl ?_
            refine ⟨?_, .inr (.inr (.inr ⟨HS.out, L, t, x, lr, HTK.out, HPT.out, HK.out, .inl ⟨HF.out, rfl⟩⟩))⟩
            (repeat' (first | exact H6.out.below | refine Below.drew ?_ | refine Below.setCell ?_ (by simp) _ | refine Below.alloc ?_ (by simp <;> omega) _))
          · have HF := Lib.hid hf
            have HVS := Lib.hid (varSorts_any t A ct w4 (((HREP.out.later (by exact (Below.refl _ _))).later (by exact (Below.refl _ _))) |> fun _ => ((HTX.out.rep (n₀ := w3.heap.size) (fun b hb => hb.2)).later HB4.out).mono (by omega)) HOKT.out hdp hsz)
            obtain ⟨⟨b0, b1, b2⟩, _⟩ := blk3 HBT4.out
            clear hf
            unfold TV at HVS
            go_wp2_with fail
            refine HVS.out.mono ?_
            rintro e w5 ⟨⟨m, rfl, _⟩, hb5⟩
            have H7 := Lib.hid (H6.out.next hb5)
            have HBT5 := Lib.hid (cells_below HBT4.out hb5)
            have HB5 := Lib.hid (HB4.out.trans (hb5.mono (by omega)))
            have hs5 := hb5.size
            obtain ⟨⟨x0, x1, x2⟩, xf0, xf1, xf2⟩ := blk3 H7.out.c0
            obtain ⟨⟨y0, y1⟩, yf0, yf1⟩ := blk2 H7.out.c1
            clear hb5 b0 b1 b2 HVS
            obtain ⟨⟨b0, b1, b2⟩, _⟩ := blk3 HBT5.out
            generalize hg : agreeL (t.pre 1) = ag
            have HAG := Lib.hid hg
            clear hg
            cases ag
            · go_wp2_with fail
              refine bodyPost_ret (v := .tuple #[TV0, .agg #[.int .i64 0, .int .i64 0], .int .i64 11]) (by simp [results, Tryz.results24, go_sem, x0, x1, x2, y0, y1, TV0]) rfl ?_
              refine ⟨?_, .inr (.inr (.inr ⟨HS.out, L, t, x, lr, HTK.out, HPT.out, HK.out, .inr (.inl ⟨HF.out, HAG.out, rfl⟩)⟩))⟩
              (repeat' (first | exact H7.out.below | refine Below.drew ?_ | refine Below.setCell ?_ (by simp) _ | refine Below.alloc ?_ (by simp <;> omega) _))
            · go_wp2_with fail
              refine bodyPost_ret (v := .tuple #[TV t A ct, .agg #[.int .i64 0, .int .i64 0], .int .i64 0]) (by simp [results, Tryz.results24, go_sem, x0, x1, x2, y0, y1, TV]) rfl ?_
              refine ⟨?_, .inr (.inr (.inr ⟨HS.out, L, t, x, lr, HTK.out, HPT.out, HK.out, .inr (.inr ⟨HF.out, HAG.out, A, ct, rfl, ?_⟩)⟩))⟩
              · (repeat' (first | exact H7.out.below | refine Below.drew ?_ | refine Below.setCell ?_ (by simp) _ | refine Below.alloc ?_ (by simp <;> omega) _))
              · refine ((HTX.out.keep (fun b hb => HB5.out.block b hb.2)).keep (fun b hb => ?_)).imp (fun b hb => ⟨by have := hb.1; simp at this; omega, by simp; omega⟩)
                have h1 := hb.1
                simp at h1
                (repeat' (first | rfl | refine (Below.heap_setCell _ _ _ _ (by simp; omega)).trans ?_))
        · have hkb : (x.k == 5) = false := beq_eq_false_iff_ne.2 hk
          have HK := Lib.hid hk
          have HF := Lib.hid (fault_any (w1.heap.size + 1) x lr _ (HP3.out.below HBX.out))
          clear hk
          go_wp2_with fail
          refine HE.out.mono ?_
          rintro e w4 ⟨rfl, rfl⟩
          clear H5
          go_wp2_with fail
          refine HF.out.mono ?_
          rintro e w4 ⟨rfl, hb4⟩
          have H5 := Lib.hid ((H4.out.next HBX.out).next hb4)
          have q0 := cells_below (cells_below HPX3.out HBX.out) hb4
          obtain ⟨⟨p0, p1⟩, pf0, pf1⟩ := blk2 q0
          have hs4 := hb4.size
          simp at hs4
          have r0 := heap_setCell_same _ w1.heap.size 1 _ _ (.int .i64 x.b) (heap_setCell_same w4 w1.heap.size 0 _ _ (.int .i64 x.a) q0)
          have H6 : RW w ((w4.setCell ⟨w1.heap.size, 0, none⟩ (.int .i64 x.a)).setCell ⟨w1.heap.size, 1, none⟩ (.int .i64 x.b)) :=
            ⟨(H5.out.below.setCell (p := ⟨w1.heap.size, 0, none⟩) (by show w.heap.size ≤ w1.heap.size; omega) _).setCell (p := ⟨w1.heap.size, 1, none⟩) (by show w.heap.size ≤ w1.heap.size; omega) _,
              (Below.heap_setCell _ _ _ _ (by simp; omega)).trans ((Below.heap_setCell _ _ _ _ (by simp; omega)).trans H5.out.c0),
              (Below.heap_setCell _ _ _ _ (by simp; omega)).trans ((Below.heap_setCell _ _ _ _ (by simp; omega)).trans H5.out.c1)⟩
          have hlt5 : w1.heap.size < ((w4.setCell ⟨w1.heap.size, 0, none⟩ (.int .i64 x.a)).setCell ⟨w1.heap.size, 1, none⟩ (.int .i64 x.b)).heap.size := by simp; omega
          clear q0 hb4 HF
          go_wp2_with fail
          clear p0 p1 pf0 pf1
          generalize ((w4.setCell ⟨w1.heap.size, 0, none⟩ (.int .i64 x.a)).setCell ⟨w1.heap.size, 1, none⟩ (.int .i64 x.b)) = W5 at r0 H6 hlt5 ⊢
          obtain ⟨⟨p0, p1⟩, pf0, pf1⟩ := blk2 r0
          obtain ⟨⟨x0, x1, x2⟩, xf0, xf1, xf2⟩ := blk3 H6.c0
          obtain ⟨⟨y0, y1⟩, yf0, yf1⟩ := blk2 H6.c1
          have HB6 := Lib.hid H6.below
          clear r0 H6
          go_region
          all_goals
            go_wp2
            refine bodyPost_ret (v := .tuple #[TV0, .agg #[.int .i64 x.a, .int .i64 x.b], .int .i64 (fE x)]) (by simp [results, Tryz.results24, go_sem, x0, x1, x2, y0, y1, TV0]) rfl ?_
            refine ⟨?_, .inr (.inr (.inl ⟨HS.out, L, some t, x, lr, HTK.out, HPT.out, .inr HK.out, rfl⟩))⟩
            (repeat' (first | exact HB6.out | refine Below.drew ?_ | refine Below.setCell ?_ (by simp) _ | refine Below.alloc ?_ (by simp <;> omega) _))
      · have HPT := Lib.hid hpt
        have HBX := Lib.hid ((Below.refl w3.heap.size w3).alloc (Nat.le_refl _) (.cells #[.string n, .string ⟨#[]⟩, .slice none 0 0] 28))
        have HF := Lib.hid (fault_any (w1.heap.size + 1) x lr _ (HP3.out.below HBX.out))
        clear hpt
        go_wp2_with fail
        refine HF.out.mono ?_
        rintro e w4 ⟨rfl, hb4⟩
        have H5 := Lib.hid ((H4.out.next HBX.out).next hb4)
        have q0 := cells_below (cells_below HPX3.out HBX.out) hb4
        obtain ⟨⟨p0, p1⟩, pf0, pf1⟩ := blk2 q0
        have hs4 := hb4.size
        simp at hs4
        have r0 := heap_setCell_same _ w1.heap.size 1 _ _ (.int .i64 x.b) (heap_setCell_same w4 w1.heap.size 0 _ _ (.int .i64 x.a) q0)
        have H6 : RW w ((w4.setCell ⟨w1.heap.size, 0, none⟩ (.int .i64 x.a)).setCell ⟨w1.heap.size, 1, none⟩ (.int .i64 x.b)) :=
          ⟨(H5.out.below.setCell (p := ⟨w1.heap.size, 0, none⟩) (by show w.heap.size ≤ w1.heap.size; omega) _).setCell (p := ⟨w1.heap.size, 1, none⟩) (by show w.heap.size ≤ w1.heap.size; omega) _,
            (Below.heap_setCell _ _ _ _ (by simp; omega)).trans ((Below.heap_setCell _ _ _ _ (by simp; omega)).trans H5.out.c0),
            (Below.heap_setCell _ _ _ _ (by simp; omega)).trans ((Below.heap_setCell _ _ _ _ (by simp; omega)).trans H5.out.c1)⟩
        have hlt5 : w1.heap.size < ((w4.setCell ⟨w1.heap.size, 0, none⟩ (.int .i64 x.a)).setCell ⟨w1.heap.size, 1, none⟩ (.int .i64 x.b)).heap.size := by simp; omega
        clear q0 hb4 HF
        go_wp2_with fail
        clear p0 p1 pf0 pf1
        generalize ((w4.setCell ⟨w1.heap.size, 0, none⟩ (.int .i64 x.a)).setCell ⟨w1.heap.size, 1, none⟩ (.int .i64 x.b)) = W5 at r0 H6 hlt5 ⊢
        obtain ⟨⟨p0, p1⟩, pf0, pf1⟩ := blk2 r0
        obtain ⟨⟨x0, x1, x2⟩, xf0, xf1, xf2⟩ := blk3 H6.c0
        obtain ⟨⟨y0, y1⟩, yf0, yf1⟩ := blk2 H6.c1
        have HB6 := Lib.hid H6.below
        clear r0 H6
        go_region
        all_goals
          go_wp2
          refine bodyPost_ret (v := .tuple #[TV0, .agg #[.int .i64 x.a, .int .i64 x.b], .int .i64 (fE x)]) (by simp [results, Tryz.results24, go_sem, x0, x1, x2, y0, y1, TV0]) rfl ?_
          refine ⟨?_, .inr (.inr (.inl ⟨HS.out, L, none, x, lr, HTK.out, HPT.out, .inl rfl, rfl⟩))⟩
          (repeat' (first | exact HB6.out | refine Below.drew ?_ | refine Below.setCell ?_ (by simp) _ | refine Below.alloc ?_ (by simp <;> omega) _))
end Go.Proofs.YthbcfcbonmphfaaGreatDoor
namespace Go.Proofs.YthbcfcbonmphfaaGreatDoor
open Go.RowKit Go.Shelf
set_option maxRecDepth 100000

def bNat : ByteArray := ⟨#[110, 97, 116]⟩
def sgN : Sg := ⟨[bNat], [⟨⟨#[122, 101, 114, 111]⟩, [], bNat⟩, ⟨⟨#[115]⟩, [bNat], bNat⟩]⟩
def tX : Tm := .mk ⟨#[88]⟩ bNat []
def tS : Tm := .mk ⟨#[115]⟩ ⟨#[]⟩ [tX]
def tZ : Tm := .mk ⟨#[122, 101, 114, 111]⟩ ⟨#[]⟩ []
def tSS : Tm := .mk ⟨#[115]⟩ ⟨#[]⟩ [tZ, tZ]
def tO : Tm := .mk ⟨#[111, 110, 101]⟩ ⟨#[]⟩ []
def tSO : Tm := .mk ⟨#[115]⟩ ⟨#[]⟩ [tO]
theorem v_X : isV tX = true := by simp only [isV, Lib.toList_data]; decide +kernel
theorem v_S : isV tS = false := by simp only [isV, Lib.toList_data]; decide +kernel
theorem v_Z : isV tZ = false := by simp only [isV, Lib.toList_data]; decide +kernel
theorem v_O : isV tO = false := by simp only [isV, Lib.toList_data]; decide +kernel
theorem v_SS : isV tSS = false := by simp only [isV, Lib.toList_data]; decide +kernel
theorem v_SO : isV tSO = false := by simp only [isV, Lib.toList_data]; decide +kernel
theorem val_N : validSg sgN = true := by
  unfold validSg diffL validDc memS
  simp only [Lib.toList_data]
  decide +kernel
theorem formed_S : formed tS = true := by
  unfold formed fitsL fitX agreeL namedT isV
  simp only [Lib.toList_data]
  decide +kernel
theorem formed_SS : formed tSS = true := by
  unfold formed fitsL fitX agreeL namedT isV
  simp only [Lib.toList_data]
  decide +kernel
theorem formed_SO : formed tSO = true := by
  unfold formed fitsL fitX agreeL namedT isV
  simp only [Lib.toList_data]
  decide +kernel
theorem look_s : lookD sgN.ops ⟨#[115]⟩ = some ⟨⟨#[115]⟩, [bNat], bNat⟩ := by rfl
theorem look_o : lookD sgN.ops ⟨#[111, 110, 101]⟩ = none := by rfl
theorem own_X : ownS sgN.ops tX = (bNat, true) := by unfold ownS; rw [v_X]; rfl
theorem own_O : ownS sgN.ops tO = (⟨#[]⟩, false) := by unfold ownS; rw [v_O]; rfl
theorem own_S : ownS sgN.ops tS = (bNat, true) := by unfold ownS; rw [v_S]; rfl
theorem chk_X : chk sgN tX = 0 := by rw [chk_v v_X]; rfl
theorem chk_S : chk sgN tS = 0 := by
  rw [chk_some v_S look_s]
  have : chkArgs sgN.ops tS.ks [bNat] = true := by
    show chkArgs sgN.ops [tX] [bNat] = true
    simp only [chkArgs, own_X]; rfl
  rw [if_neg (by decide), this]; rfl
theorem chk_SS : chk sgN tSS = 3 := by rw [chk_some v_SS look_s]; rfl
theorem chk_SO : chk sgN tSO = 0 := by
  rw [chk_some v_SO look_s]
  have : chkArgs sgN.ops tSO.ks [bNat] = true := by
    show chkArgs sgN.ops [tO] [bNat] = true
    simp only [chkArgs, own_O]; rfl
  rw [if_neg (by decide), this]; rfl
theorem chk_O : chk sgN tO = 9 := chk_none v_O look_o
theorem sort_S : sortRes sgN tS = (bNat, 0) := by
  rw [sortRes_ok val_N formed_S, own_S]
  intro x hx
  have : x ∈ [(1, tS), (2, tX)] := hx
  simp at this
  rcases this with rfl | rfl
  · exact chk_S
  · exact chk_X
theorem sort_SS : sortRes sgN tSS = (⟨#[]⟩, 3) := by
  have h := sortRes_err (g := sgN) (t := tSS) (p := []) (x := (1, tSS)) val_N formed_SS ⟨[(2, tZ), (2, tZ)], rfl⟩ (fun y hy => by cases hy) (by rw [show chk sgN (1, tSS).2 = 3 from chk_SS]; decide)
  rw [h]
  show (_, chk sgN tSS) = _
  rw [chk_SS]
theorem sort_SO : sortRes sgN tSO = (⟨#[]⟩, 9) := by
  have h := sortRes_err (g := sgN) (t := tSO) (p := [(1, tSO)]) (x := (2, tO)) val_N formed_SO ⟨[], rfl⟩ (fun y hy => by rw [List.mem_singleton.1 hy]; exact chk_SO) (by rw [show chk sgN (2, tO).2 = 9 from chk_O]; decide)
  rw [h]
  show (_, chk sgN tO) = _
  rw [chk_O]
theorem txt_N : txtSig sgN = .tuple #[.string ⟨#[115, 111, 114, 116, 32, 110, 97, 116, 10, 111, 112, 32, 122, 101, 114, 111, 40, 41, 32, 45, 62, 32, 110, 97, 116, 10, 111, 112, 32, 115, 40, 110, 97, 116, 41, 32, 45, 62, 32, 110, 97, 116, 10]⟩, .int .i64 0] := by
  rw [txtSig_ok val_N]; rfl
theorem size_S : tS.size = 2 ∧ tS.depth = 2 := by decide
theorem rcmp_X : rcmp tX tX = 0 := by
  rw [rcmp_eq rfl]; rfl
theorem rcmp_S : rcmp tS tS = 0 := by
  rw [rcmp_eq rfl]
  have : rcmps tS.ks tS.ks = 0 := by
    show rcmps [tX] [tX] = 0
    simp only [rcmps, rcmp_X]; rfl
  rw [this]; rfl
theorem at_S : subAt tS [0] = some tX := by rfl
end Go.Proofs.YthbcfcbonmphfaaGreatDoor

/- awake. -/
namespace Go.Proofs.YthbcfcbonmphfaaGreatDoor
open Go.RowKit Go.Shelf
set_option maxRecDepth 100000

theorem pt_var {x y z : Tk} {l l' : List Tk} {r : Option Tm} (h : PT (x :: y :: z :: l) r l') (h1 : x.k = 1) (h2 : sym y [58]) (h3 : z.k = 1) : r = some (.mk (nmOf x) (nmOf z) []) ∧ l' = l := by
  cases h with
  | noName h => exact absurd h1 h
  | var _ _ _ => exact ⟨rfl, rfl⟩
  | noSort _ _ h => exact absurd h3 h
  | parts _ h _ => exact absurd h2 h
def pS : List Tk := [⟨1, [115], 0, 1, 1⟩, ⟨4, [40], 0, 1, 2⟩, ⟨1, [88], 0, 1, 3⟩, ⟨4, [58], 0, 1, 4⟩, ⟨1, [110, 97, 116], 0, 1, 5⟩, ⟨4, [41], 0, 1, 8⟩, ⟨5, [], 0, 1, 9⟩]
theorem toks_S : toks [115, 40, 88, 58, 110, 97, 116, 41] 1 1 = .ok pS := by rfl
theorem pl_S {r : Option (List Tm)} {l' : List Tk} (h : PL [⟨1, [88], 0, 1, 3⟩, ⟨4, [58], 0, 1, 4⟩, ⟨1, [110, 97, 116], 0, 1, 5⟩, ⟨4, [41], 0, 1, 8⟩, ⟨5, [], 0, 1, 9⟩] r l') : r = some [tX] ∧ l' = [⟨5, [], 0, 1, 9⟩] := by
  have key : ∀ {r : Option Tm} {l' : List Tk}, PT [⟨1, [88], 0, 1, 3⟩, ⟨4, [58], 0, 1, 4⟩, ⟨1, [110, 97, 116], 0, 1, 5⟩, ⟨4, [41], 0, 1, 8⟩, ⟨5, [], 0, 1, 9⟩] r l' → r = some tX ∧ l' = [⟨4, [41], 0, 1, 8⟩, ⟨5, [], 0, 1, 9⟩] := fun h => pt_var h rfl ⟨rfl, rfl⟩ rfl
  cases h with
  | bad hT => exact absurd (key hT).1 (by simp)
  | last hT h =>
    obtain ⟨e1, e2⟩ := key hT
    injection e1 with e1
    injection e2 with e2 e3
    exact ⟨by rw [e1], e3⟩
  | noComma hT h _ =>
    obtain ⟨_, e2⟩ := key hT
    injection e2 with e2 e3
    exact absurd (by rw [e2]; exact ⟨rfl, rfl⟩) h
  | more hT h _ _ =>
    obtain ⟨_, e2⟩ := key hT
    injection e2 with e2 e3
    exact absurd (by rw [e2]; exact ⟨rfl, rfl⟩) h
theorem pt_S {r : Option Tm} {l' : List Tk} (h : PT pS r l') : r = some tS ∧ l' = [⟨5, [], 0, 1, 9⟩] := by
  unfold pS at h
  cases h with
  | noName h => exact absurd rfl h
  | var _ h _ => exact absurd h.2 (by simp)
  | noSort _ h _ => exact absurd h.2 (by simp)
  | parts _ _ hL =>
    cases hL with
    | noParen h => exact absurd ⟨rfl, rfl⟩ h
    | empty _ h => exact absurd h.1 (by simp)
    | elems _ _ hP =>
      obtain ⟨e1, e2⟩ := pl_S hP
      rw [e1]
      exact ⟨rfl, e2⟩

/-- numbers. -/
def numPost (w : World) (e : Ending) (w' : World) : Prop :=
  (∃ A1 A2, e = .returned (.agg #[.slice A1 1 1, .slice A2 2 2]) ∧ SlS w'.heap.size w' A1 sgN.sorts ∧ SlD w'.heap.size w' A2 sgN.ops) ∧ Below w.heap.size w w'
set_option maxHeartbeats 1000000 in
theorem numbers_any (w : World) : Calls Tryz.prog 21 #[] w (numPost w) := by
  go_enter Tryz.func21, Tryz.ntmps21
  go_wp2_with fail
  refine bodyPost_ret (v := .agg #[.slice (some ⟨w.heap.size + 1, 0, none⟩) 1 1, .slice (some ⟨w.heap.size + 1 + 1 + 1, 0, none⟩) 2 2]) (by simp [results, Tryz.results21, go_sem]) rfl ?_
  have q1 := heap_alloc_new (w.alloc (.cells #[.slice (some ⟨w.heap.size + 1, 0, none⟩) 1 1, .slice (some ⟨w.heap.size + 1 + 1 + 1, 0, none⟩) 2 2] 25)) (.cells #[.string ⟨#[110, 97, 116]⟩] 9)
  have q2 := heap_alloc_new ((w.alloc (.cells #[.slice (some ⟨w.heap.size + 1, 0, none⟩) 1 1, .slice (some ⟨w.heap.size + 1 + 1 + 1, 0, none⟩) 2 2] 25)).alloc (.cells #[.string ⟨#[110, 97, 116]⟩] 9)) (.cells #[.string ⟨#[110, 97, 116]⟩] 9)
  have q3 := heap_alloc_new (((w.alloc (.cells #[.slice (some ⟨w.heap.size + 1, 0, none⟩) 1 1, .slice (some ⟨w.heap.size + 1 + 1 + 1, 0, none⟩) 2 2] 25)).alloc (.cells #[.string ⟨#[110, 97, 116]⟩] 9)).alloc (.cells #[.string ⟨#[110, 97, 116]⟩] 9)) (.cells #[.string ⟨#[122, 101, 114, 111]⟩, .slice none 0 0, .string ⟨#[110, 97, 116]⟩, .string ⟨#[115]⟩, .slice (some ⟨w.heap.size + 1 + 1, 0, none⟩) 1 1, .string ⟨#[110, 97, 116]⟩] 61)
  simp only [World.size_alloc] at q1 q2 q3
  replace q1 := (Below.heap_alloc _ (.cells #[.string ⟨#[122, 101, 114, 111]⟩, .slice none 0 0, .string ⟨#[110, 97, 116]⟩, .string ⟨#[115]⟩, .slice (some ⟨w.heap.size + 1 + 1, 0, none⟩) 1 1, .string ⟨#[110, 97, 116]⟩] 61) _ (by simp)).trans ((Below.heap_alloc _ (.cells #[.string ⟨#[110, 97, 116]⟩] 9) _ (by simp)).trans q1)
  replace q2 := (Below.heap_alloc _ (.cells #[.string ⟨#[122, 101, 114, 111]⟩, .slice none 0 0, .string ⟨#[110, 97, 116]⟩, .string ⟨#[115]⟩, .slice (some ⟨w.heap.size + 1 + 1, 0, none⟩) 1 1, .string ⟨#[110, 97, 116]⟩] 61) _ (by simp)).trans q2
  refine ⟨⟨_, _, rfl, fun _ => ⟨_, 0, rfl, by simp, fun i s hi => ?_⟩, fun _ => ⟨_, 0, rfl, by simp, fun i d hi => ?_⟩⟩, ?_⟩
  · match i, hi with
    | 0, hi => injection hi with hi; subst hi; exact cell_of_row _ _ 0 _ _ (0, 0) q1
  · match i, hi with
    | 0, hi =>
      injection hi with hi
      subst hi
      exact ⟨none, 0, cell_of_row _ _ 0 _ _ (0, 0) q3, cell_of_row _ _ 1 _ _ (0, 0) q3, cell_of_row _ _ 2 _ _ (0, 0) q3, fun h => absurd h (by simp)⟩
    | 1, hi =>
      injection hi with hi
      subst hi
      exact ⟨some ⟨w.heap.size + 1 + 1, 0, none⟩, 1, cell_of_row _ _ 3 _ _ (0, 0) q3, cell_of_row _ _ 4 _ _ (0, 0) q3, cell_of_row _ _ 5 _ _ (0, 0) q3, fun _ => ⟨_, 0, rfl, by simp, fun j a hj => by
        match j, hj with
        | 0, hj => injection hj with hj; subst hj; exact cell_of_row _ _ 0 _ _ (0, 0) q2⟩⟩
  · (repeat' (first | exact Below.refl _ _ | refine Below.alloc ?_ (by simp <;> omega) _))

theorem okN : okG sgN := by
  refine ⟨⟨by decide, fun s hs => ?_⟩, by decide, fun d hd => ?_⟩
  · rw [List.mem_singleton.1 hs]; decide
  · have : d ∈ [(⟨⟨#[122, 101, 114, 111]⟩, [], bNat⟩ : Dc), ⟨⟨#[115]⟩, [bNat], bNat⟩] := hd
    simp at this
    rcases this with rfl | rfl
    · exact ⟨by decide, by decide, by decide, fun a ha => by cases ha⟩
    · exact ⟨by decide, by decide, by decide, fun a ha => by rw [List.mem_singleton.1 ha]; decide⟩
theorem okX (m : Nat) (h : 100 ≤ m) : okT m tX := .mk _ _ _ (Nat.le_trans (by decide) h) (Nat.le_trans (by decide) h) (Nat.zero_le _) (fun k hk => by cases hk)
theorem okZ (m : Nat) (h : 100 ≤ m) : okT m tZ := .mk _ _ _ (Nat.le_trans (by decide) h) (Nat.zero_le _) (Nat.zero_le _) (fun k hk => by cases hk)
theorem okO (m : Nat) (h : 100 ≤ m) : okT m tO := .mk _ _ _ (Nat.le_trans (by decide) h) (Nat.zero_le _) (Nat.zero_le _) (fun k hk => by cases hk)
theorem okS' (m : Nat) (h : 100 ≤ m) : okT m tS := .mk _ _ _ (Nat.le_trans (by decide) h) (Nat.zero_le _) (Nat.le_trans (by decide) h) (fun k hk => by rw [List.mem_singleton.1 hk]; exact okX m h)
theorem okSS (m : Nat) (h : 100 ≤ m) : okT m tSS := .mk _ _ _ (Nat.le_trans (by decide) h) (Nat.zero_le _) (Nat.le_trans (by decide) h) (fun k hk => by
  rcases List.mem_cons.1 hk with rfl | hk
  · exact okZ m h
  · rw [List.mem_singleton.1 hk]; exact okZ m h)
theorem okSO (m : Nat) (h : 100 ≤ m) : okT m tSO := .mk _ _ _ (Nat.le_trans (by decide) h) (Nat.zero_le _) (Nat.le_trans (by decide) h) (fun k hk => by rw [List.mem_singleton.1 hk]; exact okO m h)
theorem m100 : 100 ≤ maxLen := by unfold maxLen; omega
theorem trep_one {n₀ : Nat} {w : World} {b : Nat} {k : Tm} {A : Option Addr} {c : Nat} (nm st : ByteArray) (h : w.heap[b]? = some (.cells (tcells k A c) 28 (0, 0))) (hb : b < n₀) (hk : TRep n₀ w k A) : TRep n₀ w (.mk nm st [k]) (some ⟨b, 0, none⟩) := by
  obtain ⟨⟨c0, c1, c2⟩, _⟩ := blk3 h
  refine .mk nm st [k] _ b 0 (fun _ => A) (fun _ => c) (fun _ => ⟨rfl, hb⟩) (fun i x hi => ?_) (fun i x hi => ?_) (fun i x hi => ?_) (fun i x hi => ?_) <;>
    (match i, hi with
      | 0, hi => injection hi with hi; subst hi; first | exact c0 | exact c1 | exact c2 | exact hk)
theorem trep_two {n₀ : Nat} {w : World} {b : Nat} {k : Tm} {A : Option Addr} {c : Nat} (nm st : ByteArray) (h : w.heap[b]? = some (.cells #[.string k.nm, .string k.st, .slice A k.ks.length c, .string k.nm, .string k.st, .slice A k.ks.length c] 28 (0, 0))) (hb : b < n₀) (hk : TRep n₀ w k A) : TRep n₀ w (.mk nm st [k, k]) (some ⟨b, 0, none⟩) := by
  have c0 := cell_of_row w b 0 _ _ (0, 0) h
  have c1 := cell_of_row w b 1 _ _ (0, 0) h
  have c2 := cell_of_row w b 2 _ _ (0, 0) h
  have c3 := cell_of_row w b 3 _ _ (0, 0) h
  have c4 := cell_of_row w b 4 _ _ (0, 0) h
  have c5 := cell_of_row w b 5 _ _ (0, 0) h
  refine .mk nm st [k, k] _ b 0 (fun _ => A) (fun _ => c) (fun _ => ⟨rfl, hb⟩) (fun i x hi => ?_) (fun i x hi => ?_) (fun i x hi => ?_) (fun i x hi => ?_) <;>
    (match i, hi with
      | 0, hi => injection hi with hi; subst hi; first | exact c0 | exact c1 | exact c2 | exact hk
      | 1, hi => injection hi with hi; subst hi; first | exact c3 | exact c4 | exact c5 | exact hk)

theorem sortS_any (A1 A2 A : Option Addr) (c : Nat) (W : World) (hs : SlS W.heap.size W A1 sgN.sorts) (hd : SlD W.heap.size W A2 sgN.ops) (hrep : TRep W.heap.size W tS A) :
    Calls Tryz.prog 7 #[.agg #[.slice A1 1 1, .slice A2 2 2], .agg #[.string ⟨#[115]⟩, .string ⟨#[]⟩, .slice A 1 c]] W fun e w' => e = .returned (.tuple #[.string bNat, .int .i64 0]) ∧ Below W.heap.size W w' := by
  have h := Sort_any sgN A1 1 A2 2 tS A c W hs hd okN hrep (okS' _ m100) (by decide)
  rw [sort_S] at h
  exact h
theorem sortSS_any (A1 A2 A : Option Addr) (c : Nat) (W : World) (hs : SlS W.heap.size W A1 sgN.sorts) (hd : SlD W.heap.size W A2 sgN.ops) (hrep : TRep W.heap.size W tSS A) :
    Calls Tryz.prog 7 #[.agg #[.slice A1 1 1, .slice A2 2 2], .agg #[.string ⟨#[115]⟩, .string ⟨#[]⟩, .slice A 2 c]] W fun e w' => e = .returned (.tuple #[.string ⟨#[]⟩, .int .i64 3]) ∧ Below W.heap.size W w' := by
  have h := Sort_any sgN A1 1 A2 2 tSS A c W hs hd okN hrep (okSS _ m100) (by decide)
  rw [sort_SS] at h
  exact h
theorem sortSO_any (A1 A2 A : Option Addr) (c : Nat) (W : World) (hs : SlS W.heap.size W A1 sgN.sorts) (hd : SlD W.heap.size W A2 sgN.ops) (hrep : TRep W.heap.size W tSO A) :
    Calls Tryz.prog 7 #[.agg #[.slice A1 1 1, .slice A2 2 2], .agg #[.string ⟨#[115]⟩, .string ⟨#[]⟩, .slice A 1 c]] W fun e w' => e = .returned (.tuple #[.string ⟨#[]⟩, .int .i64 9]) ∧ Below W.heap.size W w' := by
  have h := Sort_any sgN A1 1 A2 2 tSO A c W hs hd okN hrep (okSO _ m100) (by decide)
  rw [sort_SO] at h
  exact h
theorem atS_any (A : Option Addr) (c b : Nat) (W : World) (hrep : TRep W.heap.size W tS A) (hb : b < W.heap.size) (hc : W.cell? ⟨b, 0, none⟩ = some (.int .i64 0)) :
    Calls Tryz.prog 22 #[.agg #[.string ⟨#[115]⟩, .string ⟨#[]⟩, .slice A 1 c], .slice (some ⟨b, 0, none⟩) 1 1] W fun e w' => (∃ A' c', e = .returned (.tuple #[.agg #[.string ⟨#[88]⟩, .string bNat, .slice A' 0 c'], .int .i64 0])) ∧ Below W.heap.size W w' := by
  have h := At_any tS A c (some ⟨b, 0, none⟩) 1 [0] W hrep (fun _ => ⟨b, 0, rfl, hb, fun i x hi => by
    match i, hi with
    | 0, hi => injection hi with hi; subst hi; exact hc⟩) (by decide) (okS' _ (by decide)) (by decide)
  refine Calls.mono h ?_
  rintro e w' ⟨h1, h2⟩
  rw [if_pos formed_S, at_S] at h1
  obtain ⟨A', c', he, _⟩ := h1
  exact ⟨⟨A', c', he⟩, h2⟩
theorem txtN_any (A1 A2 : Option Addr) (W : World) (hs : SlS W.heap.size W A1 sgN.sorts) (hd : SlD W.heap.size W A2 sgN.ops) :
    Calls Tryz.prog 23 #[.agg #[.slice A1 1 1, .slice A2 2 2]] W fun e w' => e = .returned (.tuple #[.string ⟨#[115, 111, 114, 116, 32, 110, 97, 116, 10, 111, 112, 32, 122, 101, 114, 111, 40, 41, 32, 45, 62, 32, 110, 97, 116, 10, 111, 112, 32, 115, 40, 110, 97, 116, 41, 32, 45, 62, 32, 110, 97, 116, 10]⟩, .int .i64 0]) ∧ Below W.heap.size W w' := by
  have h := TextSignature_any sgN A1 1 A2 2 W hs hd okN (fun i d b off A' c' hi _ _ => joins_two (c := c') <| by
    have : d ∈ [(⟨⟨#[122, 101, 114, 111]⟩, [], bNat⟩ : Dc), ⟨⟨#[115]⟩, [bNat], bNat⟩] := List.mem_of_getElem? hi
    simp at this
    rcases this with rfl | rfl <;> simp)
  rw [txt_N] at h
  exact h
theorem parseS_any (W : World) (hp : Pairs W) :
    Calls Tryz.prog 24 #[.string ⟨#[115, 40, 88, 58, 110, 97, 116, 41]⟩] W fun e w' => (∃ A c, e = .returned (.tuple #[.agg #[.string ⟨#[115]⟩, .string ⟨#[]⟩, .slice A 1 c], .agg #[.int .i64 0, .int .i64 0], .int .i64 0]) ∧ TRep w'.heap.size w' tS A) ∧ Below W.heap.size W w' := by
  refine (Parse_ok ⟨#[115, 40, 88, 58, 110, 97, 116, 41]⟩ W (by decide) hp pS toks_S).mono ?_
  rintro e w' ⟨hb, h⟩
  have hfa : formed tS = true := formed_S
  unfold formed at hfa
  simp only [Bool.and_eq_true] at hfa
  have htk : toks (ByteArray.mk #[115, 40, 88, 58, 110, 97, 116, 41]).data.toList 1 1 = .ok pS := toks_S
  refine ⟨?_, hb⟩
  rcases h with ⟨h, _⟩ | ⟨_, p, h, _⟩ | ⟨_, L, r, x, l', h, hpt, hn, _⟩ | ⟨_, L, t, x, l', h, hpt, hx, h3⟩
  · exact absurd h (by decide)
  · rw [htk] at h; cases h
  · rw [htk] at h
    injection h with h
    subst h
    obtain ⟨e1, e2⟩ := pt_S hpt
    injection e2 with e2 _
    rcases hn with hn | hn
    · rw [hn] at e1; cases e1
    · rw [e2] at hn; exact absurd rfl hn
  · rw [htk] at h
    injection h with h
    subst h
    obtain ⟨e1, e2⟩ := pt_S hpt
    injection e1 with e1
    subst e1
    rcases h3 with ⟨h3, _⟩ | ⟨_, h3, _⟩ | ⟨_, _, A, c, he, htx⟩
    · rw [hfa.1.1] at h3; cases h3
    · rw [hfa.2] at h3; cases h3
    · exact ⟨A, c, he, htx.rep (fun b hb => hb.2)⟩
theorem sizeS_any (A : Option Addr) (c : Nat) (W : World) (hrep : TRep W.heap.size W tS A) :
    Calls Tryz.prog 15 #[.agg #[.string ⟨#[115]⟩, .string ⟨#[]⟩, .slice A 1 c]] W fun e w' => e = .returned (.int .i64 2) ∧ Below W.heap.size W w' := by
  have h := size_any tS A c W hrep (okS' _ m100) (by decide)
  have e : sizeR tS = 2 := by unfold sizeR; rw [formed_S]; rfl
  rw [e] at h
  exact h
theorem depthS_any (A : Option Addr) (c : Nat) (W : World) (hrep : TRep W.heap.size W tS A) :
    Calls Tryz.prog 16 #[.agg #[.string ⟨#[115]⟩, .string ⟨#[]⟩, .slice A 1 c]] W fun e w' => e = .returned (.int .i64 2) ∧ Below W.heap.size W w' := by
  have h := depth_any tS A c W hrep (okS' _ m100) (by decide)
  have e : depthR tS = 2 := by unfold depthR; rw [formed_S]; rfl
  rw [e] at h
  exact h
theorem sameX_any (A B : Option Addr) (c c' : Nat) (W : World) :
    Calls Tryz.prog 25 #[.agg #[.string ⟨#[88]⟩, .string bNat, .slice A 0 c], .agg #[.string ⟨#[88]⟩, .string bNat, .slice B 0 c']] W fun e w' => e = .returned (.bool true) ∧ Below W.heap.size W w' := by
  have h := refSame_any tX tX A B c c' W.heap.size W (TRep.leaf _ _ _ _ rfl) (TRep.leaf _ _ _ _ rfl) (Nat.le_refl _) (okX _ m100) (okX _ m100)
  rw [rcmp_X] at h
  exact h
theorem sameS_any (A B : Option Addr) (c c' : Nat) (W : World) (h1 : TRep W.heap.size W tS A) (h2 : TRep W.heap.size W tS B) :
    Calls Tryz.prog 25 #[.agg #[.string ⟨#[115]⟩, .string ⟨#[]⟩, .slice A 1 c], .agg #[.string ⟨#[115]⟩, .string ⟨#[]⟩, .slice B 1 c']] W fun e w' => e = .returned (.bool true) ∧ Below W.heap.size W w' := by
  have h := refSame_any tS tS A B c c' W.heap.size W h1 h2 (Nat.le_refl _) (okS' _ m100) (okS' _ m100)
  rw [rcmp_S] at h
  exact h
end Go.Proofs.YthbcfcbonmphfaaGreatDoor
