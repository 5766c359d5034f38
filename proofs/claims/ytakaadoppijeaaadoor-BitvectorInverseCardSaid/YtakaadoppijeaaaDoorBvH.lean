/- Walks: selected. -/
import Derived.Laws.EntriesVeiled
import Derived.Test.YtakaadoppijeaaaDoorBvG
namespace Go.Proofs.YtakaadoppijeaaaDoor
open Go.RowKit
set_option maxRecDepth 100000
theorem four_new (w : World) (o1 o2 o3 o4 : Obj) : ((((w.alloc o1).alloc o2).alloc o3).alloc o4).heap[w.heap.size]? = some o1 ∧ ((((w.alloc o1).alloc o2).alloc o3).alloc o4).heap[w.heap.size + 1]? = some o2 ∧
    ((((w.alloc o1).alloc o2).alloc o3).alloc o4).heap[w.heap.size + 1 + 1]? = some o3 ∧ ((((w.alloc o1).alloc o2).alloc o3).alloc o4).heap[w.heap.size + 1 + 1 + 1]? = some o4 ∧ Below w.heap.size w ((((w.alloc o1).alloc o2).alloc o3).alloc o4) := by
  have e1 : (w.alloc o1).heap.size = w.heap.size + 1 := by simp
  have e2 : ((w.alloc o1).alloc o2).heap.size = w.heap.size + 1 + 1 := by simp
  have e3 : (((w.alloc o1).alloc o2).alloc o3).heap.size = w.heap.size + 1 + 1 + 1 := by simp
  have h2 := bdNew (w.alloc o1) o2
  have h3 := bdNew ((w.alloc o1).alloc o2) o3
  have h4 := bdNew (((w.alloc o1).alloc o2).alloc o3) o4
  rw [e1] at h2
  rw [e2] at h3
  rw [e3] at h4
  exact ⟨bdOld (bdOld (bdOld (bdNew w o1))), bdOld (bdOld h2), bdOld h3, h4, (((((Below.refl _ _).alloc (Nat.le_refl _) _).alloc (by simp) _).alloc (by simp; omega) _).alloc (by simp; omega) _)⟩
theorem bcB_bd (l : List Bool) (b : Bool) (j : Nat) : bcB l b j ≤ 64 * j := by
  unfold bcB
  have := bc_le l j
  cases b <;> simp <;> omega
/-- What the search looks for. -/
def moreB (l : List Bool) (b : Bool) (k i : Nat) : Bool := decide (k < bcB l b (i + 1))
theorem moreB_mono (l : List Bool) (b : Bool) (k n : Nat) : ∀ i j, i ≤ j → j < n → moreB l b k i = true → moreB l b k j = true := fun i j h _ e => by
  unfold moreB at *
  have := bcB_mono l b (show i + 1 ≤ j + 1 by omega)
  simp at *
  omega
theorem word_found {l : List Bool} {b : Bool} {k i : Nat} (hk : k < rkB l b l.length) (h : FirstOf (moreB l b k) (nwd l) i) : i < nwd l ∧ bcB l b i ≤ k ∧ k < bcB l b (i + 1) := by
  have hl := sel_last l b
  have hn : 0 < nwd l := by
    apply Nat.pos_of_ne_zero
    intro h0
    rw [h0] at hl
    have := bcB_bd l b 0
    omega
  have hlast : moreB l b k (nwd l - 1) = true := by
    unfold moreB
    rw [show nwd l - 1 + 1 = nwd l by omega]
    exact decide_eq_true (by omega)
  have hi : i < nwd l := by
    apply Nat.lt_of_not_le
    intro hge
    have := h.lo (nwd l - 1) (by omega)
    rw [hlast] at this
    cases this
  refine ⟨hi, ?_, of_decide_eq_true (h.hi hi)⟩
  cases i with
  | zero => have := bcB_bd l b 0; omega
  | succ j => exact Nat.le_of_not_lt (of_decide_eq_false (h.lo j (by omega)))
theorem xor_val (v : Nat) (hv : v < 18446744073709551616) : bits .xor .u64 IntKind.u64.max (v : Int) = ((18446744073709551615 - v : Nat) : Int) := by
  have h1 : BitVec.ofInt 64 IntKind.u64.max = BitVec.allOnes 64 := by decide
  have h2 : (BitVec.ofInt 64 (v : Int)).toNat = v := by rw [BitVec.ofInt_natCast, BitVec.toNat_ofNat]; exact Nat.mod_eq_of_lt (by omega)
  show IntKind.u64.wrap ((BitVec.ofInt 64 IntKind.u64.max ^^^ BitVec.ofInt 64 (v : Int)).toNat : Int) = _
  rw [h1, BitVec.allOnes_xor, BitVec.toNat_not, h2, IntKind.wrap_u64]
  omega
set_option maxHeartbeats 4000000 in
theorem selected_any (x wb bb k i : Nat) (b : Bool) (l : List Bool) (w : World) (h : BV x wb bb l w) (hT : TabAt w) (hl : l.length ≤ 2000000) (hi : IsSel l b k i) :
    Calls Tryd.prog 37 #[.pointer (some ⟨x, 0, none⟩), .bool b, .int .i64 k] w fun e w' => e = .returned (.int .i64 i) ∧ Below w.heap.size w w' := by
  obtain ⟨⟨c0, c1, c2⟩, _, _, _⟩ := bk3 h.box
  have hx : x < w.heap.size := bdLt h.box
  have hx1 : x < w.heap.size + 1 := by omega
  have hx2 : x < w.heap.size + 1 + 1 := by omega
  have hx3 : x < w.heap.size + 1 + 1 + 1 := by omega
  obtain ⟨n, hn⟩ : ∃ n, n = nwd l := ⟨_, rfl⟩
  rw [← hn] at c1 c2
  have HN := Lib.hid hn
  have HI := Lib.hid hi
  have HV := Lib.hid h
  have HT := Lib.hid hT
  clear h hT hi hn
  go_enter Tryd.func37, Tryd.ntmps37
  go_wp2_with fail
  obtain ⟨W, hW⟩ : ∃ W, W = ((((w.alloc (.cells #[.pointer (some ⟨x, 0, none⟩)] 24)).alloc (.cells #[.bool b] 4)).alloc (.cells #[.int .i64 k] 3)).alloc (.cells #[.func (.func 39) #[] #[.pointer (some ⟨w.heap.size + 1, 0, none⟩), .pointer (some ⟨w.heap.size, 0, none⟩)]] 62)) := ⟨_, rfl⟩
  obtain ⟨hb0, hb1, hb2, hb3, hBW⟩ := four_new w (.cells #[.pointer (some ⟨x, 0, none⟩)] 24) (.cells #[.bool b] 4) (.cells #[.int .i64 k] 3) (.cells #[.func (.func 39) #[] #[.pointer (some ⟨w.heap.size + 1, 0, none⟩), .pointer (some ⟨w.heap.size, 0, none⟩)]] 62)
  rw [← hW] at hb0 hb1 hb2 hb3 hBW
  have HS : Hid (SelW x b k (w.heap.size + 1) w.heap.size (w.heap.size + 1 + 1) (w.heap.size + 1 + 1 + 1) W) := Lib.hid ⟨(bk1 hb1).1, (bk1 hb0).1, (bk1 hb2).1, (bk1 hb3).1⟩
  clear hb0 hb1 hb2 hb3
  rw [← hW]
  have HBV : Hid (BV x wb bb l W) := Lib.hid ⟨bdAt HV.out.box hBW, fun j hj => (hBW.cell (p := ⟨wb, j, none⟩) (World.block_lt_of_cell? _ _ (HV.out.words j hj))).trans (HV.out.words j hj), fun j hj => (hBW.cell (p := ⟨bb, j, none⟩) (World.block_lt_of_cell? _ _ (HV.out.before j hj))).trans (HV.out.before j hj)⟩
  have HTW : Hid (TabAt W) := Lib.hid fun j hj => (hBW.cell (p := ⟨_, j, none⟩) (World.block_lt_of_cell? _ _ (HT.out j hj))).trans (HT.out j hj)
  have HB := Lib.hid hBW
  have z0 := HS.out.bit
  have z1 := HS.out.vec
  have z2 := HS.out.num
  have z3 := HS.out.fn
  have w0 := (bk3 HBV.out.box).1.2.1
  rw [← HN.out] at w0
  clear hBW hW hx hx1 hx2 hx3 c0 c1 c2
  have hn2 : n ≤ 40000 := by rw [HN.out]; unfold nwd; omega
  refine (search_any (moreB l b k) n _ _ W hn2 (fun i' q hi' => (more_any x wb bb k _ _ _ _ i' b l (W.drewN q) ⟨HBV.out.box, HBV.out.words, HBV.out.before⟩ ⟨HS.out.bit, HS.out.vec, HS.out.num, HS.out.fn⟩ hl (by rw [← HN.out]; exact hi')).mono fun _ _ h => ⟨h.1, h.2.elim fun q' hq => ⟨_, hq.trans (World.drewN_drewN _ _ _)⟩⟩) (moreB_mono l b k n)).mono ?_
  rintro e w1 ⟨j, rfl, hf, q, rfl⟩
  have HK := Lib.hid HI.out.count
  have HS' : Hid (SelW x b k (w.heap.size + 1) w.heap.size (w.heap.size + 1 + 1) (w.heap.size + 1 + 1 + 1) (W.drewN q)) := Lib.hid ⟨HS.out.bit, HS.out.vec, HS.out.num, HS.out.fn⟩
  have HBV' : Hid (BV x wb bb l (W.drewN q)) := Lib.hid ⟨HBV.out.box, HBV.out.words, HBV.out.before⟩
  have HTW' : Hid (TabAt (W.drewN q)) := Lib.hid HTW.out
  have HB' : Hid (Below w.heap.size w (W.drewN q)) := Lib.hid (bdN HB.out _)
  clear HS HBV HTW HB z0 z1 z2 z3 w0
  generalize W.drewN q = V at HS' HBV' HTW' HB' ⊢
  have HS := HS'
  have HBV := HBV'
  have HTW := HTW'
  have HB := HB'
  clear HS' HBV' HTW' HB'
  have z0 := HS.out.bit
  have z1 := HS.out.vec
  have z2 := HS.out.num
  have z3 := HS.out.fn
  have w0 := (bk3 HBV.out.box).1.2.1
  rw [← HN.out] at w0
  rw [HN.out] at hf
  obtain ⟨hj, hj1, hj2⟩ := word_found HK.out hf
  obtain ⟨ht, hsel⟩ := sel_word l b k j HK.out hj hj1 hj2
  have HSEL := Lib.hid (hsel.one HI.out)
  have hx0 := HBV.out.words j hj
  rw [← HN.out] at hj
  have hjI : (j : Int) < (n : Int) := by omega
  have HU := Lib.hid (fun q => upTo_any x wb bb k _ _ _ _ j b l (V.drewN q) ⟨HBV.out.box, HBV.out.words, HBV.out.before⟩ ⟨HS.out.bit, HS.out.vec, HS.out.num, HS.out.fn⟩ hl (by rw [← HN.out]; omega))
  obtain ⟨X, hX⟩ : ∃ X, X = xw l b j := ⟨_, rfl⟩
  have hXb : X < 18446744073709551616 := by rw [hX]; exact xw_lt _ _ _
  rw [← hX] at ht HSEL
  have hXv : if b then wd l j = X else 18446744073709551615 - wd l j = X := by
    rw [hX]; cases b
    · rw [xw_false]; rfl
    · rw [xw_true]; rfl
  obtain ⟨v, hv⟩ : ∃ v, v = wd l j := ⟨_, rfl⟩
  rw [← hv] at hXv hx0
  have hvb : v < 18446744073709551616 := by rw [hv]; exact wd_lt _ _
  have hvX := xor_val v hvb
  obtain ⟨c, hc⟩ : ∃ c, c = bcB l b j := ⟨_, rfl⟩
  rw [← hc] at HU ht HSEL hj1
  obtain ⟨t, ht'⟩ : ∃ t, t = k - c := ⟨_, rfl⟩
  rw [← ht'] at ht HSEL
  have htI : (k : Int) - (c : Int) = (t : Int) := by omega
  have ht64 : t ≤ 64 := by
    have : popN X 64 ≤ 64 := by rw [← popc_bits]; exact popc_le X
    omega
  have HT2 := Lib.hid ht
  have HXB := Lib.hid hXb
  have HT3 := Lib.hid ht'
  have hk40 : k ≤ 2000000 := by have := HK.out; have := rkB_le l b l.length; omega
  clear hsel hf hj1 hj2 hc hv hX ht' ht hXb
  cases b
  · simp only [Bool.false_eq_true, if_false] at hXv
    rw [hXv] at hvX
    clear hXv
    go_wp2_with fail
    go_quiet ((go_at_call 39; exact Calls.quiet_of_same (HU.out _)))
    go_wp2_with fail
    go_loopw [9, 34] (fun y s wr => ∃ j' q' r : Nat, j' ≤ t ∧ s = .int .i64 j' ∧ y = .int .u64 r ∧ r = remW X j' ∧ wr = V.drewN q') (fun _ s _ => t - (intOf s).toNat)
    case atStart => exact ⟨0, _, X, by omega, rfl, rfl, (remW_zero X HXB.out).symm, rfl⟩
    case round =>
      obtain ⟨j', q', r, hj', rfl, rfl, hr, rfl⟩ := hrel
      have hrb : r < 18446744073709551616 := by rw [hr]; exact remW_lt _ _
      have HR := Lib.hid hr
      clear hr
      by_cases hlt : j' < t
      · have hp : 0 < r := by rw [HR.out]; exact remW_pos X j' HXB.out (by have := HT2.out; omega)
        have hst := remW_step X j' HXB.out (by have := HT2.out; omega)
        rw [← HR.out] at hst
        have hA : bits .and .u64 (r : Int) ((r : Int) - 1) = ((remW X (j' + 1) : Nat) : Int) := by
          rw [show ((r : Int) - 1) = ((r - 1 : Nat) : Int) by omega, bits_and_u64_nat _ _ hrb (by omega), hst]
        obtain ⟨r2, hr2⟩ : ∃ r2, r2 = remW X (j' + 1) := ⟨_, rfl⟩
        rw [← hr2] at hA
        have HR2 := Lib.hid hr2
        clear hr2 hst
        go_wp2_with fail
        go_roundw
        case rel => exact ⟨j' + 1, q', r2, by omega, by go_num, rfl, HR2.out, rfl⟩
        case measure => simp [intOf]; omega
      · have hjt : j' = t := by omega
        subst hjt
        have hp : 0 < r := by rw [HR.out]; exact remW_pos X j' HXB.out HT2.out
        have HTZ := Lib.hid (tz_any r _ (V.drewN q') hrb hp rfl HTW.out)
        obtain ⟨m, hm⟩ : ∃ m, m = Go.Lib.ctz 64 r := ⟨_, rfl⟩
        rw [← hm] at HTZ
        have hfin : 64 * j + m = i := by rw [hm, HR.out]; exact HSEL.out
        have hib : i < 2000000 := by have := HI.out.lt; omega
        have HF := Lib.hid hfin
        have hm2 : m < 2000000 := by omega
        clear hm hfin
        go_wp2_with fail
        refine HTZ.out.mono ?_
        rintro e w2 ⟨rfl, rfl⟩
        go_wp2_with fail
        go_ret
        exact ⟨retI (by have := HF.out; omega), bdN HB.out _⟩
  · simp only [if_true] at hXv
    rw [hXv] at hx0
    clear hXv hvX hvb
    go_wp2_with fail
    go_quiet ((go_at_call 39; exact Calls.quiet_of_same (HU.out _)))
    go_wp2_with fail
    go_loopw [9, 34] (fun y s wr => ∃ j' q' r : Nat, j' ≤ t ∧ s = .int .i64 j' ∧ y = .int .u64 r ∧ r = remW X j' ∧ wr = V.drewN q') (fun _ s _ => t - (intOf s).toNat)
    case atStart => exact ⟨0, _, X, by omega, rfl, rfl, (remW_zero X HXB.out).symm, rfl⟩
    case round =>
      obtain ⟨j', q', r, hj', rfl, rfl, hr, rfl⟩ := hrel
      have hrb : r < 18446744073709551616 := by rw [hr]; exact remW_lt _ _
      have HR := Lib.hid hr
      clear hr
      by_cases hlt : j' < t
      · have hp : 0 < r := by rw [HR.out]; exact remW_pos X j' HXB.out (by have := HT2.out; omega)
        have hst := remW_step X j' HXB.out (by have := HT2.out; omega)
        rw [← HR.out] at hst
        have hA : bits .and .u64 (r : Int) ((r : Int) - 1) = ((remW X (j' + 1) : Nat) : Int) := by
          rw [show ((r : Int) - 1) = ((r - 1 : Nat) : Int) by omega, bits_and_u64_nat _ _ hrb (by omega), hst]
        obtain ⟨r2, hr2⟩ : ∃ r2, r2 = remW X (j' + 1) := ⟨_, rfl⟩
        rw [← hr2] at hA
        have HR2 := Lib.hid hr2
        clear hr2 hst
        go_wp2_with fail
        go_roundw
        case rel => exact ⟨j' + 1, q', r2, by omega, by go_num, rfl, HR2.out, rfl⟩
        case measure => simp [intOf]; omega
      · have hjt : j' = t := by omega
        subst hjt
        have hp : 0 < r := by rw [HR.out]; exact remW_pos X j' HXB.out HT2.out
        have HTZ := Lib.hid (tz_any r _ (V.drewN q') hrb hp rfl HTW.out)
        obtain ⟨m, hm⟩ : ∃ m, m = Go.Lib.ctz 64 r := ⟨_, rfl⟩
        rw [← hm] at HTZ
        have hfin : 64 * j + m = i := by rw [hm, HR.out]; exact HSEL.out
        have hib : i < 2000000 := by have := HI.out.lt; omega
        have HF := Lib.hid hfin
        have hm2 : m < 2000000 := by omega
        clear hm hfin
        go_wp2_with fail
        refine HTZ.out.mono ?_
        rintro e w2 ⟨rfl, rfl⟩
        go_wp2_with fail
        go_ret
        exact ⟨retI (by have := HF.out; omega), bdN HB.out _⟩
end Go.Proofs.YtakaadoppijeaaaDoor
