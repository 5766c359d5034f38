/- The reference's vars and Formed. -/
import Derived.IntWalk
import Derived.Test.YthbcfcbonmphfaaDoorTermAdd
import Derived.Test.YthbcfcbonmphfaaDoorTermFm
import Derived.Test.YthbcfcbonmphfaaDoorTermBig
namespace Go.Proofs.YthbcfcbonmphfaaDoor
open Go.RowKit Go.Shelf
set_option maxRecDepth 100000

theorem insF_len : ∀ (l : List FF) (f : FF), (insF l f).1.length ≤ l.length + 1
  | [], f => by simp [insF]
  | g :: l, f => by
    have ih := insF_len l f
    unfold insF
    split
    · simp only [List.length_cons]; omega
    · split
      · simp only [List.length_cons]; omega
      · simp only [List.length_cons]; omega
mutual
theorem varsT_len : ∀ (t : Tm) (l : List FF), (varsT t l).1.length ≤ l.length + t.size
  | .mk n s ks, l => by
    unfold varsT
    rw [Tm.size]
    split
    · have := varsL_len ks l; omega
    · have := insF_len l (n, s); omega
theorem varsL_len : ∀ (ks : List Tm) (l : List FF), (varsL ks l).1.length ≤ l.length + sizes ks
  | [], l => by simp [varsL]
  | k :: ks, l => by
    have h1 := varsT_len k l
    have h2 := varsL_len ks (varsT k l).1
    unfold varsL
    rw [sizes]
    split
    · omega
    · show l.length ≤ _; omega
end
theorem varsL_at {L : List Tm} {k : Nat} {x : Tm} (hx : L[k]? = some x) (l : List FF) : varsL (L.drop k) l = if (varsT x l).2 then varsL (L.drop (k + 1)) (varsT x l).1 else (l, false) := by
  obtain ⟨h1, e1⟩ := List.getElem?_eq_some_iff.1 hx
  rw [List.drop_eq_getElem_cons h1, e1, varsL]
theorem sizes_at {L : List Tm} {k : Nat} {x : Tm} (hx : L[k]? = some x) : sizes (L.drop k) = x.size + sizes (L.drop (k + 1)) := by
  obtain ⟨h1, e1⟩ := List.getElem?_eq_some_iff.1 hx
  rw [List.drop_eq_getElem_cons h1, e1, sizes]
def VaPost (r : List FF × Bool) (w : World) (e : Ending) (w' : World) : Prop :=
  (∃ v', e = .returned (.tuple #[v', .bool r.2]) ∧ (r.2 = true → FLv w' v' r.1)) ∧ Below w.heap.size w w'
def VaInv (ks : List Tm) (t : Tm) (A : Option Addr) (c : Nat) (l : List FF) (w : World) (k : Nat) (z : Value) (l2 : List FF) (wr : World) : Prop :=
  k ≤ ks.length ∧ wr.heap[w.heap.size]? = some (.cells (tcells t A c) 56 (0, 0)) ∧ Below w.heap.size w wr ∧ FLv wr z l2 ∧ varsL ks l = varsL (ks.drop k) l2 ∧ l2.length + sizes (ks.drop k) ≤ 100000
theorem FLv.next {w w' : World} {v : Value} {l : List FF} {n : Nat} (h : FLv w v l) (hb : Below n w w') (hn : w.heap.size ≤ n) : FLv w' v l := h.below (hb.mono hn)
set_option maxHeartbeats 4000000 in
theorem vars_any (t : Tm) : ∀ (A : Option Addr) (c n₀ : Nat) (l : List FF) (v : Value) (w : World), TRep n₀ w t A → n₀ ≤ w.heap.size → okT maxLen t → FLv w v l → l.length + t.size ≤ 100000 →
    Calls Tryd.prog 83 #[v, TV t A c] w (VaPost (varsT t l) w) := by
  induction t using Tm.ind with
  | h nm st ks ih =>
    intro A c n₀ l v w hrep hn hok hv hlen
    rw [Tm.size] at hlen
    have hlk := hok.len
    dsimp only [Tm.nm_mk, Tm.st_mk, Tm.ks_mk] at hlk
    unfold maxLen at hlk
    have HIH := Lib.hid ih
    have HOK := Lib.hid hok
    have HREP := Lib.hid hrep
    have hbx := heap_alloc_new w (.cells #[.string nm, .string st, .slice A ks.length c] 56)
    have HBX := Lib.hid hbx
    have HB0 := Lib.hid ((Below.refl w.heap.size w).alloc (Nat.le_refl _) (.cells #[.string nm, .string st, .slice A ks.length c] 56))
    have HV := Lib.hid (hv.below HB0.out)
    obtain ⟨⟨x0, x1, x2⟩, _⟩ := blk3 hbx
    clear ih hok hrep hbx hv
    unfold TV
    dsimp only [Tm.nm_mk, Tm.st_mk, Tm.ks_mk]
    by_cases h5 : st.toList.isEmpty = true
    · have e5 : (st.toList == []) = true := by rw [List.isEmpty_iff.1 h5]; rfl
      have HT : Hid (varsT (.mk nm st ks) l = varsL ks l) := Lib.hid (by unfold varsT; rw [if_pos h5])
      clear h5
      go_enter Tryd.func83, Tryd.ntmps83
      go_wp2_with fail
      clear x0 x1 x2
      go_loopw [6, 0] (fun y z wr => ∃ (k : Nat) (l2 : List FF), y = .int .i64 k ∧ VaInv ks (.mk nm st ks) A c l w k z l2 wr) (fun y _ _ => ks.length - (intOf y).toNat)
      case atStart => exact ⟨0, l, rfl, Nat.zero_le _, HBX.out, HB0.out, HV.out, rfl, by rw [List.drop_zero]; omega⟩
      case round =>
        clear HBX HB0 HV
        obtain ⟨k, l2, rfl, hk, hbx, hbw, hfl, heq, hl2⟩ := hrel
        obtain ⟨⟨x0, x1, x2⟩, _⟩ := blk3 hbx
        dsimp only [Tm.nm_mk, Tm.st_mk, Tm.ks_mk] at x0 x1 x2
        have HBX := Lib.hid hbx
        have HBW := Lib.hid hbw
        have HEQ := Lib.hid heq
        have HFL := Lib.hid hfl
        have HL2 := Lib.hid hl2
        have hws := hbw.size
        clear hbx hbw heq hfl hl2
        by_cases hlt : k < ks.length
        · obtain ⟨x, hx⟩ : ∃ x, ks[k]? = some x := ⟨ks[k]'hlt, List.getElem?_eq_getElem _⟩
          have hmem : x ∈ ks := List.mem_of_getElem? hx
          obtain ⟨tb, tq, A', c', rfl, htb, u0, u1, u2, hrx⟩ := HREP.out.kid (i := k) hx
          have hbn := HBW.out.mono hn
          replace u0 := (hbn.cell (p := ⟨tb, _, none⟩) htb).trans u0
          replace u1 := (hbn.cell (p := ⟨tb, _, none⟩) htb).trans u1
          replace u2 := (hbn.cell (p := ⟨tb, _, none⟩) htb).trans u2
          have hsz := sizes_at hx
          have HC := Lib.hid (HIH.out x hmem A' c' n₀ l2 _ _ (hrx.later hbn) (by omega) (HOK.out.kid hmem) HFL.out (by have := HL2.out; omega))
          have HS := Lib.hid hsz
          have HX := Lib.hid hx
          have hI : (k : Int) < (ks.length : Int) := by omega
          clear hx hrx hbn hmem hsz
          unfold TV at HC
          go_wp2_with fail
          refine HC.out.mono ?_
          rintro e w5 ⟨⟨v5, rfl, hf5⟩, hb5⟩
          have HB5 := Lib.hid hb5
          have HF5 := Lib.hid hf5
          clear hb5 hf5 HC x0 x1 x2 u0 u1 u2
          cases hok2 : (varsT x l2).2 with
          | false =>
            have HO := Lib.hid hok2
            clear hok2
            go_wp2_with fail
            go_ret2
            refine ⟨⟨u0, ?_, fun h => ?_⟩, HBW.out.trans (HB5.out.mono hws)⟩
            · rw [HT.out, HEQ.out, varsL_at HX.out, HO.out]; rfl
            · rw [HT.out, HEQ.out, varsL_at HX.out, HO.out] at h; cases h
          | true =>
            have HO := Lib.hid hok2
            clear hok2
            go_wp2_with fail
            go_roundw
            case rel =>
              refine ⟨k + 1, (varsT x l2).1, by go_num, by omega, cells_below HBX.out HB5.out, HBW.out.trans (HB5.out.mono hws), HF5.out HO.out, ?_, ?_⟩
              · rw [HEQ.out, varsL_at HX.out, if_pos HO.out]
              · have := HL2.out
                have := HS.out
                have := varsT_len x l2
                omega
            case measure => simp [intOf]; omega
        · have hI : ¬ (k : Int) < (ks.length : Int) := by omega
          have HK : Hid (ks.drop k = []) := Lib.hid (by rw [show k = ks.length by omega, List.drop_length])
          go_wp2_with fail
          go_ret2
          refine ⟨⟨u0, ?_, fun h => ?_⟩, HBW.out⟩
          · rw [HT.out, HEQ.out, HK.out]; rfl
          · rw [HT.out, HEQ.out, HK.out]; exact HFL.out
    · have e5 : (st.toList == []) = false := by
        cases hst : st.toList with
        | nil => rw [hst] at h5; exact absurd rfl h5
        | cons a b => rfl
      have HT : Hid (varsT (.mk nm st ks) l = insF l (nm, st)) := Lib.hid (by unfold varsT; rw [if_neg h5])
      clear h5
      go_enter Tryd.func83, Tryd.ntmps83
      go_wp2_with fail
      refine (add_any l (nm, st) _ _ HV.out (by omega)).mono ?_
      rintro e w1 ⟨⟨v1, rfl, hf1⟩, hb1⟩
      have HB1 := Lib.hid (HB0.out.trans (hb1.mono HB0.out.size))
      have HF1 := Lib.hid hf1
      clear hb1 hf1 x0 x1 x2
      go_wp2_with fail
      go_ret2
      refine ⟨⟨v1, ?_, fun h => ?_⟩, HB1.out⟩
      · rw [HT.out]; rfl
      · rw [HT.out] at h ⊢; exact HF1.out h

theorem formed_any (t : Tm) (A : Option Addr) (c n₀ : Nat) (w : World) (hrep : TRep n₀ w t A) (hn : n₀ ≤ w.heap.size) (hok : okT maxLen t) :
    Calls Tryd.prog 36 #[TV t A c] w fun e w' => e = .returned (.bool (formed t)) ∧ Below w.heap.size w w' := by
  have hbx := heap_alloc_new w (.cells (tcells t A c) 56)
  have HBX := Lib.hid hbx
  have HB0 := Lib.hid ((Below.refl w.heap.size w).alloc (Nat.le_refl _) (.cells (tcells t A c) 56))
  have HREP := Lib.hid hrep
  have HOK := Lib.hid hok
  have HS := Lib.hid (small_formed t)
  have hlk := hok.len
  unfold maxLen at hlk
  obtain ⟨⟨x0, x1, x2⟩, _⟩ := blk3 hbx
  clear hbx hrep hok
  unfold TV
  go_enter Tryd.func36, Tryd.ntmps36
  go_wp2_with fail
  refine (Small_any t A c n₀ 1 1000 _ (HREP.out.later (HB0.out.mono hn)) (by have := HB0.out.size; omega) HOK.out (by omega) (by omega) (by omega)).mono ?_
  rintro e w1 ⟨rfl, hb1⟩
  have HB1 := Lib.hid (HB0.out.trans (hb1.mono HB0.out.size))
  have HBX1 := Lib.hid (cells_below HBX.out hb1)
  clear hb1 x0 x1 x2 HBX
  obtain ⟨⟨x0, x1, x2⟩, _⟩ := blk3 HBX1.out
  by_cases hneg : small t 1 1000 < 0
  · have hnb : decide (small t 1 1000 < 0) = true := decide_eq_true hneg
    have HR : Hid (formed t = false) := Lib.hid (by
      have h := HS.out
      rw [hnb] at h
      unfold formed
      cases h1 : fitsL (t.pre 1) <;> cases h2 : (t.pre 1).all (fun x => namedT x.2) <;> simp [h1, h2] at h ⊢)
    go_wp2_with fail
    go_ret
    exact ⟨by rw [HR.out]; rfl, HB1.out⟩
  · have hnb : decide (small t 1 1000 < 0) = false := decide_eq_false hneg
    have h12 : fitsL (t.pre 1) = true ∧ (t.pre 1).all (fun x => namedT x.2) = true := by
      have h := HS.out
      rw [hnb] at h
      cases h1 : fitsL (t.pre 1) <;> cases h2 : (t.pre 1).all (fun x => namedT x.2) <;> simp [h1, h2] at h ⊢
    have HR : Hid (formed t = (varsT t []).2) := Lib.hid (by
      rw [vars_agree (okV_pre t 1 (by simpa [List.all_eq_true] using h12.2))]
      unfold formed
      rw [h12.1, h12.2]; rfl)
    have hsz := fitsL_size h12.1
    have HC := Lib.hid (vars_any t A c w1.heap.size [] (.slice none 0 0) w1 ((HREP.out.later (HB1.out.mono hn)).mono (by have := HB1.out.size; omega)) (Nat.le_refl _) HOK.out ⟨none, 0, rfl, by simp, by simp [maxLen], fun h => by simp at h⟩ (by simp; omega))
    unfold TV at HC
    clear h12 hsz
    go_wp2_with fail
    refine HC.out.mono ?_
    rintro e w2 ⟨⟨v2, rfl, _⟩, hb2⟩
    have HB2 := Lib.hid (HB1.out.trans (hb2.mono HB1.out.size))
    clear hb2 x0 x1 x2 HC
    go_wp2_with fail
    go_ret
    exact ⟨by rw [HR.out]; rfl, HB2.out⟩
end Go.Proofs.YthbcfcbonmphfaaDoor
