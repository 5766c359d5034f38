/- The reference's Compare and Same. -/
import Derived.Test.YthbcfcbonmphfaaDoorTermK
namespace Go.Proofs.YthbcfcbonmphfaaDoor
open Go.RowKit Go.Shelf
set_option maxRecDepth 100000
attribute [local go_sem] Oper.semAt_some

def RInv (a b : Tm) (A : Option Addr) (c : Nat) (B : Option Addr) (c' : Nat) (w : World) (k : Nat) (wr : World) : Prop :=
  k ≤ a.ks.length ∧ rcmp a b = rcmps (a.ks.drop k) (b.ks.drop k) ∧ CW w wr a A c b B c'

theorem neg_ne {x : Int} (h : x = 0) : ¬ x ≠ 0 := fun h' => h' h
theorem isV_bne (t : Tm) {v : Bool} (h : isV t = v) : (t.st.toList == []) = !v := by
  unfold isV at h
  cases ht : t.st.toList with
  | nil => rw [ht] at h; rw [← h]; rfl
  | cons x l => rw [ht] at h; rw [← h]; rfl

set_option maxHeartbeats 4000000 in
theorem refCompare_any (a : Tm) : ∀ (b : Tm) (A B : Option Addr) (c c' n₀ : Nat) (w : World), TRep n₀ w a A → TRep n₀ w b B → n₀ ≤ w.heap.size → okT maxLen a → okT maxLen b →
    Calls Tryd.prog 40 #[TV a A c, TV b B c'] w fun e w' => e = .returned (.int .i64 (rcmp a b)) ∧ Below w.heap.size w w' := by
  induction a using Tm.ind with
  | h nm st ks ih =>
    intro b A B c c' n₀ w hra hrb hn hoa hob
    have hla : ks.length ≤ 9223372036854775807 := by have := hoa.len; unfold maxLen at this; simpa using this
    have hlb := hob.len
    unfold maxLen at hlb
    have HIH := Lib.hid ih
    have HOA := Lib.hid hoa
    have HOB := Lib.hid hob
    have HRA := Lib.hid hra
    have HRB := Lib.hid hrb
    have HC0 := Lib.hid (CW.start w (.mk nm st ks) A c b B c')
    obtain ⟨⟨x0, x1, x2⟩, _⟩ := blk3 HC0.out.ba
    obtain ⟨⟨y0, y1, y2⟩, _⟩ := blk3 HC0.out.bb
    dsimp only [Tm.nm_mk, Tm.st_mk, Tm.ks_mk] at x0 x1 x2
    clear ih hoa hob hra hrb
    generalize hva : isV (Tm.mk nm st ks) = va
    generalize hvb : isV b = vb
    have hba := isV_bne _ hva
    have hbb := isV_bne _ hvb
    dsimp only [Tm.nm_mk, Tm.st_mk, Tm.ks_mk] at hba
    unfold TV
    dsimp only [Tm.nm_mk, Tm.st_mk, Tm.ks_mk]
    by_cases hv : va = vb
    · subst hv
      have hT0 : rcmp (.mk nm st ks) b = if bcmp nm b.nm ≠ 0 then bcmp nm b.nm else if bcmp st b.st ≠ 0 then bcmp st b.st else if ncmp ks.length b.ks.length ≠ 0 then ncmp ks.length b.ks.length else rcmps ks b.ks := rcmp_eq (hva.trans hvb.symm)
      have HT := Lib.hid hT0
      clear hT0
      have hbv : (va != va) = false := bne_self_eq_false _
      clear hva hvb
      go_enter Tryd.func40, Tryd.ntmps40
      go_wp2_with fail
      refine (refOrder_any nm b.nm _).mono ?_
      rintro e w' ⟨rfl, rfl⟩
      by_cases h1 : bcmp nm b.nm = 0
      · have HB1 := Lib.hid h1
        rw [h1]
        clear h1
        go_wp2_with fail
        refine (refOrder_any st b.st _).mono ?_
        rintro e w' ⟨rfl, rfl⟩
        by_cases h2 : bcmp st b.st = 0
        · have HB2 := Lib.hid h2
          rw [h2]
          clear h2
          by_cases hlen : ks.length = b.ks.length
          · have hb1 : ((ks.length : Int) == (b.ks.length : Int)) = true := by rw [hlen]; exact beq_self_eq_true _
            have hb2 : ((ks.length : Int) != (b.ks.length : Int)) = false := by rw [hlen]; exact bne_self_eq_false _
            have HLEN := Lib.hid hlen
            have hT := HT.out
            rw [if_neg (neg_ne HB1.out), if_neg (neg_ne HB2.out), if_neg (neg_ne (show ncmp ks.length b.ks.length = 0 by unfold ncmp; rw [if_neg (by omega), if_neg (by omega)]))] at hT
            have HT2 := Lib.hid hT
            clear hlen hT HT
            go_wp2_with fail
            clear x0 x1 x2 y0 y1 y2 hb1 hb2 hbv
            go_loopw [7] (fun y wr => ∃ k : Nat, y = .int .i64 k ∧ RInv (.mk nm st ks) b A c B c' w k wr) (fun y _ => ks.length - (intOf y).toNat)
            case atStart => exact ⟨0, rfl, Nat.zero_le _, HT2.out, HC0.out⟩
            case round =>
              clear HC0
              obtain ⟨k, rfl, hk, heq, hcw⟩ := hrel
              have HEQ := Lib.hid heq
              have HCW := Lib.hid hcw
              clear heq hcw
              dsimp only [Tm.ks_mk] at hk
              obtain ⟨⟨x0, x1, x2⟩, _⟩ := blk3 HCW.out.ba
              obtain ⟨⟨y0, y1, y2⟩, _⟩ := blk3 HCW.out.bb
              dsimp only [Tm.nm_mk, Tm.st_mk, Tm.ks_mk] at x0 x1 x2
              by_cases hlt : k < ks.length
              · have hlb2 : k < b.ks.length := by have := HLEN.out; omega
                obtain ⟨x, hx⟩ : ∃ x, ks[k]? = some x := ⟨ks[k]'hlt, List.getElem?_eq_getElem _⟩
                obtain ⟨y, hy⟩ : ∃ y, b.ks[k]? = some y := ⟨b.ks[k]'hlb2, List.getElem?_eq_getElem _⟩
                obtain ⟨ab, ao, A1, c1, rfl, hab, u0, u1, u2, hra⟩ := HRA.out.kid (i := k) hx
                obtain ⟨bb, bo, B1, d1, rfl, hbb2, v0, v1, v2, hrb⟩ := HRB.out.kid (i := k) hy
                have hbw := HCW.out.below
                have hbn := hbw.mono hn
                replace u0 := (hbn.cell (p := ⟨ab, _, none⟩) hab).trans u0
                replace u1 := (hbn.cell (p := ⟨ab, _, none⟩) hab).trans u1
                replace u2 := (hbn.cell (p := ⟨ab, _, none⟩) hab).trans u2
                replace v0 := (hbn.cell (p := ⟨bb, _, none⟩) hbb2).trans v0
                replace v1 := (hbn.cell (p := ⟨bb, _, none⟩) hbb2).trans v1
                replace v2 := (hbn.cell (p := ⟨bb, _, none⟩) hbb2).trans v2
                have hsz := hbw.size
                have HC := Lib.hid (HIH.out x (List.mem_of_getElem? hx) y A1 B1 c1 d1 n₀ wr.drew (hra.later hbn.drew) (hrb.later hbn.drew) (by simp; omega) (HOA.out.kid (List.mem_of_getElem? hx)) (HOB.out.kid (List.mem_of_getElem? hy)))
                have HX := Lib.hid hx
                have HY := Lib.hid hy
                have hI : (k : Int) < (ks.length : Int) := by omega
                have hI2 : (k : Int) < (b.ks.length : Int) := by omega
                clear hx hy hra hrb hbw hbn
                go_wp2_with fail
                go_still_tail 10, (by kernel_rfl)
                change wpList _ _ _ _ _ wr.drew
                go_wp2_with fail
                refine HC.out.mono ?_
                rintro e w5 ⟨rfl, hb5⟩
                have HB5 := Lib.hid hb5
                clear hb5 HC x0 x1 x2 y0 y1 y2 u0 u1 u2 v0 v1 v2
                by_cases hz : rcmp x y = 0
                · have HZ := Lib.hid hz
                  rw [hz]
                  clear hz
                  go_wp2
                  go_roundw
                  case rel =>
                    refine ⟨k + 1, by go_num, ?_, ?_, HCW.out.drew.next HB5.out⟩
                    · dsimp only [Tm.ks_mk]; omega
                    · rw [HEQ.out]; dsimp only [Tm.ks_mk]; rw [rcmps_at HX.out HY.out, if_neg (neg_ne HZ.out)]
                  case measure => simp [intOf]; omega
                · have hzb : (rcmp x y != 0) = true := by simp [hz]
                  have HZ := Lib.hid hz
                  clear hz
                  go_wp2
                  go_ret
                  exact ⟨by rw [HEQ.out]; dsimp only [Tm.ks_mk]; rw [rcmps_at HX.out HY.out, if_pos HZ.out]; rfl, (HCW.out.drew.next HB5.out).below⟩
              · have hI : ¬ (k : Int) < (ks.length : Int) := by omega
                have hkl : k = ks.length := by omega
                have HKL := Lib.hid hkl
                clear hkl
                go_wp2_with fail
                go_ret
                exact ⟨by
                  rw [HEQ.out]; dsimp only [Tm.ks_mk]
                  rw [HKL.out, List.drop_length]; rfl, HCW.out.below⟩
          · have hb1 : ((ks.length : Int) != (b.ks.length : Int)) = true := bne_iff_ne.2 (by omega)
            have hT := HT.out
            rw [if_neg (neg_ne HB1.out), if_neg (neg_ne HB2.out)] at hT
            by_cases hl : ks.length < b.ks.length
            · have hI : (ks.length : Int) < (b.ks.length : Int) := by omega
              have hn2 : ncmp ks.length b.ks.length = -1 := by unfold ncmp; rw [if_pos hl]
              rw [hn2, if_pos (by decide)] at hT
              have HT2 := Lib.hid hT
              clear hT hn2 hlen
              go_wp2_with fail
              go_ret
              exact ⟨by rw [HT2.out]; rfl, HC0.out.below⟩
            · have hI : ¬ (ks.length : Int) < (b.ks.length : Int) := by omega
              have hn2 : ncmp ks.length b.ks.length = 1 := by unfold ncmp; rw [if_neg hl, if_pos (by omega)]
              rw [hn2, if_pos (by decide)] at hT
              have HT2 := Lib.hid hT
              clear hT hn2 hlen
              go_wp2_with fail
              go_ret
              exact ⟨by rw [HT2.out]; rfl, HC0.out.below⟩
        · have hb2 : (bcmp st b.st != 0) = true := by simp [h2]
          have HB2 := Lib.hid h2
          clear h2
          go_wp2_with fail
          go_ret
          exact ⟨by rw [HT.out, if_neg (neg_ne HB1.out), if_pos HB2.out]; rfl, HC0.out.below⟩
      · have hb1 : (bcmp nm b.nm != 0) = true := by simp [h1]
        have HB1 := Lib.hid h1
        clear h1
        go_wp2_with fail
        go_ret
        exact ⟨by rw [HT.out, if_pos HB1.out]; rfl, HC0.out.below⟩
    · cases va
      · cases vb
        · exact absurd rfl hv
        · have HT := Lib.hid (rcmp_nv hva hvb)
          clear hv
          go_enter Tryd.func40, Tryd.ntmps40
          go_wp2_with fail
          go_ret
          exact ⟨by rw [HT.out]; rfl, HC0.out.below⟩
      · cases vb
        · have HT := Lib.hid (rcmp_vn hva hvb)
          clear hv
          go_enter Tryd.func40, Tryd.ntmps40
          go_wp2_with fail
          go_ret
          exact ⟨by rw [HT.out]; rfl, HC0.out.below⟩
        · exact absurd rfl hv

set_option maxHeartbeats 1000000 in
theorem refSame_any (a b : Tm) (A B : Option Addr) (c c' n₀ : Nat) (w : World) (hra : TRep n₀ w a A) (hrb : TRep n₀ w b B) (hn : n₀ ≤ w.heap.size) (hoa : okT maxLen a) (hob : okT maxLen b) :
    Calls Tryd.prog 35 #[TV a A c, TV b B c'] w fun e w' => e = .returned (.bool (rcmp a b == 0)) ∧ Below w.heap.size w w' := by
  have HC0 := Lib.hid (CW.start w a A c b B c')
  obtain ⟨⟨x0, x1, x2⟩, _⟩ := blk3 HC0.out.ba
  obtain ⟨⟨y0, y1, y2⟩, _⟩ := blk3 HC0.out.bb
  have HC := Lib.hid (refCompare_any a b A B c c' n₀ _ (hra.later (HC0.out.below.mono hn)) (hrb.later (HC0.out.below.mono hn)) (by have := HC0.out.below.size; omega) hoa hob)
  clear hra hrb hoa hob
  unfold TV at HC
  unfold TV
  go_enter Tryd.func35, Tryd.ntmps35
  go_wp2_with fail
  refine HC.out.mono ?_
  rintro e w1 ⟨rfl, hb1⟩
  have HC1 := Lib.hid (HC0.out.next hb1)
  clear hb1
  go_wp2_with fail
  go_ret
  exact ⟨rfl, HC1.out.below⟩
end Go.Proofs.YthbcfcbonmphfaaDoor
