/- The parser of terms. -/
import Derived.Test.YthbcfcbonmphfaaGreatDoorTermOsBundle
import Derived.Test.YthbcfcbonmphfaaGreatDoorTermDBundle
import Derived.Deep.Slices
import Derived.Test.YthbcfcbonmphfaaGreatDoorJoinSBundle
import Derived.Test.YthbcfcbonmphfaaGreatDoorTermLBundle
import Derived.Test.YthbcfcbonmphfaaGreatDoorPlacCBundle
import Derived.Maps.AppendAt
/- A term that came in. -/
namespace Go.Proofs.YthbcfcbonmphfaaGreatDoor
set_option maxRecDepth 100000
open Go.ChangeShapes Go.WideShapes Go.ChangeAt Go.WideMaps Go.WideElems Go.RowKit Go.Deep
open Go.ChangeMaps (open_string)

abbrev Kd := Tm × Option Addr × Nat
def kdC (x : Kd) : List Value := [.string x.1.nm, .string x.1.st, .slice x.2.1 x.1.ks.length x.2.2]
theorem kd_list (len : Nat) (P : Nat → Kd → Prop) (h : ∀ i, i < len → ∃ t, P i t) : ∃ L : List Kd, L.length = len ∧ ∀ (i : Nat) (t : Kd), L[i]? = some t → P i t := by
  induction len with
  | zero => exact ⟨[], rfl, fun i t ht => by simp at ht⟩
  | succ n ih =>
    obtain ⟨L, hL, hP⟩ := ih (fun i hi => h i (by omega))
    obtain ⟨t, ht⟩ := h n (by omega)
    refine ⟨L ++ [t], by simp [hL], fun i u hu => ?_⟩
    rcases Nat.lt_or_ge i n with hi | hi
    · rw [List.getElem?_append_left (by omega)] at hu
      exact hP i u hu
    · rw [List.getElem?_append_right (by omega), hL] at hu
      have : i = n := by
        rcases Nat.eq_zero_or_pos (i - n) with h0 | h0
        · omega
        · rw [List.getElem?_eq_none (by simp; omega)] at hu; cases hu
      subst this
      simp at hu
      rw [← hu]
      exact ht

section
variable {H : Type} {enc : TypeId × Value → H}
theorem term_cells {w : World} {spare : Nat → Bool} {held : Bool} (n : Nat) : ∀ {cs : List Value} {x : DataW H × List MemPlace}, DataW.trod enc Tryz.prog w 0 spare held n 28 cs = some x →
    ∃ k : Kd, cs = kdC k ∧ okT maxLen k.1 ∧ TRep w.heap.size w k.1 k.2.1 := by
  induction n using Nat.strongRecOn with
  | ind n ih =>
    intro cs x h
    have hC : Tryz.prog.cellsOf 28 = 3 := by kernel_rfl
    have hC9 : Tryz.prog.cellsOf 9 = 1 := by kernel_rfl
    have hC54 : Tryz.prog.cellsOf 26 = 1 := by kernel_rfl
    obtain ⟨xs, m, rfl, hx, hl3, hlen, hg⟩ := DataW.trod_struct Tryz.underlying28 h
    match cs, hl3.trans hC with
    | [c0, c1, c2], _ =>
      match xs, hlen with
      | [y0, y1, y2], _ =>
        have t0 : DataW.trod enc Tryz.prog w 0 spare held m 9 [c0] = some y0 := by simpa [hC9] using hg 0 _ rfl
        have t1 : DataW.trod enc Tryz.prog w 0 spare held m 9 [c1] = some y1 := by simpa [hC9] using hg 1 _ rfl
        have t2 : DataW.trod enc Tryz.prog w 0 spare held m 26 [c2] = some y2 := by simpa [hC54] using hg 2 _ rfl
        obtain ⟨nm, e0, _, hnm⟩ := DataW.trod_string Tryz.underlying9 t0
        obtain ⟨st, e1, _, hst⟩ := DataW.trod_string Tryz.underlying9 t1
        simp at e0 e1
        subst e0 e1
        rcases DataW.trod_slice Tryz.underlying26 t2 with ⟨hcs, _⟩ | ⟨a, len, cap, elems, rest, m', rfl, hcs, _, _, hl, hm, hel, hi, _, _⟩
        · simp at hcs
          subst hcs
          exact ⟨⟨.mk nm st [], none, 0⟩, rfl, .mk _ _ _ hnm hst (Nat.zero_le _) (fun k hk => by cases hk), TRep.leaf _ _ _ _ rfl⟩
        · simp at hcs
          subst hcs
          obtain ⟨L, hL, hP⟩ := kd_list len (fun i k => w.cells? 0 (a.add (i * 3)) 3 = some (kdC k) ∧ okT maxLen k.1 ∧ TRep w.heap.size w k.1 k.2.1) (fun i hlt => by
            have h1 := hi i hlt
            rw [hC] at h1
            have h2 : elems[i]? = some (elems[i]'(by omega)) := List.getElem?_eq_getElem _
            rw [h2] at h1
            obtain ⟨cs', hc1, hc2⟩ := Option.bind_eq_some_iff.1 h1
            obtain ⟨k, rfl, hk1, hk2⟩ := ih m' (by omega) hc2
            exact ⟨k, hc1, hk1, hk2⟩)
          obtain ⟨b, off, spot⟩ := a
          have hget : ∀ (i : Nat) (t : Tm), (L.map (·.1))[i]? = some t → ∃ k, L[i]? = some k ∧ k.1 = t := fun i t ht => by
            rw [List.getElem?_map] at ht
            cases hk : L[i]? with
            | none => rw [hk] at ht; cases ht
            | some k => rw [hk] at ht; injection ht with ht; exact ⟨k, rfl, ht⟩
          have cell : ∀ (i : Nat) (k : Kd), L[i]? = some k → ∀ j, j < 3 → w.cell? ((⟨b, off, spot⟩ : Addr).add (i * 3 + j)) = (kdC k)[j]? := fun i k hk j hj => by
            obtain ⟨_, _, hat⟩ := World.cells?_some (hP i k hk).1
            rw [← add_add]
            exact hat j hj
          have hpos : 0 < L.length → spot = none ∧ b < w.heap.size := fun hpos => by
            have h0 : L[0]? = some L[0] := List.getElem?_eq_getElem hpos
            have hc := cell 0 _ h0 0 (by omega)
            have hs : spot = none := by simpa [Addr.add] using World.cell?_spot hc
            subst hs
            rw [show (⟨b, off, none⟩ : Addr).add (0 * 3 + 0) = ⟨b, off + (0 * 3 + 0), none⟩ from Go.WideShapes.add_plain ..] at hc
            exact ⟨rfl, World.block_lt_of_cell? w _ hc⟩
          have hlt : ∀ {i : Nat} {k : Kd}, L[i]? = some k → 0 < L.length := fun {i k} hk => by have := (List.getElem?_eq_some_iff.1 hk).1; omega
          have cell' : ∀ (i : Nat) (k : Kd), L[i]? = some k → ∀ j, j < 3 → w.cell? ⟨b, off + (i * 3 + j), none⟩ = (kdC k)[j]? := fun i k hk j hj => by
            have hc := cell i k hk j hj
            obtain ⟨hs, _⟩ := hpos (hlt hk)
            subst hs
            rw [show (⟨b, off, none⟩ : Addr).add (i * 3 + j) = ⟨b, off + (i * 3 + j), none⟩ from Go.WideShapes.add_plain ..] at hc
            exact hc
          refine ⟨⟨.mk nm st (L.map (·.1)), some ⟨b, off, spot⟩, cap⟩, ?_, .mk _ _ _ hnm hst (by rw [List.length_map, hL]; omega) (fun k hk => ?_), ?_⟩
          · simp [kdC, hL]
          · obtain ⟨y, hy, rfl⟩ := List.mem_map.1 hk
            obtain ⟨i, hi'⟩ := List.getElem?_of_mem hy
            exact (hP i y hi').2.1
          · refine .mk nm st _ _ b off (fun i => ((L[i]?).map (·.2.1)).getD none) (fun i => ((L[i]?).map (·.2.2)).getD 0) (fun h => ?_) (fun i t ht => ?_) (fun i t ht => ?_) (fun i t ht => ?_) (fun i t ht => ?_)
            · rw [List.length_map] at h
              obtain ⟨hs, hb⟩ := hpos h
              exact ⟨by rw [hs], hb⟩
            · obtain ⟨k, hk, rfl⟩ := hget i t ht
              simpa [kdC] using cell' i k hk 0 (by omega)
            · obtain ⟨k, hk, rfl⟩ := hget i t ht
              simpa [kdC, Nat.add_assoc] using cell' i k hk 1 (by omega)
            · obtain ⟨k, hk, rfl⟩ := hget i t ht
              rw [hk]
              simpa [kdC, Nat.add_assoc] using cell' i k hk 2 (by omega)
            · obtain ⟨k, hk, rfl⟩ := hget i t ht
              rw [hk]
              exact (hP i k hk).2.2
/-- A term that came in. -/
theorem open_term {w : World} {spare : Nat → Bool} {held : Bool} {r : Reach} {b0 : Nat} {v : Value} {d : DataW H} {p : List MemPlace}
    (hv : Value.okWide Tryz.prog w r b0 28 v) (h : DataW.Trod enc Tryz.prog w 0 spare held 28 v d p) :
    ∃ (t : Tm) (A : Option Addr) (c : Nat), v = TV t A c ∧ okT maxLen t ∧ TRep w.heap.size w t A := by
  obtain ⟨cs, rfl, hsz⟩ := okWide_struct Tryz.underlying28 hv
  obtain ⟨fuel, hf⟩ := h
  obtain ⟨⟨t, A, c⟩, hcs, hok, hrep⟩ := term_cells fuel hf
  refine ⟨t, A, c, ?_, hok, hrep⟩
  simp [Value.cells, kdC] at hcs
  unfold TV
  rw [← hcs]
end
end Go.Proofs.YthbcfcbonmphfaaGreatDoor
/- The reference's Compare and Same. -/
namespace Go.Proofs.YthbcfcbonmphfaaGreatDoor
open Go.RowKit Go.Shelf
set_option maxRecDepth 100000
attribute [local go_sem] Oper.semAt_some

def RInv (a b : Tm) (A : Option Addr) (c : Nat) (B : Option Addr) (c' : Nat) (w : World) (k : Nat) (wr : World) : Prop :=
  k ≤ a.ks.length ∧ rcmp a b = rcmps (a.ks.drop k) (b.ks.drop k) ∧ CW w wr a A c b B c'

theorem neg_ne {x : Int} (h : x = 0) : ¬ x ≠ 0 := fun h' => h' h
theorem isV_bne (t : Tm) {v : Bool} (h : isV t = v) : (t.st.toList == []) = !v := by
  unfold isV at h
  cases ht : t.st.toList with
  | nil => rw [ht] at h; rw [← h]; rfl
  | cons x l => rw [ht] at h; rw [← h]; rfl

set_option maxHeartbeats 4000000 in
theorem refCompare_any (a : Tm) : ∀ (b : Tm) (A B : Option Addr) (c c' n₀ : Nat) (w : World), TRep n₀ w a A → TRep n₀ w b B → n₀ ≤ w.heap.size → okT maxLen a → okT maxLen b →
    Calls Tryz.prog 59 #[TV a A c, TV b B c'] w fun e w' => e = .returned (.int .i64 (rcmp a b)) ∧ Below w.heap.size w w' := by
  induction a using Tm.ind with
  | h nm st ks ih =>
    intro b A B c c' n₀ w hra hrb hn hoa hob
    have hla : ks.length ≤ 9223372036854775807 := by have := hoa.len; unfold maxLen at this; simpa using this
    have hlb := hob.len
    unfold maxLen at hlb
    have HIH := Lib.hid ih
    have HOA := Lib.hid hoa
    have HOB := Lib.hid hob
    have HRA := Lib.hid hra
    have HRB := Lib.hid hrb
    have HC0 := Lib.hid (CW.start w (.mk nm st ks) A c b B c')
    obtain ⟨⟨x0, x1, x2⟩, _⟩ := blk3 HC0.out.ba
    obtain ⟨⟨y0, y1, y2⟩, _⟩ := blk3 HC0.out.bb
    dsimp only [Tm.nm_mk, Tm.st_mk, Tm.ks_mk] at x0 x1 x2
    clear ih hoa hob hra hrb
    generalize hva : isV (Tm.mk nm st ks) = va
    generalize hvb : isV b = vb
    have hba := isV_bne _ hva
    have hbb := isV_bne _ hvb
    dsimp only [Tm.nm_mk, Tm.st_mk, Tm.ks_mk] at hba
    unfold TV
    dsimp only [Tm.nm_mk, Tm.st_mk, Tm.ks_mk]
    by_cases hv : va = vb
    · subst hv
      have hT0 : rcmp (.mk nm st ks) b = if bcmp nm b.nm ≠ 0 then bcmp nm b.nm else if bcmp st b.st ≠ 0 then bcmp st b.st else if ncmp ks.length b.ks.length ≠ 0 then ncmp ks.length b.ks.length else rcmps ks b.ks := rcmp_eq (hva.trans hvb.symm)
      have HT := Lib.hid hT0
      clear hT0
      have hbv : (va != va) = false := bne_self_eq_false _
      clear hva hvb
      go_enter Tryz.func59, Tryz.ntmps59
      go_wp2_with fail
      refine (refOrder_any nm b.nm _).mono ?_
      rintro e w' ⟨rfl, rfl⟩
      by_cases h1 : bcmp nm b.nm = 0
      · have HB1 := Lib.hid h1
        rw [h1]
        clear h1
        go_wp2_with fail
        refine (refOrder_any st b.st _).mono ?_
        rintro e w' ⟨rfl, rfl⟩
        by_cases h2 : bcmp st b.st = 0
        · have HB2 := Lib.hid h2
          rw [h2]
          clear h2
          by_cases hlen : ks.length = b.ks.length
          · have hb1 : ((ks.length : Int) == (b.ks.length : Int)) = true := by rw [hlen]; exact beq_self_eq_true _
            have hb2 : ((ks.length : Int) != (b.ks.length : Int)) = false := by rw [hlen]; exact bne_self_eq_false _
            have HLEN := Lib.hid hlen
            have hT := HT.out
            rw [if_neg (neg_ne HB1.out), if_neg (neg_ne HB2.out), if_neg (neg_ne (show ncmp ks.length b.ks.length = 0 by unfold ncmp; rw [if_neg (by omega), if_neg (by omega)]))] at hT
            have HT2 := Lib.hid hT
            clear hlen hT HT
            go_wp2_with fail
            clear x0 x1 x2 y0 y1 y2 hb1 hb2 hbv
            go_loopw [7] (fun y wr => ∃ k : Nat, y = .int .i64 k ∧ RInv (.mk nm st ks) b A c B c' w k wr) (fun y _ => ks.length - (intOf y).toNat)
            case atStart => exact ⟨0, rfl, Nat.zero_le _, HT2.out, HC0.out⟩
            case round =>
              clear HC0
              obtain ⟨k, rfl, hk, heq, hcw⟩ := hrel
              have HEQ := Lib.hid heq
              have HCW := Lib.hid hcw
              clear heq hcw
              dsimp only [Tm.ks_mk] at hk
              obtain ⟨⟨x0, x1, x2⟩, _⟩ := blk3 HCW.out.ba
              obtain ⟨⟨y0, y1, y2⟩, _⟩ := blk3 HCW.out.bb
              dsimp only [Tm.nm_mk, Tm.st_mk, Tm.ks_mk] at x0 x1 x2
              by_cases hlt : k < ks.length
              · have hlb2 : k < b.ks.length := by have := HLEN.out; omega
                obtain ⟨x, hx⟩ : ∃ x, ks[k]? = some x := ⟨ks[k]'hlt, List.getElem?_eq_getElem _⟩
                obtain ⟨y, hy⟩ : ∃ y, b.ks[k]? = some y := ⟨b.ks[k]'hlb2, List.getElem?_eq_getElem _⟩
                obtain ⟨ab, ao, A1, c1, rfl, hab, u0, u1, u2, hra⟩ := HRA.out.kid (i := k) hx
                obtain ⟨bb, bo, B1, d1, rfl, hbb2, v0, v1, v2, hrb⟩ := HRB.out.kid (i := k) hy
                have hbw := HCW.out.below
                have hbn := hbw.mono hn
                replace u0 := (hbn.cell (p := ⟨ab, _, none⟩) hab).trans u0
                replace u1 := (hbn.cell (p := ⟨ab, _, none⟩) hab).trans u1
                replace u2 := (hbn.cell (p := ⟨ab, _, none⟩) hab).trans u2
                replace v0 := (hbn.cell (p := ⟨bb, _, none⟩) hbb2).trans v0
                replace v1 := (hbn.cell (p := ⟨bb, _, none⟩) hbb2).trans v1
                replace v2 := (hbn.cell (p := ⟨bb, _, none⟩) hbb2).trans v2
                have hsz := hbw.size
                have HC := Lib.hid (HIH.out x (List.mem_of_getElem? hx) y A1 B1 c1 d1 n₀ wr.drew (hra.later hbn.drew) (hrb.later hbn.drew) (by simp; omega) (HOA.out.kid (List.mem_of_getElem? hx)) (HOB.out.kid (List.mem_of_getElem? hy)))
                have HX := Lib.hid hx
                have HY := Lib.hid hy
                have hI : (k : Int) < (ks.length : Int) := by omega
                have hI2 : (k : Int) < (b.ks.length : Int) := by omega
                clear hx hy hra hrb hbw hbn
                go_wp2_with fail
                go_still_tail 10, (by kernel_rfl)
                change wpList _ _ _ _ _ wr.drew
                go_wp2_with fail
                refine HC.out.mono ?_
                rintro e w5 ⟨rfl, hb5⟩
                have HB5 := Lib.hid hb5
                clear hb5 HC x0 x1 x2 y0 y1 y2 u0 u1 u2 v0 v1 v2
                by_cases hz : rcmp x y = 0
                · have HZ := Lib.hid hz
                  rw [hz]
                  clear hz
                  go_wp2
                  go_roundw
                  case rel =>
                    refine ⟨k + 1, by go_num, ?_, ?_, HCW.out.drew.next HB5.out⟩
                    · dsimp only [Tm.ks_mk]; omega
                    · rw [HEQ.out]; dsimp only [Tm.ks_mk]; rw [rcmps_at HX.out HY.out, if_neg (neg_ne HZ.out)]
                  case measure => simp [intOf]; omega
                · have hzb : (rcmp x y != 0) = true := by simp [hz]
                  have HZ := Lib.hid hz
                  clear hz
                  go_wp2
                  go_ret
                  exact ⟨by rw [HEQ.out]; dsimp only [Tm.ks_mk]; rw [rcmps_at HX.out HY.out, if_pos HZ.out]; rfl, (HCW.out.drew.next HB5.out).below⟩
              · have hI : ¬ (k : Int) < (ks.length : Int) := by omega
                have hkl : k = ks.length := by omega
                have HKL := Lib.hid hkl
                clear hkl
                go_wp2_with fail
                go_ret
                exact ⟨by
                  rw [HEQ.out]; dsimp only [Tm.ks_mk]
                  rw [HKL.out, List.drop_length]; rfl, HCW.out.below⟩
          · have hb1 : ((ks.length : Int) != (b.ks.length : Int)) = true := bne_iff_ne.2 (by omega)
            have hT := HT.out
            rw [if_neg (neg_ne HB1.out), if_neg (neg_ne HB2.out)] at hT
            by_cases hl : ks.length < b.ks.length
            · have hI : (ks.length : Int) < (b.ks.length : Int) := by omega
              have hn2 : ncmp ks.length b.ks.length = -1 := by unfold ncmp; rw [if_pos hl]
              rw [hn2, if_pos (by decide)] at hT
              have HT2 := Lib.hid hT
              clear hT hn2 hlen
              go_wp2_with fail
              go_ret
              exact ⟨by rw [HT2.out]; rfl, HC0.out.below⟩
            · have hI : ¬ (ks.length : Int) < (b.ks.length : Int) := by omega
              have hn2 : ncmp ks.length b.ks.length = 1 := by unfold ncmp; rw [if_neg hl, if_pos (by omega)]
              rw [hn2, if_pos (by decide)] at hT
              have HT2 := Lib.hid hT
              clear hT hn2 hlen
              go_wp2_with fail
              go_ret
              exact ⟨by rw [HT2.out]; rfl, HC0.out.below⟩
        · have hb2 : (bcmp st b.st != 0) = true := by simp [h2]
          have HB2 := Lib.hid h2
          clear h2
          go_wp2_with fail
          go_ret
          exact ⟨by rw [HT.out, if_neg (neg_ne HB1.out), if_pos HB2.out]; rfl, HC0.out.below⟩
      · have hb1 : (bcmp nm b.nm != 0) = true := by simp [h1]
        have HB1 := Lib.hid h1
        clear h1
        go_wp2_with fail
        go_ret
        exact ⟨by rw [HT.out, if_pos HB1.out]; rfl, HC0.out.below⟩
    · cases va
      · cases vb
        · exact absurd rfl hv
        · have HT := Lib.hid (rcmp_nv hva hvb)
          clear hv
          go_enter Tryz.func59, Tryz.ntmps59
          go_wp2_with fail
          go_ret
          exact ⟨by rw [HT.out]; rfl, HC0.out.below⟩
      · cases vb
        · have HT := Lib.hid (rcmp_vn hva hvb)
          clear hv
          go_enter Tryz.func59, Tryz.ntmps59
          go_wp2_with fail
          go_ret
          exact ⟨by rw [HT.out]; rfl, HC0.out.below⟩
        · exact absurd rfl hv

set_option maxHeartbeats 1000000 in
theorem refSame_any (a b : Tm) (A B : Option Addr) (c c' n₀ : Nat) (w : World) (hra : TRep n₀ w a A) (hrb : TRep n₀ w b B) (hn : n₀ ≤ w.heap.size) (hoa : okT maxLen a) (hob : okT maxLen b) :
    Calls Tryz.prog 25 #[TV a A c, TV b B c'] w fun e w' => e = .returned (.bool (rcmp a b == 0)) ∧ Below w.heap.size w w' := by
  have HC0 := Lib.hid (CW.start w a A c b B c')
  obtain ⟨⟨x0, x1, x2⟩, _⟩ := blk3 HC0.out.ba
  obtain ⟨⟨y0, y1, y2⟩, _⟩ := blk3 HC0.out.bb
  have HC := Lib.hid (refCompare_any a b A B c c' n₀ _ (hra.later (HC0.out.below.mono hn)) (hrb.later (HC0.out.below.mono hn)) (by have := HC0.out.below.size; omega) hoa hob)
  clear hra hrb hoa hob
  unfold TV at HC
  unfold TV
  go_enter Tryz.func25, Tryz.ntmps25
  go_wp2_with fail
  refine HC.out.mono ?_
  rintro e w1 ⟨rfl, hb1⟩
  have HC1 := Lib.hid (HC0.out.next hb1)
  clear hb1
  go_wp2_with fail
  go_ret
  exact ⟨rfl, HC1.out.below⟩
end Go.Proofs.YthbcfcbonmphfaaGreatDoor
/- The parser's methods on tokens. -/
namespace Go.Proofs.YthbcfcbonmphfaaGreatDoor
open Go.RowKit Go.Shelf
set_option maxRecDepth 100000

def TkAt (w : World) (b off : Nat) (l : List Tk) : Prop :=
  ∀ (i : Nat) (t : Tk), l[i]? = some t → w.cell? ⟨b, off + i * 5, none⟩ = some (.int .i64 t.k) ∧ w.cell? ⟨b, off + i * 5 + 1, none⟩ = some (.string ⟨t.t.toArray⟩) ∧
    w.cell? ⟨b, off + i * 5 + 2, none⟩ = some (.int .i64 t.n) ∧ w.cell? ⟨b, off + i * 5 + 3, none⟩ = some (.int .i64 t.a) ∧ w.cell? ⟨b, off + i * 5 + 4, none⟩ = some (.int .i64 t.b)
/-- The parser in block P reads l. -/
def PB (w : World) (P : Nat) (l : List Tk) : Prop :=
  ∃ b off c, w.heap[P]? = some (.cells #[.slice (some ⟨b, off, none⟩) l.length c] 106 (0, 0)) ∧ l.length ≤ c ∧ c ≤ maxLen ∧ b < P ∧ TkAt w b off l
theorem PB.lt {w : World} {P : Nat} {l : List Tk} (h : PB w P l) : P < w.heap.size := by
  obtain ⟨b, off, c, h1, _⟩ := h
  exact (Array.getElem?_eq_some_iff.1 h1).1
theorem PB.below {w w' : World} {P : Nat} {l : List Tk} (h : PB w P l) (hb : Below w.heap.size w w') : PB w' P l := by
  have hP := h.lt
  obtain ⟨b, off, c, h1, h2, h3, h4, h6⟩ := h
  have h5 : b < w.heap.size := by omega
  exact ⟨b, off, c, cells_below h1 hb, h2, h3, h4, fun i t ht => by
    obtain ⟨c0, c1, c2, c3, c4⟩ := h6 i t ht
    exact ⟨(hb.cell (p := ⟨b, _, none⟩) h5).trans c0, (hb.cell (p := ⟨b, _, none⟩) h5).trans c1, (hb.cell (p := ⟨b, _, none⟩) h5).trans c2, (hb.cell (p := ⟨b, _, none⟩) h5).trans c3, (hb.cell (p := ⟨b, _, none⟩) h5).trans c4⟩⟩
/-- One token is read. -/
theorem PB.next {w : World} {P b off c : Nat} {t : Tk} {r : List Tk} (h1 : w.heap[P]? = some (.cells #[.slice (some ⟨b, off, none⟩) (t :: r).length c] 106 (0, 0))) (h2 : (t :: r).length ≤ c) (h3 : c ≤ maxLen) (h4 : b < P) (h6 : TkAt w b off (t :: r)) :
    PB (w.setCell ⟨P, 0, none⟩ (.slice (some ⟨b, off + 5, none⟩) r.length (c - 1))) P r ∧ w.grownBy (w.setCell ⟨P, 0, none⟩ (.slice (some ⟨b, off + 5, none⟩) r.length (c - 1))) (some P) := by
  refine ⟨⟨b, off + 5, c - 1, heap_setCell_same w P 0 _ _ _ h1, by simp at h2; omega, by omega, h4, fun i u hu => ?_⟩, grownBy_setCell' w P _⟩
  obtain ⟨c0, c1, c2, c3, c4⟩ := h6 (i + 1) u (by simpa using hu)
  have hk : ∀ o, (w.setCell ⟨P, 0, none⟩ (.slice (some ⟨b, off + 5, none⟩) r.length (c - 1))).cell? ⟨b, o, none⟩ = w.cell? ⟨b, o, none⟩ := fun o => World.cell?_of_block (Below.heap_setCell _ _ _ _ (show b ≠ P by omega))
  have e : off + 5 + i * 5 = off + (i + 1) * 5 := by omega
  rw [e]
  exact ⟨(hk _).trans c0, (hk _).trans c1, (hk _).trans c2, (hk _).trans c3, (hk _).trans c4⟩

set_option maxHeartbeats 1000000 in
theorem text_no (P : Nat) (t : Tk) (r : List Tk) (k : Int) (s : ByteArray) (w : World) (h : PB w P (t :: r)) (hn : t.k ≠ k ∨ t.t ≠ s.toList) :
    Calls Tryz.prog 111 #[.pointer (some ⟨P, 0, none⟩), .int .i64 k, .string s] w fun e w' => e = .returned (.bool false) ∧ w' = w := by
  obtain ⟨b, off, c, h1, h2, h3, h4, h6⟩ := h
  obtain ⟨x0, _⟩ := blk1 h1
  obtain ⟨c0, c1, c2, c3, c4⟩ := h6 0 t rfl
  simp only [Nat.zero_mul, Nat.add_zero, List.length_cons] at c0 c1 c2 c3 c4 x0
  clear h1 h2 h3 h4 h6
  by_cases hk : t.k = k
  · have hs : (t.t == s.toList) = false := beq_eq_false_iff_ne.2 (by rcases hn with h | h; exact absurd hk h; exact h)
    have hb : (t.k == k) = true := by rw [hk]; exact beq_self_eq_true _
    have hb2 : (t.k != k) = false := by rw [hk]; exact bne_self_eq_false _
    clear hn hk
    go_enter Tryz.func111, Tryz.ntmps111
    go_wp2_with fail
    go_ret
    exact ⟨rfl, rfl⟩
  · have hb : (t.k == k) = false := beq_eq_false_iff_ne.2 hk
    have hb2 : (t.k != k) = true := bne_iff_ne.2 hk
    clear hn hk
    go_enter Tryz.func111, Tryz.ntmps111
    go_wp2_with fail
    go_ret
    exact ⟨rfl, rfl⟩
set_option maxHeartbeats 1000000 in
theorem text_yes (P : Nat) (t u : Tk) (r : List Tk) (k : Int) (s : ByteArray) (w : World) (h : PB w P (t :: u :: r)) (hk : t.k = k) (ht : t.t = s.toList) :
    Calls Tryz.prog 111 #[.pointer (some ⟨P, 0, none⟩), .int .i64 k, .string s] w fun e w' => e = .returned (.bool true) ∧ PB w' P (u :: r) ∧ w.grownBy w' (some P) := by
  obtain ⟨b, off, c, h1, h2, h3, h4, h6⟩ := h
  obtain ⟨x0, xf⟩ := blk1 h1
  obtain ⟨c0, c1, c2, c3, c4⟩ := h6 0 t rfl
  have HN := Lib.hid (PB.next h1 h2 h3 h4 h6)
  have hs : (t.t == s.toList) = true := by rw [ht]; exact beq_self_eq_true _
  have hb : (t.k == k) = true := by rw [hk]; exact beq_self_eq_true _
  have hb2 : (t.k != k) = false := by rw [hk]; exact bne_self_eq_false _
  simp only [Nat.zero_mul, Nat.add_zero] at c0 c1 c2 c3 c4
  simp only [List.length_cons] at x0 h2
  have hc1 : ¬ c = 1 := by omega
  have hc2 : 1 ≤ c := by omega
  clear h1 h4 h6 hk ht
  go_enter Tryz.func111, Tryz.ntmps111
  go_wp2_with fail
  go_ret
  exact ⟨rfl, HN.out.1, HN.out.2⟩

set_option maxHeartbeats 1000000 in
theorem symbol_no (P : Nat) (t : Tk) (r : List Tk) (s : ByteArray) (w : World) (h : PB w P (t :: r)) (hn : t.k ≠ 4 ∨ t.t ≠ s.toList) :
    Calls Tryz.prog 82 #[.pointer (some ⟨P, 0, none⟩), .string s] w fun e w' => e = .returned (.bool false) ∧ w' = w := by
  have H := Lib.hid (text_no P t r 4 s w h hn)
  clear h hn
  go_enter Tryz.func82, Tryz.ntmps82
  go_wp2_with fail
  refine H.out.mono ?_
  rintro e w' ⟨rfl, rfl⟩
  go_wp2_with fail
  go_ret
  exact ⟨rfl, rfl⟩
set_option maxHeartbeats 1000000 in
theorem symbol_yes (P : Nat) (t u : Tk) (r : List Tk) (s : ByteArray) (w : World) (h : PB w P (t :: u :: r)) (hk : t.k = 4) (ht : t.t = s.toList) :
    Calls Tryz.prog 82 #[.pointer (some ⟨P, 0, none⟩), .string s] w fun e w' => e = .returned (.bool true) ∧ PB w' P (u :: r) ∧ w.grownBy w' (some P) := by
  have H := Lib.hid (text_yes P t u r 4 s w h hk ht)
  clear h hk ht
  go_enter Tryz.func82, Tryz.ntmps82
  go_wp2_with fail
  refine H.out.mono ?_
  rintro e w' ⟨rfl, h1, h2⟩
  have H1 := Lib.hid h1
  have H2 := Lib.hid h2
  clear h1 h2
  go_wp2_with fail
  go_ret
  exact ⟨rfl, H1.out, H2.out⟩
set_option maxHeartbeats 1000000 in
theorem name_no (P : Nat) (t : Tk) (r : List Tk) (w : World) (h : PB w P (t :: r)) (hn : t.k ≠ 1) :
    Calls Tryz.prog 81 #[.pointer (some ⟨P, 0, none⟩)] w fun e w' => e = .returned (.tuple #[.string ⟨#[]⟩, .bool false]) ∧ w' = w := by
  obtain ⟨b, off, c, h1, h2, h3, h4, h6⟩ := h
  obtain ⟨x0, _⟩ := blk1 h1
  obtain ⟨c0, c1, c2, c3, c4⟩ := h6 0 t rfl
  simp only [Nat.zero_mul, Nat.add_zero, List.length_cons] at c0 c1 c2 c3 c4 x0
  have hb : (t.k == 1) = false := beq_eq_false_iff_ne.2 hn
  have hb2 : (t.k != 1) = true := bne_iff_ne.2 hn
  clear h1 h2 h3 h4 h6 hn
  go_enter Tryz.func81, Tryz.ntmps81
  go_wp2_with fail
  go_ret2
  exact ⟨rfl, rfl⟩
set_option maxHeartbeats 1000000 in
theorem name_yes (P : Nat) (t u : Tk) (r : List Tk) (w : World) (h : PB w P (t :: u :: r)) (hk : t.k = 1) :
    Calls Tryz.prog 81 #[.pointer (some ⟨P, 0, none⟩)] w fun e w' => e = .returned (.tuple #[.string ⟨t.t.toArray⟩, .bool true]) ∧ PB w' P (u :: r) ∧ w.grownBy w' (some P) := by
  obtain ⟨b, off, c, h1, h2, h3, h4, h6⟩ := h
  obtain ⟨x0, xf⟩ := blk1 h1
  obtain ⟨c0, c1, c2, c3, c4⟩ := h6 0 t rfl
  have HN := Lib.hid (PB.next h1 h2 h3 h4 h6)
  have hb : (t.k == 1) = true := by rw [hk]; rfl
  have hb2 : (t.k != 1) = false := by rw [hk]; rfl
  simp only [Nat.zero_mul, Nat.add_zero] at c0 c1 c2 c3 c4
  simp only [List.length_cons] at x0 h2
  have hc1 : ¬ c = 1 := by omega
  have hc2 : 1 ≤ c := by omega
  clear h1 h4 h6 hk
  go_enter Tryz.func81, Tryz.ntmps81
  go_wp2_with fail
  go_ret2
  exact ⟨rfl, HN.out.1, HN.out.2⟩
set_option maxHeartbeats 1000000 in
theorem atEnd_any (P : Nat) (t : Tk) (r : List Tk) (w : World) (h : PB w P (t :: r)) :
    Calls Tryz.prog 56 #[.pointer (some ⟨P, 0, none⟩)] w fun e w' => e = .returned (.bool (t.k == 5)) ∧ w' = w := by
  obtain ⟨b, off, c, h1, h2, h3, h4, h6⟩ := h
  obtain ⟨x0, _⟩ := blk1 h1
  obtain ⟨c0, c1, c2, c3, c4⟩ := h6 0 t rfl
  simp only [Nat.zero_mul, Nat.add_zero, List.length_cons] at c0 c1 c2 c3 c4 x0
  clear h1 h2 h3 h4 h6
  go_enter Tryz.func56, Tryz.ntmps56
  go_wp2_with fail
  go_ret
  exact ⟨rfl, rfl⟩
/-- The error of a token that cannot stand where it stands. -/
def fE (t : Tk) : Int := if t.k = 5 then 8 else 7
set_option maxHeartbeats 1000000 in
theorem fault_any (P : Nat) (t : Tk) (r : List Tk) (w : World) (h : PB w P (t :: r)) :
    Calls Tryz.prog 57 #[.pointer (some ⟨P, 0, none⟩)] w fun e w' => e = .returned (.tuple #[.agg #[.int .i64 t.a, .int .i64 t.b], .int .i64 (fE t)]) ∧ Below w.heap.size w w' := by
  unfold fE
  have HB0 := Lib.hid ((Below.refl w.heap.size w).alloc (Nat.le_refl _) (.cells #[.int .i64 0, .int .i64 0] 53))
  have hp := h.below HB0.out
  have HE := Lib.hid (atEnd_any P t r _ hp)
  obtain ⟨b, off, c, h1, h2, h3, h4, h6⟩ := hp
  obtain ⟨x0, _⟩ := blk1 h1
  obtain ⟨c0, c1, c2, c3, c4⟩ := h6 0 t rfl
  simp only [Nat.zero_mul, Nat.add_zero, List.length_cons] at c0 c1 c2 c3 c4 x0
  clear h1 h2 h3 h4 h6 h
  by_cases hk : t.k = 5
  · have hb : (t.k == 5) = true := by rw [hk]; rfl
    rw [if_pos hk]
    clear hk
    go_enter Tryz.func57, Tryz.ntmps57
    go_wp2_with fail
    refine HE.out.mono ?_
    rintro e w' ⟨rfl, rfl⟩
    go_wp2_with fail
    refine bodyPost_ret (v := .tuple #[.agg #[.int .i64 t.a, .int .i64 t.b], .int .i64 8]) (by simp [results, Tryz.results57, go_sem]) rfl ?_
    exact ⟨rfl, (Below.refl _ _).alloc (Nat.le_refl _) _⟩
  · have hb : (t.k == 5) = false := beq_eq_false_iff_ne.2 hk
    rw [if_neg hk]
    clear hk
    go_enter Tryz.func57, Tryz.ntmps57
    go_wp2_with fail
    refine HE.out.mono ?_
    rintro e w' ⟨rfl, rfl⟩
    go_wp2_with fail
    refine bodyPost_ret (v := .tuple #[.agg #[.int .i64 t.a, .int .i64 t.b], .int .i64 7]) (by simp [results, Tryz.results57, go_sem]) rfl ?_
    exact ⟨rfl, (Below.refl _ _).alloc (Nat.le_refl _) _⟩
end Go.Proofs.YthbcfcbonmphfaaGreatDoor
namespace Go.Proofs.YthbcfcbonmphfaaGreatDoor
open Go.RowKit Go.Shelf
set_option maxRecDepth 100000

/-- A term in memory, in blocks of a kind. -/
inductive TX (S : Nat → Prop) (w : World) : Tm → Option Addr → Prop
  | mk (nm st : ByteArray) (ks : List Tm) (A : Option Addr) (b off : Nat) (al : Nat → Option Addr) (cs : Nat → Nat)
    (hA : 0 < ks.length → A = some ⟨b, off, none⟩ ∧ S b)
    (h0 : ∀ i k, ks[i]? = some k → w.cell? ⟨b, off + i * 3, none⟩ = some (.string k.nm))
    (h1 : ∀ i k, ks[i]? = some k → w.cell? ⟨b, off + i * 3 + 1, none⟩ = some (.string k.st))
    (h2 : ∀ i k, ks[i]? = some k → w.cell? ⟨b, off + i * 3 + 2, none⟩ = some (.slice (al i) k.ks.length (cs i)))
    (hr : ∀ i k, ks[i]? = some k → TX S w k (al i)) : TX S w (.mk nm st ks) A
theorem TX.leaf (S : Nat → Prop) (w : World) (nm st : ByteArray) (A : Option Addr) : TX S w (.mk nm st []) A :=
  .mk nm st [] A 0 0 (fun _ => none) (fun _ => 0) (fun h => absurd h (by simp)) (fun i k h => by simp at h) (fun i k h => by simp at h) (fun i k h => by simp at h) (fun i k h => by simp at h)
theorem TX.named {S : Nat → Prop} {w : World} {nm st : ByteArray} {ks : List Tm} {A : Option Addr} (h : TX S w (.mk nm st ks) A) (nm' st' : ByteArray) : TX S w (.mk nm' st' ks) A := by
  cases h with
  | mk _ _ _ _ b off al cs hA h0 h1 h2 hr => exact .mk nm' st' ks A b off al cs hA h0 h1 h2 hr
theorem TX.imp {S S' : Nat → Prop} {w : World} {t : Tm} {A : Option Addr} (h : TX S w t A) (hs : ∀ b, S b → S' b) : TX S' w t A := by
  induction h with
  | mk nm st ks A b off al cs hA h0 h1 h2 hr ih => exact .mk nm st ks A b off al cs (fun h => ⟨(hA h).1, hs _ (hA h).2⟩) h0 h1 h2 ih
theorem TX.keep {S : Nat → Prop} {w w' : World} {t : Tm} {A : Option Addr} (h : TX S w t A) (hk : ∀ b, S b → w'.heap[b]? = w.heap[b]?) : TX S w' t A := by
  induction h with
  | mk nm st ks A b off al cs hA h0 h1 h2 hr ih =>
    have hc : ∀ i k o, ks[i]? = some k → w'.cell? ⟨b, o, none⟩ = w.cell? ⟨b, o, none⟩ := fun i k o hi => World.cell?_of_block (hk b (hA (by have := (List.getElem?_eq_some_iff.1 hi).1; omega)).2)
    exact .mk nm st ks A b off al cs hA (fun i k hi => (hc i k _ hi).trans (h0 i k hi)) (fun i k hi => (hc i k _ hi).trans (h1 i k hi)) (fun i k hi => (hc i k _ hi).trans (h2 i k hi)) ih
theorem TX.rep {S : Nat → Prop} {w : World} {t : Tm} {A : Option Addr} (h : TX S w t A) {n₀ : Nat} (hs : ∀ b, S b → b < n₀) : TRep n₀ w t A := by
  induction h with
  | mk nm st ks A b off al cs hA h0 h1 h2 hr ih => exact .mk nm st ks A b off al cs (fun h => ⟨(hA h).1, hs _ (hA h).2⟩) h0 h1 h2 ih

def sym (t : Tk) (s : List UInt8) : Prop := t.k = 4 ∧ t.t = s
instance (t : Tk) (s : List UInt8) : Decidable (sym t s) := inferInstanceAs (Decidable (_ ∧ _))
/-- The tokens end with an end. -/
def EndsK : List Tk → Prop
  | [] => False
  | [e] => e.k = 5
  | _ :: y :: l => EndsK (y :: l)
theorem EndsK.tail {t : Tk} {l : List Tk} (h : EndsK (t :: l)) (hk : t.k ≠ 5) : ∃ u r, l = u :: r ∧ EndsK l := by
  cases l with
  | nil => exact absurd h hk
  | cons u r => exact ⟨u, r, rfl, h⟩
theorem EndsK.ne {l : List Tk} (h : EndsK l) : ∃ t r, l = t :: r := by
  cases l with
  | nil => exact absurd h (by simp [EndsK])
  | cons t r => exact ⟨t, r, rfl⟩

def nmOf (t : Tk) : ByteArray := ⟨t.t.toArray⟩
mutual
/-- What a term is read as: the term, or nothing, and the tokens that are left. -/
inductive PT : List Tk → Option Tm → List Tk → Prop
  | noName {x : Tk} {l : List Tk} : x.k ≠ 1 → PT (x :: l) none (x :: l)
  | var {x y z : Tk} {l : List Tk} : x.k = 1 → sym y [58] → z.k = 1 → PT (x :: y :: z :: l) (some (.mk (nmOf x) (nmOf z) [])) l
  | noSort {x y z : Tk} {l : List Tk} : x.k = 1 → sym y [58] → z.k ≠ 1 → PT (x :: y :: z :: l) none (z :: l)
  | parts {x y : Tk} {l l' : List Tk} {r : Option (List Tm)} : x.k = 1 → ¬ sym y [58] → LL (y :: l) r l' → PT (x :: y :: l) (r.map (.mk (nmOf x) ⟨#[]⟩)) l'
/-- A list in parentheses. -/
inductive LL : List Tk → Option (List Tm) → List Tk → Prop
  | noParen {y : Tk} {l : List Tk} : ¬ sym y [40] → LL (y :: l) none (y :: l)
  | empty {y z : Tk} {l : List Tk} : sym y [40] → sym z [41] → LL (y :: z :: l) (some []) l
  | elems {y z : Tk} {l l' : List Tk} {r : Option (List Tm)} : sym y [40] → ¬ sym z [41] → PL (z :: l) r l' → LL (y :: z :: l) r l'
/-- Its elements. -/
inductive PL : List Tk → Option (List Tm) → List Tk → Prop
  | bad {l l' : List Tk} : PT l none l' → PL l none l'
  | last {l l' : List Tk} {t : Tm} {y : Tk} : PT l (some t) (y :: l') → sym y [41] → PL l (some [t]) l'
  | noComma {l l' : List Tk} {t : Tm} {y : Tk} : PT l (some t) (y :: l') → ¬ sym y [41] → ¬ sym y [44] → PL l none (y :: l')
  | more {l l' l'' : List Tk} {t : Tm} {y : Tk} {r : Option (List Tm)} : PT l (some t) (y :: l') → ¬ sym y [41] → sym y [44] → PL l' r l'' → PL l (r.map (t :: ·)) l''
end

/-- What term hands back. -/
def TPost (P : Nat) (l : List Tk) (w : World) (e : Ending) (w' : World) : Prop :=
  ∃ l', PB w' P l' ∧ EndsK l' ∧ l'.length ≤ l.length ∧ w.grownBy w' (some P) ∧
    ((∃ t A c, PT l (some t) l' ∧ e = .returned (.tuple #[TV t A c, .bool true]) ∧ TX (fun b => w.heap.size ≤ b ∧ b < w'.heap.size) w' t A) ∨
     (∃ n, PT l none l' ∧ e = .returned (.tuple #[.agg #[.string n, .string ⟨#[]⟩, .slice none 0 0], .bool false])))
/-- What list hands back. -/
def LPost (P : Nat) (l : List Tk) (w : World) (e : Ending) (w' : World) : Prop :=
  ∃ l', PB w' P l' ∧ EndsK l' ∧ l'.length ≤ l.length ∧ w.grownBy w' (some P) ∧
    ((∃ ks A c, LL l (some ks) l' ∧ e = .returned (.tuple #[.slice A ks.length c, .bool true]) ∧ TX (fun b => w.heap.size ≤ b ∧ b < w'.heap.size) w' (.mk ⟨#[]⟩ ⟨#[]⟩ ks) A) ∨
     (LL l none l' ∧ e = .returned (.tuple #[.slice none 0 0, .bool false])))

/-- A part that has been read, where its own parts lie. -/
abbrev Kid := Tm × Option Addr × Nat
def kidC (x : Kid) : List Value := [.string x.1.nm, .string x.1.st, .slice x.2.1 x.1.ks.length x.2.2]
def kidsC (l : List Kid) : List Value := l.flatMap kidC
theorem kidsC_len (l : List Kid) : (kidsC l).length = l.length * 3 := by
  induction l with
  | nil => rfl
  | cons t l ih => simp [kidsC, kidC] at ih ⊢; omega
theorem kidsC_snoc (l : List Kid) (t : Kid) : kidsC l ++ kidC t = kidsC (l ++ [t]) := by simp [kidsC]
theorem kidsC_at : ∀ (L : List Kid) (i : Nat) (t : Kid) (r : Nat), L[i]? = some t → r < 3 → (kidsC L)[i * 3 + r]? = (kidC t)[r]?
  | [], i, t, r, h, _ => by simp at h
  | u :: L, 0, t, r, h, hr => by
    have e : kidsC (u :: L) = kidC u ++ kidsC L := by simp [kidsC]
    have h' : u = t := by simpa using h
    have hl : (kidC u).length = 3 := rfl
    rw [e, List.getElem?_append_left (by omega), h']
    congr 1; omega
  | u :: L, i + 1, t, r, h, hr => by
    have e : kidsC (u :: L) = kidC u ++ kidsC L := by simp [kidsC]
    have hl : (kidC u).length = 3 := rfl
    rw [e, List.getElem?_append_right (by omega), hl]
    have := kidsC_at L i t r (by simpa using h) hr
    rw [← this]
    congr 1; omega
/-- What list keeps at the head of its loop. -/
def LInv (P : Nat) (L0 : List Tk) (w : World) (k : Nat) (v : Value) (wr : World) : Prop :=
  ∃ (lc : List Tk) (ks : List Kid), PB wr P lc ∧ EndsK lc ∧ lc.length ≤ k ∧ ks.length + lc.length ≤ L0.length ∧ w.grownBy wr (some P) ∧
    wr.ownsRow w.heap.size 28 3 v ks.length (kidsC ks) ∧
    (∀ x, x ∈ ks → TX (fun b => w.heap.size ≤ b ∧ b < wr.heap.size ∧ some b ≠ v.ownBlock) wr x.1 x.2.1) ∧
    (∀ r l'', PL lc r l'' → PL L0 (r.map (ks.map (·.1) ++ ·)) l'')
/-- The parts of a list, all read. -/
theorem kids_done {w wr : World} {v : Value} {ks : List Kid} (ho : wr.ownsRow w.heap.size 28 3 v ks.length (kidsC ks)) (hk : ∀ x, x ∈ ks → TX (fun b => w.heap.size ≤ b ∧ b < wr.heap.size ∧ some b ≠ v.ownBlock) wr x.1 x.2.1) :
    ∃ A c, v = .slice A (ks.map (·.1)).length c ∧ TX (fun b => w.heap.size ≤ b ∧ b < wr.heap.size) wr (.mk ⟨#[]⟩ ⟨#[]⟩ (ks.map (·.1))) A := by
  rcases ho.2 with ⟨rfl, h0⟩ | ⟨g, cap, cur, rfl, _, hh, _⟩
  · have : ks = [] := List.eq_nil_of_length_eq_zero h0
    subst this
    exact ⟨none, 0, rfl, TX.leaf _ _ _ _ _⟩
  · refine ⟨some ⟨g, 0, none⟩, cap, by rw [List.length_map], ?_⟩
    have hg := ho.lt g rfl
    have hget : ∀ (i : Nat) (k : Tm), (ks.map (·.1))[i]? = some k → ∃ x, ks[i]? = some x ∧ x.1 = k := fun i k hi => by
      rw [List.getElem?_map] at hi
      cases hx : ks[i]? with
      | none => rw [hx] at hi; cases hi
      | some x => rw [hx] at hi; injection hi with hi; exact ⟨x, rfl, hi⟩
    have hc : ∀ (i : Nat) (x : Kid) (r : Nat), ks[i]? = some x → r < 3 → wr.cell? ⟨g, i * 3 + r, none⟩ = (kidC x)[r]? := fun i x r hx hr => by
      have hi := (List.getElem?_eq_some_iff.1 hx).1
      exact (ho.cellAt (i * 3 + r) (by omega)).trans (kidsC_at ks i x r hx hr)
    refine .mk _ _ _ _ g 0 (fun i => ((ks[i]?).map (·.2.1)).getD none) (fun i => ((ks[i]?).map (·.2.2)).getD 0) (fun _ => ⟨rfl, hg⟩) (fun i k hi => ?_) (fun i k hi => ?_) (fun i k hi => ?_) (fun i k hi => ?_)
    · obtain ⟨x, hx, rfl⟩ := hget i k hi
      have := hc i x 0 hx (by omega)
      simpa [kidC] using this
    · obtain ⟨x, hx, rfl⟩ := hget i k hi
      have := hc i x 1 hx (by omega)
      simpa [kidC] using this
    · obtain ⟨x, hx, rfl⟩ := hget i k hi
      have := hc i x 2 hx (by omega)
      rw [hx]
      simpa [kidC] using this
    · obtain ⟨x, hx, rfl⟩ := hget i k hi
      rw [hx]
      exact (hk x (List.mem_of_getElem? hx)).imp (fun b h => ⟨h.1, h.2.1⟩)
end Go.Proofs.YthbcfcbonmphfaaGreatDoor
