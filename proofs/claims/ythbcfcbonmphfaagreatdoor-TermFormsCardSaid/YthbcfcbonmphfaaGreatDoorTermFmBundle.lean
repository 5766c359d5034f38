/- The reference's Small. -/
import Derived.IntWalk
import Derived.Test.YthbcfcbonmphfaaGreatDoorTermGBundle
import Derived.Test.YthbcfcbonmphfaaGreatDoorLexEBundle
namespace Go.Proofs.YthbcfcbonmphfaaGreatDoor
open Go.RowKit Go.Shelf
set_option maxRecDepth 100000

def badS (n s : ByteArray) (ks : List Tm) (d left : Int) : Bool := decide (left ≤ 0) || decide (60 < d) || decide (6 < ks.length) || !isName n.toList || (!s.toList.isEmpty && (decide (0 < ks.length) || !isName s.toList))
mutual
def small : Tm → Int → Int → Int
  | .mk n s ks, d, left => if badS n s ks d left then -1 else smalls ks (d + 1) (left - 1)
def smalls : List Tm → Int → Int → Int
  | [], _, left => left
  | k :: ks, d, left => if small k d left < 0 then small k d left else smalls ks d (small k d left)
end
def good (x : Nat × Tm) : Bool := fitX x && namedT x.2
theorem badS_iff (n s : ByteArray) (ks : List Tm) (d : Nat) (left : Int) : badS n s ks d left = (decide (left ≤ 0) || !good (d, .mk n s ks)) := by
  unfold badS good fitX namedT isV
  simp only [Tm.nm_mk, Tm.st_mk, Tm.ks_mk]
  have e1 : decide ((60 : Int) < (d : Int)) = !decide (d ≤ 60) := by rw [← decide_not]; exact decide_eq_decide.2 (by omega)
  have e2 : decide (6 < ks.length) = !decide (ks.length ≤ 6) := by rw [← decide_not]; exact decide_eq_decide.2 (by omega)
  rw [e1, e2]
  by_cases h1 : s.toList.isEmpty = true <;> by_cases h2 : isName s.toList = true <;> by_cases h3 : 0 < ks.length <;> by_cases h4 : isName n.toList = true <;> by_cases h5 : left ≤ 0 <;> by_cases h6 : d ≤ 60 <;> by_cases h7 : ks.length ≤ 6 <;> simp [h1, h2, h3, h4, h5, h6, h7]
mutual
theorem small_eq : ∀ (t : Tm) (d : Nat) (left : Int), ((t.pre d).all good = true → (t.size : Int) ≤ left → small t d left = left - t.size) ∧ (¬ ((t.pre d).all good = true ∧ (t.size : Int) ≤ left) → small t d left = -1)
  | .mk n s ks, d, left => by
    have hb := badS_iff n s ks d left
    have h := fun hl => smalls_eq ks (d + 1) (left - 1) hl
    rw [Int.natCast_succ] at h
    have hall : (Tm.pre d (.mk n s ks)).all good = (good (d, .mk n s ks) && (pres (d + 1) ks).all good) := by rw [Tm.pre, List.all_cons]
    have hsz : (((Tm.mk n s ks).size : Nat) : Int) = 1 + (sizes ks : Int) := by rw [Tm.size]; omega
    rw [hall, hsz]
    refine ⟨fun h1 h2 => ?_, fun h1 => ?_⟩
    · rw [Bool.and_eq_true] at h1
      unfold small
      rw [hb, h1.1, decide_eq_false (show ¬ left ≤ 0 by omega), if_neg (by simp), (h (by omega)).1 h1.2 (by omega)]
      omega
    · unfold small
      rw [hb]
      by_cases hc : left ≤ 0 ∨ good (d, .mk n s ks) = false
      · rw [if_pos (by rcases hc with hc | hc <;> simp [hc])]
      · have hl : ¬ left ≤ 0 := fun h' => hc (.inl h')
        have hg : good (d, .mk n s ks) = true := by
          by_cases hg : good (d, .mk n s ks) = true
          · exact hg
          · exact absurd (.inr (by simpa using hg)) hc
        rw [if_neg (by simp [hl, hg])]
        exact (h (by omega)).2 (fun h2 => h1 ⟨by rw [hg, h2.1]; rfl, by have := h2.2; omega⟩)
theorem smalls_eq : ∀ (ks : List Tm) (d : Nat) (left : Int), 0 ≤ left → ((pres d ks).all good = true → (sizes ks : Int) ≤ left → smalls ks d left = left - sizes ks) ∧ (¬ ((pres d ks).all good = true ∧ (sizes ks : Int) ≤ left) → smalls ks d left = -1)
  | [], d, left, hl => ⟨fun _ _ => by simp [smalls, sizes], fun h => absurd ⟨by simp [pres], by simp [sizes]; omega⟩ h⟩
  | k :: ks, d, left, hl => by
    have hk := small_eq k d left
    have hall : (pres d (k :: ks)).all good = ((k.pre d).all good && (pres d ks).all good) := by rw [pres, List.all_append]
    have hsz : ((sizes (k :: ks) : Nat) : Int) = (k.size : Int) + (sizes ks : Int) := by rw [sizes]; omega
    rw [hall, hsz]
    unfold smalls
    refine ⟨fun h1 h2 => ?_, fun h1 => ?_⟩
    · rw [Bool.and_eq_true] at h1
      rw [hk.1 h1.1 (by omega), if_neg (by omega), (smalls_eq ks d (left - k.size) (by omega)).1 h1.2 (by omega)]
      omega
    · by_cases hc : (k.pre d).all good = true ∧ (k.size : Int) ≤ left
      · have hc2 := hc.2
        rw [hk.1 hc.1 hc.2, if_neg (by omega)]
        exact (smalls_eq ks d (left - k.size) (by omega)).2 (fun h2 => h1 ⟨by rw [hc.1, h2.1]; rfl, by have := h2.2; omega⟩)
      · rw [hk.2 hc, if_pos (by decide)]
end
/-- Small of the reference, and what term.fits and wellNamed say. -/
theorem small_formed (t : Tm) : decide (small t 1 1000 < 0) = !(fitsL (t.pre 1) && (t.pre 1).all (fun x => namedT x.2)) := by
  have h := small_eq t 1 1000
  rw [show ((1 : Nat) : Int) = 1 from rfl] at h
  have e : (t.pre 1).all good = ((t.pre 1).all fitX && (t.pre 1).all (fun x => namedT x.2)) := by
    rw [Bool.eq_iff_iff]
    simp only [List.all_eq_true, Bool.and_eq_true, good]
    exact ⟨fun h => ⟨fun x hx => (h x hx).1, fun x hx => (h x hx).2⟩, fun h x hx => ⟨h.1 x hx, h.2 x hx⟩⟩
  have hf : fitsL (t.pre 1) = (decide (t.size ≤ 1000) && (t.pre 1).all fitX) := by unfold fitsL; rw [Tm.pre_length]
  rw [hf]
  by_cases h1 : (t.pre 1).all good = true ∧ (t.size : Int) ≤ 1000
  · rw [h.1 h1.1 h1.2]
    have h2 := h1.1
    rw [e, Bool.and_eq_true] at h2
    have h3 : t.size ≤ 1000 := by have := h1.2; omega
    rw [decide_eq_true h3, h2.1, h2.2, decide_eq_false (by have := h1.2; omega)]; rfl
  · rw [h.2 h1]
    have : (decide (t.size ≤ 1000) && (t.pre 1).all fitX && (t.pre 1).all (fun x => namedT x.2)) = false := by
      rw [Bool.eq_false_iff]
      intro h2
      simp only [Bool.and_eq_true, decide_eq_true_eq] at h2
      exact h1 ⟨by rw [e, h2.1.2, h2.2]; rfl, by have := h2.1.1; omega⟩
    rw [this]; rfl

theorem small_bad {n s : ByteArray} {ks : List Tm} {d left : Int} (h : badS n s ks d left = true) : small (.mk n s ks) d left = -1 := by unfold small; rw [if_pos h]
theorem small_good {n s : ByteArray} {ks : List Tm} {d left : Int} (h : badS n s ks d left = false) : small (.mk n s ks) d left = smalls ks (d + 1) (left - 1) := by unfold small; rw [if_neg (by rw [h]; simp)]
theorem smalls_at {L : List Tm} {k : Nat} {x : Tm} (hx : L[k]? = some x) (d left : Int) : smalls (L.drop k) d left = if small x d left < 0 then small x d left else smalls (L.drop (k + 1)) d (small x d left) := by
  obtain ⟨h1, e1⟩ := List.getElem?_eq_some_iff.1 hx
  rw [List.drop_eq_getElem_cons h1, e1, smalls]
theorem small_le (t : Tm) (d : Nat) (left : Int) (h : -1 ≤ left) : -1 ≤ small t d left ∧ small t d left ≤ left := by
  have h1 := small_eq t d left
  by_cases hc : (t.pre d).all good = true ∧ (t.size : Int) ≤ left
  · rw [h1.1 hc.1 hc.2]; have := hc.2; omega
  · rw [h1.2 hc]; omega

def SInv (ks : List Tm) (t : Tm) (A : Option Addr) (c : Nat) (d L1 : Int) (w : World) (k : Nat) (left : Int) (wr : World) : Prop :=
  k ≤ ks.length ∧ wr.heap[w.heap.size]? = some (.cells (tcells t A c) 28 (0, 0)) ∧ Below w.heap.size w wr ∧ smalls ks (d + 1) L1 = smalls (ks.drop k) (d + 1) left ∧ 0 ≤ left ∧ left ≤ 1000
set_option maxHeartbeats 4000000 in
theorem Small_any (t : Tm) : ∀ (A : Option Addr) (c n₀ d : Nat) (left : Int) (w : World), TRep n₀ w t A → n₀ ≤ w.heap.size → okT maxLen t → d ≤ 61 → -1 ≤ left → left ≤ 1000 →
    Calls Tryz.prog 47 #[TV t A c, .int .i64 d, .int .i64 left] w fun e w' => e = .returned (.int .i64 (small t d left)) ∧ Below w.heap.size w w' := by
  induction t using Tm.ind with
  | h nm st ks ih =>
    intro A c n₀ d left w hrep hn hok hd hl0 hl1
    have hlk := hok.len
    have hln := hok.nm
    have hls := hok.st
    dsimp only [Tm.nm_mk, Tm.st_mk, Tm.ks_mk] at hln hls hlk
    have HLN := Lib.hid hln
    have HLS := Lib.hid hls
    unfold maxLen at hlk
    have HIH := Lib.hid ih
    have HOK := Lib.hid hok
    have HREP := Lib.hid hrep
    have hbx := heap_alloc_new w (.cells #[.string nm, .string st, .slice A ks.length c] 28)
    have HBX := Lib.hid hbx
    have HB0 := Lib.hid ((Below.refl w.heap.size w).alloc (Nat.le_refl _) (.cells #[.string nm, .string st, .slice A ks.length c] 28))
    obtain ⟨⟨x0, x1, x2⟩, _⟩ := blk3 hbx
    have hw1 : IntKind.i64.wrap (left - 1) = left - 1 := IntWalk.i64_in _ (by omega)
    clear ih hok hrep hbx hln hls
    unfold TV
    dsimp only [Tm.nm_mk, Tm.st_mk, Tm.ks_mk]
    by_cases h1 : left ≤ 0
    · have e1 : decide (left ≤ 0) = true := decide_eq_true h1
      have HV := Lib.hid (small_bad (n := nm) (s := st) (ks := ks) (d := d) (left := left) (by unfold badS; simp [h1]))
      go_enter Tryz.func47, Tryz.ntmps47
      go_wp2_with fail
      go_ret
      exact ⟨by rw [HV.out]; rfl, HB0.out⟩
    have e1 : decide (left ≤ 0) = false := decide_eq_false h1
    by_cases h2 : 60 < d
    · have e2 : decide ((60 : Int) < (d : Int)) = true := decide_eq_true (by omega)
      have HV := Lib.hid (small_bad (n := nm) (s := st) (ks := ks) (d := d) (left := left) (by unfold badS; simp [show (60 : Int) < (d : Int) by omega]))
      go_enter Tryz.func47, Tryz.ntmps47
      go_wp2_with fail
      go_ret
      exact ⟨by rw [HV.out]; rfl, HB0.out⟩
    have e2 : decide ((60 : Int) < (d : Int)) = false := decide_eq_false (by omega)
    by_cases h3 : 6 < ks.length
    · have e3 : decide ((6 : Int) < (ks.length : Int)) = true := decide_eq_true (by omega)
      have HV := Lib.hid (small_bad (n := nm) (s := st) (ks := ks) (d := d) (left := left) (by unfold badS; simp [h3]))
      go_enter Tryz.func47, Tryz.ntmps47
      go_wp2_with fail
      go_ret
      exact ⟨by rw [HV.out]; rfl, HB0.out⟩
    have e3 : decide ((6 : Int) < (ks.length : Int)) = false := decide_eq_false (by omega)
    have HB : Hid (badS nm st ks d left = (!isName nm.toList || (!st.toList.isEmpty && (decide (0 < ks.length) || !isName st.toList)))) := Lib.hid (by unfold badS; rw [e1, e2, decide_eq_false h3]; rfl)
    go_enter Tryz.func47, Tryz.ntmps47
    go_wp2_with fail
    refine (refIsName_any nm _ HLN.out).mono ?_
    rintro e w1 ⟨rfl, hb1⟩
    have HBX1 := Lib.hid (cells_below HBX.out hb1)
    have HB1 := Lib.hid (HB0.out.trans (hb1.mono HB0.out.size))
    clear hb1 x0 x1 x2 HBX HB0
    obtain ⟨⟨x0, x1, x2⟩, _⟩ := blk3 HBX1.out
    by_cases h4 : isName nm.toList = true
    · have H4 := Lib.hid h4
      rw [h4]
      clear h4
      by_cases h5 : st.toList.isEmpty = true
      · have e5 : (st.toList == []) = true := by rw [List.isEmpty_iff.1 h5]; rfl
        have H5 := Lib.hid h5
        have HT := Lib.hid (small_good (n := nm) (s := st) (ks := ks) (d := d) (left := left) (by rw [HB.out, H4.out, H5.out]; rfl))
        clear h5
        go_wp2_with fail
        clear x0 x1 x2
        go_loopw [7, 2] (fun y z wr => ∃ (k : Nat) (l2 : Int), y = .int .i64 k ∧ z = .int .i64 l2 ∧ SInv ks (.mk nm st ks) A c d (left - 1) w k l2 wr) (fun y _ _ => ks.length - (intOf y).toNat)
        case atStart => exact ⟨0, left - 1, rfl, rfl, Nat.zero_le _, HBX1.out, HB1.out, rfl, by omega, by omega⟩
        case round =>
          clear HBX1 HB1
          obtain ⟨k, l2, rfl, rfl, hk, hbx, hbw, heq, hb0, hb1⟩ := hrel
          obtain ⟨⟨x0, x1, x2⟩, _⟩ := blk3 hbx
          dsimp only [Tm.nm_mk, Tm.st_mk, Tm.ks_mk] at x0 x1 x2
          have HBX := Lib.hid hbx
          have HBW := Lib.hid hbw
          have HEQ := Lib.hid heq
          have hws := hbw.size
          clear hbx hbw heq
          by_cases hlt : k < ks.length
          · obtain ⟨x, hx⟩ : ∃ x, ks[k]? = some x := ⟨ks[k]'hlt, List.getElem?_eq_getElem _⟩
            have hmem : x ∈ ks := List.mem_of_getElem? hx
            obtain ⟨tb, tq, A', c', rfl, htb, u0, u1, u2, hrx⟩ := HREP.out.kid (i := k) hx
            have hbn := HBW.out.mono hn
            replace u0 := (hbn.cell (p := ⟨tb, _, none⟩) htb).trans u0
            replace u1 := (hbn.cell (p := ⟨tb, _, none⟩) htb).trans u1
            replace u2 := (hbn.cell (p := ⟨tb, _, none⟩) htb).trans u2
            have hbd := small_le x (d + 1) l2 (by omega)
            have HC := Lib.hid (HIH.out x hmem A' c' n₀ (d + 1) l2 wr (hrx.later hbn) (by omega) (HOK.out.kid hmem) (by omega) (by omega) hb1)
            have HX := Lib.hid hx
            have hI : (k : Int) < (ks.length : Int) := by omega
            have hwd : IntKind.i64.wrap ((d : Int) + 1) = (d : Int) + 1 := IntWalk.i64_in _ (by omega)
            rw [Int.natCast_succ] at HC hbd
            clear hx hrx hbn hmem
            go_wp2_with fail
            refine HC.out.mono ?_
            rintro e w5 ⟨rfl, hb5⟩
            have HB5 := Lib.hid hb5
            clear hb5 HC x0 x1 x2 u0 u1 u2
            by_cases hneg : small x ((d : Int) + 1) l2 < 0
            · have hnb : decide (small x ((d : Int) + 1) l2 < 0) = true := decide_eq_true hneg
              have HN := Lib.hid hneg
              clear hneg
              go_wp2_with fail
              go_ret
              refine ⟨?_, HBW.out.trans (HB5.out.mono hws)⟩
              rw [HT.out, HEQ.out, smalls_at HX.out, if_pos HN.out]
              rfl
            · have hnb : decide (small x ((d : Int) + 1) l2 < 0) = false := decide_eq_false hneg
              have HN := Lib.hid hneg
              go_wp2_with fail
              go_roundw
              case rel =>
                refine ⟨k + 1, small x ((d : Int) + 1) l2, by go_num, rfl, by omega, cells_below HBX.out HB5.out, HBW.out.trans (HB5.out.mono hws), ?_, by omega, by omega⟩
                rw [HEQ.out, smalls_at HX.out, if_neg (show ¬ small x ((d : Int) + 1) l2 < 0 by have := HN.out; omega)]
              case measure => simp [intOf]; omega
          · have hI : ¬ (k : Int) < (ks.length : Int) := by omega
            have HK : Hid (ks.drop k = []) := Lib.hid (by rw [show k = ks.length by omega, List.drop_length])
            go_wp2_with fail
            go_ret
            exact ⟨by rw [HT.out, HEQ.out, HK.out]; rfl, HBW.out⟩
      · have e5 : (st.toList == []) = false := by
          cases hst : st.toList with
          | nil => rw [hst] at h5; exact absurd rfl h5
          | cons a b => rfl
        have h5' : st.toList.isEmpty = false := by simpa using h5
        have H5 := Lib.hid h5'
        clear h5 h5'
        by_cases h6 : 0 < ks.length
        · have e6 : decide ((0 : Int) < (ks.length : Int)) = true := decide_eq_true (by omega)
          have HV := Lib.hid (small_bad (n := nm) (s := st) (ks := ks) (d := d) (left := left) (by rw [HB.out, H4.out, H5.out, decide_eq_true h6]; rfl))
          go_wp2_with fail
          go_ret
          exact ⟨by rw [HV.out]; rfl, HB1.out⟩
        · have e6 : decide ((0 : Int) < (ks.length : Int)) = false := decide_eq_false (by omega)
          go_wp2_with fail
          refine (refIsName_any st _ HLS.out).mono ?_
          rintro e w2 ⟨rfl, hb2⟩
          have HBX2 := Lib.hid (cells_below HBX1.out hb2)
          have HB2 := Lib.hid (HB1.out.trans (hb2.mono HB1.out.size))
          clear hb2 x0 x1 x2
          by_cases h7 : isName st.toList = true
          · have HT := Lib.hid (small_good (n := nm) (s := st) (ks := ks) (d := d) (left := left) (by rw [HB.out, H4.out, H5.out, decide_eq_false h6, h7]; rfl))
            rw [h7]
            clear h7
            have HK0 : Hid (ks = []) := Lib.hid (List.eq_nil_of_length_eq_zero (by omega))
            go_wp2_with fail
            go_loopw [7, 2] (fun y z wr => y = .int .i64 0 ∧ z = .int .i64 (left - 1) ∧ wr = w2) (fun _ _ _ => 0)
            case atStart => exact ⟨rfl, rfl, rfl⟩
            case round =>
              obtain ⟨rfl, rfl, rfl⟩ := hrel
              obtain ⟨⟨x0, x1, x2⟩, _⟩ := blk3 HBX2.out
              go_wp2_with fail
              go_ret
              exact ⟨by rw [HT.out, HK0.out]; rfl, HB2.out⟩
          · have h7' : isName st.toList = false := by simpa using h7
            have HV := Lib.hid (small_bad (n := nm) (s := st) (ks := ks) (d := d) (left := left) (by rw [HB.out, H4.out, H5.out, decide_eq_false h6, h7']; rfl))
            rw [h7']
            clear h7 h7'
            go_wp2_with fail
            go_ret
            exact ⟨by rw [HV.out]; rfl, HB2.out⟩
    · have h4' : isName nm.toList = false := by simpa using h4
      have HV := Lib.hid (small_bad (n := nm) (s := st) (ks := ks) (d := d) (left := left) (by rw [HB.out, h4']; rfl))
      rw [h4']
      clear h4 h4'
      go_wp2_with fail
      go_ret
      exact ⟨by rw [HV.out]; rfl, HB1.out⟩
end Go.Proofs.YthbcfcbonmphfaaGreatDoor
