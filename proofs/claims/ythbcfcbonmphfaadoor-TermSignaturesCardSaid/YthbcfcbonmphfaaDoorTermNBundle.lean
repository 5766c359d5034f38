/- The reference's Compare and Same. -/
import Derived.IntWalk
import Derived.Test.YthbcfcbonmphfaaDoorTermGBundle
import Derived.Test.YthbcfcbonmphfaaDoorLexEBundle
import Derived.Test.YthbcfcbonmphfaaDoorTermAddBundle
import Derived.Test.YthbcfcbonmphfaaDoorTermJBundle
import Derived.Test.YthbcfcbonmphfaaDoorTermKBundle
/- The reference's Small. -/
namespace Go.Proofs.YthbcfcbonmphfaaDoor
open Go.RowKit Go.Shelf
set_option maxRecDepth 100000

def badS (n s : ByteArray) (ks : List Tm) (d left : Int) : Bool := decide (left ≤ 0) || decide (60 < d) || decide (6 < ks.length) || !isName n.toList || (!s.toList.isEmpty && (decide (0 < ks.length) || !isName s.toList))
mutual
def small : Tm → Int → Int → Int
  | .mk n s ks, d, left => if badS n s ks d left then -1 else smalls ks (d + 1) (left - 1)
def smalls : List Tm → Int → Int → Int
  | [], _, left => left
  | k :: ks, d, left => if small k d left < 0 then small k d left else smalls ks d (small k d left)
end
def good (x : Nat × Tm) : Bool := fitX x && namedT x.2
theorem badS_iff (n s : ByteArray) (ks : List Tm) (d : Nat) (left : Int) : badS n s ks d left = (decide (left ≤ 0) || !good (d, .mk n s ks)) := by
  unfold badS good fitX namedT isV
  simp only [Tm.nm_mk, Tm.st_mk, Tm.ks_mk]
  have e1 : decide ((60 : Int) < (d : Int)) = !decide (d ≤ 60) := by rw [← decide_not]; exact decide_eq_decide.2 (by omega)
  have e2 : decide (6 < ks.length) = !decide (ks.length ≤ 6) := by rw [← decide_not]; exact decide_eq_decide.2 (by omega)
  rw [e1, e2]
  by_cases h1 : s.toList.isEmpty = true <;> by_cases h2 : isName s.toList = true <;> by_cases h3 : 0 < ks.length <;> by_cases h4 : isName n.toList = true <;> by_cases h5 : left ≤ 0 <;> by_cases h6 : d ≤ 60 <;> by_cases h7 : ks.length ≤ 6 <;> simp [h1, h2, h3, h4, h5, h6, h7]
mutual
theorem small_eq : ∀ (t : Tm) (d : Nat) (left : Int), ((t.pre d).all good = true → (t.size : Int) ≤ left → small t d left = left - t.size) ∧ (¬ ((t.pre d).all good = true ∧ (t.size : Int) ≤ left) → small t d left = -1)
  | .mk n s ks, d, left => by
    have hb := badS_iff n s ks d left
    have h := fun hl => smalls_eq ks (d + 1) (left - 1) hl
    rw [Int.natCast_succ] at h
    have hall : (Tm.pre d (.mk n s ks)).all good = (good (d, .mk n s ks) && (pres (d + 1) ks).all good) := by rw [Tm.pre, List.all_cons]
    have hsz : (((Tm.mk n s ks).size : Nat) : Int) = 1 + (sizes ks : Int) := by rw [Tm.size]; omega
    rw [hall, hsz]
    refine ⟨fun h1 h2 => ?_, fun h1 => ?_⟩
    · rw [Bool.and_eq_true] at h1
      unfold small
      rw [hb, h1.1, decide_eq_false (show ¬ left ≤ 0 by omega), if_neg (by simp), (h (by omega)).1 h1.2 (by omega)]
      omega
    · unfold small
      rw [hb]
      by_cases hc : left ≤ 0 ∨ good (d, .mk n s ks) = false
      · rw [if_pos (by rcases hc with hc | hc <;> simp [hc])]
      · have hl : ¬ left ≤ 0 := fun h' => hc (.inl h')
        have hg : good (d, .mk n s ks) = true := by
          by_cases hg : good (d, .mk n s ks) = true
          · exact hg
          · exact absurd (.inr (by simpa using hg)) hc
        rw [if_neg (by simp [hl, hg])]
        exact (h (by omega)).2 (fun h2 => h1 ⟨by rw [hg, h2.1]; rfl, by have := h2.2; omega⟩)
theorem smalls_eq : ∀ (ks : List Tm) (d : Nat) (left : Int), 0 ≤ left → ((pres d ks).all good = true → (sizes ks : Int) ≤ left → smalls ks d left = left - sizes ks) ∧ (¬ ((pres d ks).all good = true ∧ (sizes ks : Int) ≤ left) → smalls ks d left = -1)
  | [], d, left, hl => ⟨fun _ _ => by simp [smalls, sizes], fun h => absurd ⟨by simp [pres], by simp [sizes]; omega⟩ h⟩
  | k :: ks, d, left, hl => by
    have hk := small_eq k d left
    have hall : (pres d (k :: ks)).all good = ((k.pre d).all good && (pres d ks).all good) := by rw [pres, List.all_append]
    have hsz : ((sizes (k :: ks) : Nat) : Int) = (k.size : Int) + (sizes ks : Int) := by rw [sizes]; omega
    rw [hall, hsz]
    unfold smalls
    refine ⟨fun h1 h2 => ?_, fun h1 => ?_⟩
    · rw [Bool.and_eq_true] at h1
      rw [hk.1 h1.1 (by omega), if_neg (by omega), (smalls_eq ks d (left - k.size) (by omega)).1 h1.2 (by omega)]
      omega
    · by_cases hc : (k.pre d).all good = true ∧ (k.size : Int) ≤ left
      · have hc2 := hc.2
        rw [hk.1 hc.1 hc.2, if_neg (by omega)]
        exact (smalls_eq ks d (left - k.size) (by omega)).2 (fun h2 => h1 ⟨by rw [hc.1, h2.1]; rfl, by have := h2.2; omega⟩)
      · rw [hk.2 hc, if_pos (by decide)]
end
/-- Small of the reference, and what term.fits and wellNamed say. -/
theorem small_formed (t : Tm) : decide (small t 1 1000 < 0) = !(fitsL (t.pre 1) && (t.pre 1).all (fun x => namedT x.2)) := by
  have h := small_eq t 1 1000
  rw [show ((1 : Nat) : Int) = 1 from rfl] at h
  have e : (t.pre 1).all good = ((t.pre 1).all fitX && (t.pre 1).all (fun x => namedT x.2)) := by
    rw [Bool.eq_iff_iff]
    simp only [List.all_eq_true, Bool.and_eq_true, good]
    exact ⟨fun h => ⟨fun x hx => (h x hx).1, fun x hx => (h x hx).2⟩, fun h x hx => ⟨h.1 x hx, h.2 x hx⟩⟩
  have hf : fitsL (t.pre 1) = (decide (t.size ≤ 1000) && (t.pre 1).all fitX) := by unfold fitsL; rw [Tm.pre_length]
  rw [hf]
  by_cases h1 : (t.pre 1).all good = true ∧ (t.size : Int) ≤ 1000
  · rw [h.1 h1.1 h1.2]
    have h2 := h1.1
    rw [e, Bool.and_eq_true] at h2
    have h3 : t.size ≤ 1000 := by have := h1.2; omega
    rw [decide_eq_true h3, h2.1, h2.2, decide_eq_false (by have := h1.2; omega)]; rfl
  · rw [h.2 h1]
    have : (decide (t.size ≤ 1000) && (t.pre 1).all fitX && (t.pre 1).all (fun x => namedT x.2)) = false := by
      rw [Bool.eq_false_iff]
      intro h2
      simp only [Bool.and_eq_true, decide_eq_true_eq] at h2
      exact h1 ⟨by rw [e, h2.1.2, h2.2]; rfl, by have := h2.1.1; omega⟩
    rw [this]; rfl

theorem small_bad {n s : ByteArray} {ks : List Tm} {d left : Int} (h : badS n s ks d left = true) : small (.mk n s ks) d left = -1 := by unfold small; rw [if_pos h]
theorem small_good {n s : ByteArray} {ks : List Tm} {d left : Int} (h : badS n s ks d left = false) : small (.mk n s ks) d left = smalls ks (d + 1) (left - 1) := by unfold small; rw [if_neg (by rw [h]; simp)]
theorem smalls_at {L : List Tm} {k : Nat} {x : Tm} (hx : L[k]? = some x) (d left : Int) : smalls (L.drop k) d left = if small x d left < 0 then small x d left else smalls (L.drop (k + 1)) d (small x d left) := by
  obtain ⟨h1, e1⟩ := List.getElem?_eq_some_iff.1 hx
  rw [List.drop_eq_getElem_cons h1, e1, smalls]
theorem small_le (t : Tm) (d : Nat) (left : Int) (h : -1 ≤ left) : -1 ≤ small t d left ∧ small t d left ≤ left := by
  have h1 := small_eq t d left
  by_cases hc : (t.pre d).all good = true ∧ (t.size : Int) ≤ left
  · rw [h1.1 hc.1 hc.2]; have := hc.2; omega
  · rw [h1.2 hc]; omega

def SInv (ks : List Tm) (t : Tm) (A : Option Addr) (c : Nat) (d L1 : Int) (w : World) (k : Nat) (left : Int) (wr : World) : Prop :=
  k ≤ ks.length ∧ wr.heap[w.heap.size]? = some (.cells (tcells t A c) 56 (0, 0)) ∧ Below w.heap.size w wr ∧ smalls ks (d + 1) L1 = smalls (ks.drop k) (d + 1) left ∧ 0 ≤ left ∧ left ≤ 1000
set_option maxHeartbeats 4000000 in
theorem Small_any (t : Tm) : ∀ (A : Option Addr) (c n₀ d : Nat) (left : Int) (w : World), TRep n₀ w t A → n₀ ≤ w.heap.size → okT maxLen t → d ≤ 61 → -1 ≤ left → left ≤ 1000 →
    Calls Tryd.prog 82 #[TV t A c, .int .i64 d, .int .i64 left] w fun e w' => e = .returned (.int .i64 (small t d left)) ∧ Below w.heap.size w w' := by
  induction t using Tm.ind with
  | h nm st ks ih =>
    intro A c n₀ d left w hrep hn hok hd hl0 hl1
    have hlk := hok.len
    have hln := hok.nm
    have hls := hok.st
    dsimp only [Tm.nm_mk, Tm.st_mk, Tm.ks_mk] at hln hls hlk
    have HLN := Lib.hid hln
    have HLS := Lib.hid hls
    unfold maxLen at hlk
    have HIH := Lib.hid ih
    have HOK := Lib.hid hok
    have HREP := Lib.hid hrep
    have hbx := heap_alloc_new w (.cells #[.string nm, .string st, .slice A ks.length c] 56)
    have HBX := Lib.hid hbx
    have HB0 := Lib.hid ((Below.refl w.heap.size w).alloc (Nat.le_refl _) (.cells #[.string nm, .string st, .slice A ks.length c] 56))
    obtain ⟨⟨x0, x1, x2⟩, _⟩ := blk3 hbx
    have hw1 : IntKind.i64.wrap (left - 1) = left - 1 := IntWalk.i64_in _ (by omega)
    clear ih hok hrep hbx hln hls
    unfold TV
    dsimp only [Tm.nm_mk, Tm.st_mk, Tm.ks_mk]
    by_cases h1 : left ≤ 0
    · have e1 : decide (left ≤ 0) = true := decide_eq_true h1
      have HV := Lib.hid (small_bad (n := nm) (s := st) (ks := ks) (d := d) (left := left) (by unfold badS; simp [h1]))
      go_enter Tryd.func82, Tryd.ntmps82
      go_wp2_with fail
      go_ret
      exact ⟨by rw [HV.out]; rfl, HB0.out⟩
    have e1 : decide (left ≤ 0) = false := decide_eq_false h1
    by_cases h2 : 60 < d
    · have e2 : decide ((60 : Int) < (d : Int)) = true := decide_eq_true (by omega)
      have HV := Lib.hid (small_bad (n := nm) (s := st) (ks := ks) (d := d) (left := left) (by unfold badS; simp [show (60 : Int) < (d : Int) by omega]))
      go_enter Tryd.func82, Tryd.ntmps82
      go_wp2_with fail
      go_ret
      exact ⟨by rw [HV.out]; rfl, HB0.out⟩
    have e2 : decide ((60 : Int) < (d : Int)) = false := decide_eq_false (by omega)
    by_cases h3 : 6 < ks.length
    · have e3 : decide ((6 : Int) < (ks.length : Int)) = true := decide_eq_true (by omega)
      have HV := Lib.hid (small_bad (n := nm) (s := st) (ks := ks) (d := d) (left := left) (by unfold badS; simp [h3]))
      go_enter Tryd.func82, Tryd.ntmps82
      go_wp2_with fail
      go_ret
      exact ⟨by rw [HV.out]; rfl, HB0.out⟩
    have e3 : decide ((6 : Int) < (ks.length : Int)) = false := decide_eq_false (by omega)
    have HB : Hid (badS nm st ks d left = (!isName nm.toList || (!st.toList.isEmpty && (decide (0 < ks.length) || !isName st.toList)))) := Lib.hid (by unfold badS; rw [e1, e2, decide_eq_false h3]; rfl)
    go_enter Tryd.func82, Tryd.ntmps82
    go_wp2_with fail
    refine (refIsName_any nm _ HLN.out).mono ?_
    rintro e w1 ⟨rfl, hb1⟩
    have HBX1 := Lib.hid (cells_below HBX.out hb1)
    have HB1 := Lib.hid (HB0.out.trans (hb1.mono HB0.out.size))
    clear hb1 x0 x1 x2 HBX HB0
    obtain ⟨⟨x0, x1, x2⟩, _⟩ := blk3 HBX1.out
    by_cases h4 : isName nm.toList = true
    · have H4 := Lib.hid h4
      rw [h4]
      clear h4
      by_cases h5 : st.toList.isEmpty = true
      · have e5 : (st.toList == []) = true := by rw [List.isEmpty_iff.1 h5]; rfl
        have H5 := Lib.hid h5
        have HT := Lib.hid (small_good (n := nm) (s := st) (ks := ks) (d := d) (left := left) (by rw [HB.out, H4.out, H5.out]; rfl))
        clear h5
        go_wp2_with fail
        clear x0 x1 x2
        go_loopw [7, 2] (fun y z wr => ∃ (k : Nat) (l2 : Int), y = .int .i64 k ∧ z = .int .i64 l2 ∧ SInv ks (.mk nm st ks) A c d (left - 1) w k l2 wr) (fun y _ _ => ks.length - (intOf y).toNat)
        case atStart => exact ⟨0, left - 1, rfl, rfl, Nat.zero_le _, HBX1.out, HB1.out, rfl, by omega, by omega⟩
        case round =>
          clear HBX1 HB1
          obtain ⟨k, l2, rfl, rfl, hk, hbx, hbw, heq, hb0, hb1⟩ := hrel
          obtain ⟨⟨x0, x1, x2⟩, _⟩ := blk3 hbx
          dsimp only [Tm.nm_mk, Tm.st_mk, Tm.ks_mk] at x0 x1 x2
          have HBX := Lib.hid hbx
          have HBW := Lib.hid hbw
          have HEQ := Lib.hid heq
          have hws := hbw.size
          clear hbx hbw heq
          by_cases hlt : k < ks.length
          · obtain ⟨x, hx⟩ : ∃ x, ks[k]? = some x := ⟨ks[k]'hlt, List.getElem?_eq_getElem _⟩
            have hmem : x ∈ ks := List.mem_of_getElem? hx
            obtain ⟨tb, tq, A', c', rfl, htb, u0, u1, u2, hrx⟩ := HREP.out.kid (i := k) hx
            have hbn := HBW.out.mono hn
            replace u0 := (hbn.cell (p := ⟨tb, _, none⟩) htb).trans u0
            replace u1 := (hbn.cell (p := ⟨tb, _, none⟩) htb).trans u1
            replace u2 := (hbn.cell (p := ⟨tb, _, none⟩) htb).trans u2
            have hbd := small_le x (d + 1) l2 (by omega)
            have HC := Lib.hid (HIH.out x hmem A' c' n₀ (d + 1) l2 wr (hrx.later hbn) (by omega) (HOK.out.kid hmem) (by omega) (by omega) hb1)
            have HX := Lib.hid hx
            have hI : (k : Int) < (ks.length : Int) := by omega
            have hwd : IntKind.i64.wrap ((d : Int) + 1) = (d : Int) + 1 := IntWalk.i64_in _ (by omega)
            rw [Int.natCast_succ] at HC hbd
            clear hx hrx hbn hmem
            go_wp2_with fail
            refine HC.out.mono ?_
            rintro e w5 ⟨rfl, hb5⟩
            have HB5 := Lib.hid hb5
            clear hb5 HC x0 x1 x2 u0 u1 u2
            by_cases hneg : small x ((d : Int) + 1) l2 < 0
            · have hnb : decide (small x ((d : Int) + 1) l2 < 0) = true := decide_eq_true hneg
              have HN := Lib.hid hneg
              clear hneg
              go_wp2_with fail
              go_ret
              refine ⟨?_, HBW.out.trans (HB5.out.mono hws)⟩
              rw [HT.out, HEQ.out, smalls_at HX.out, if_pos HN.out]
              rfl
            · have hnb : decide (small x ((d : Int) + 1) l2 < 0) = false := decide_eq_false hneg
              have HN := Lib.hid hneg
              go_wp2_with fail
              go_roundw
              case rel =>
                refine ⟨k + 1, small x ((d : Int) + 1) l2, by go_num, rfl, by omega, cells_below HBX.out HB5.out, HBW.out.trans (HB5.out.mono hws), ?_, by omega, by omega⟩
                rw [HEQ.out, smalls_at HX.out, if_neg (show ¬ small x ((d : Int) + 1) l2 < 0 by have := HN.out; omega)]
              case measure => simp [intOf]; omega
          · have hI : ¬ (k : Int) < (ks.length : Int) := by omega
            have HK : Hid (ks.drop k = []) := Lib.hid (by rw [show k = ks.length by omega, List.drop_length])
            go_wp2_with fail
            go_ret
            exact ⟨by rw [HT.out, HEQ.out, HK.out]; rfl, HBW.out⟩
      · have e5 : (st.toList == []) = false := by
          cases hst : st.toList with
          | nil => rw [hst] at h5; exact absurd rfl h5
          | cons a b => rfl
        have h5' : st.toList.isEmpty = false := by simpa using h5
        have H5 := Lib.hid h5'
        clear h5 h5'
        by_cases h6 : 0 < ks.length
        · have e6 : decide ((0 : Int) < (ks.length : Int)) = true := decide_eq_true (by omega)
          have HV := Lib.hid (small_bad (n := nm) (s := st) (ks := ks) (d := d) (left := left) (by rw [HB.out, H4.out, H5.out, decide_eq_true h6]; rfl))
          go_wp2_with fail
          go_ret
          exact ⟨by rw [HV.out]; rfl, HB1.out⟩
        · have e6 : decide ((0 : Int) < (ks.length : Int)) = false := decide_eq_false (by omega)
          go_wp2_with fail
          refine (refIsName_any st _ HLS.out).mono ?_
          rintro e w2 ⟨rfl, hb2⟩
          have HBX2 := Lib.hid (cells_below HBX1.out hb2)
          have HB2 := Lib.hid (HB1.out.trans (hb2.mono HB1.out.size))
          clear hb2 x0 x1 x2
          by_cases h7 : isName st.toList = true
          · have HT := Lib.hid (small_good (n := nm) (s := st) (ks := ks) (d := d) (left := left) (by rw [HB.out, H4.out, H5.out, decide_eq_false h6, h7]; rfl))
            rw [h7]
            clear h7
            have HK0 : Hid (ks = []) := Lib.hid (List.eq_nil_of_length_eq_zero (by omega))
            go_wp2_with fail
            go_loopw [7, 2] (fun y z wr => y = .int .i64 0 ∧ z = .int .i64 (left - 1) ∧ wr = w2) (fun _ _ _ => 0)
            case atStart => exact ⟨rfl, rfl, rfl⟩
            case round =>
              obtain ⟨rfl, rfl, rfl⟩ := hrel
              obtain ⟨⟨x0, x1, x2⟩, _⟩ := blk3 HBX2.out
              go_wp2_with fail
              go_ret
              exact ⟨by rw [HT.out, HK0.out]; rfl, HB2.out⟩
          · have h7' : isName st.toList = false := by simpa using h7
            have HV := Lib.hid (small_bad (n := nm) (s := st) (ks := ks) (d := d) (left := left) (by rw [HB.out, H4.out, H5.out, decide_eq_false h6, h7']; rfl))
            rw [h7']
            clear h7 h7'
            go_wp2_with fail
            go_ret
            exact ⟨by rw [HV.out]; rfl, HB2.out⟩
    · have h4' : isName nm.toList = false := by simpa using h4
      have HV := Lib.hid (small_bad (n := nm) (s := st) (ks := ks) (d := d) (left := left) (by rw [HB.out, h4']; rfl))
      rw [h4']
      clear h4 h4'
      go_wp2_with fail
      go_ret
      exact ⟨by rw [HV.out]; rfl, HB1.out⟩
end Go.Proofs.YthbcfcbonmphfaaDoor
/- The reference's vars and Formed. -/
namespace Go.Proofs.YthbcfcbonmphfaaDoor
open Go.RowKit Go.Shelf
set_option maxRecDepth 100000

theorem insF_len : ∀ (l : List FF) (f : FF), (insF l f).1.length ≤ l.length + 1
  | [], f => by simp [insF]
  | g :: l, f => by
    have ih := insF_len l f
    unfold insF
    split
    · simp only [List.length_cons]; omega
    · split
      · simp only [List.length_cons]; omega
      · simp only [List.length_cons]; omega
mutual
theorem varsT_len : ∀ (t : Tm) (l : List FF), (varsT t l).1.length ≤ l.length + t.size
  | .mk n s ks, l => by
    unfold varsT
    rw [Tm.size]
    split
    · have := varsL_len ks l; omega
    · have := insF_len l (n, s); omega
theorem varsL_len : ∀ (ks : List Tm) (l : List FF), (varsL ks l).1.length ≤ l.length + sizes ks
  | [], l => by simp [varsL]
  | k :: ks, l => by
    have h1 := varsT_len k l
    have h2 := varsL_len ks (varsT k l).1
    unfold varsL
    rw [sizes]
    split
    · omega
    · show l.length ≤ _; omega
end
theorem varsL_at {L : List Tm} {k : Nat} {x : Tm} (hx : L[k]? = some x) (l : List FF) : varsL (L.drop k) l = if (varsT x l).2 then varsL (L.drop (k + 1)) (varsT x l).1 else (l, false) := by
  obtain ⟨h1, e1⟩ := List.getElem?_eq_some_iff.1 hx
  rw [List.drop_eq_getElem_cons h1, e1, varsL]
theorem sizes_at {L : List Tm} {k : Nat} {x : Tm} (hx : L[k]? = some x) : sizes (L.drop k) = x.size + sizes (L.drop (k + 1)) := by
  obtain ⟨h1, e1⟩ := List.getElem?_eq_some_iff.1 hx
  rw [List.drop_eq_getElem_cons h1, e1, sizes]
def VaPost (r : List FF × Bool) (w : World) (e : Ending) (w' : World) : Prop :=
  (∃ v', e = .returned (.tuple #[v', .bool r.2]) ∧ (r.2 = true → FLv w' v' r.1)) ∧ Below w.heap.size w w'
def VaInv (ks : List Tm) (t : Tm) (A : Option Addr) (c : Nat) (l : List FF) (w : World) (k : Nat) (z : Value) (l2 : List FF) (wr : World) : Prop :=
  k ≤ ks.length ∧ wr.heap[w.heap.size]? = some (.cells (tcells t A c) 56 (0, 0)) ∧ Below w.heap.size w wr ∧ FLv wr z l2 ∧ varsL ks l = varsL (ks.drop k) l2 ∧ l2.length + sizes (ks.drop k) ≤ 100000
theorem FLv.next {w w' : World} {v : Value} {l : List FF} {n : Nat} (h : FLv w v l) (hb : Below n w w') (hn : w.heap.size ≤ n) : FLv w' v l := h.below (hb.mono hn)
set_option maxHeartbeats 4000000 in
theorem vars_any (t : Tm) : ∀ (A : Option Addr) (c n₀ : Nat) (l : List FF) (v : Value) (w : World), TRep n₀ w t A → n₀ ≤ w.heap.size → okT maxLen t → FLv w v l → l.length + t.size ≤ 100000 →
    Calls Tryd.prog 83 #[v, TV t A c] w (VaPost (varsT t l) w) := by
  induction t using Tm.ind with
  | h nm st ks ih =>
    intro A c n₀ l v w hrep hn hok hv hlen
    rw [Tm.size] at hlen
    have hlk := hok.len
    dsimp only [Tm.nm_mk, Tm.st_mk, Tm.ks_mk] at hlk
    unfold maxLen at hlk
    have HIH := Lib.hid ih
    have HOK := Lib.hid hok
    have HREP := Lib.hid hrep
    have hbx := heap_alloc_new w (.cells #[.string nm, .string st, .slice A ks.length c] 56)
    have HBX := Lib.hid hbx
    have HB0 := Lib.hid ((Below.refl w.heap.size w).alloc (Nat.le_refl _) (.cells #[.string nm, .string st, .slice A ks.length c] 56))
    have HV := Lib.hid (hv.below HB0.out)
    obtain ⟨⟨x0, x1, x2⟩, _⟩ := blk3 hbx
    clear ih hok hrep hbx hv
    unfold TV
    dsimp only [Tm.nm_mk, Tm.st_mk, Tm.ks_mk]
    by_cases h5 : st.toList.isEmpty = true
    · have e5 : (st.toList == []) = true := by rw [List.isEmpty_iff.1 h5]; rfl
      have HT : Hid (varsT (.mk nm st ks) l = varsL ks l) := Lib.hid (by unfold varsT; rw [if_pos h5])
      clear h5
      go_enter Tryd.func83, Tryd.ntmps83
      go_wp2_with fail
      clear x0 x1 x2
      go_loopw [6, 0] (fun y z wr => ∃ (k : Nat) (l2 : List FF), y = .int .i64 k ∧ VaInv ks (.mk nm st ks) A c l w k z l2 wr) (fun y _ _ => ks.length - (intOf y).toNat)
      case atStart => exact ⟨0, l, rfl, Nat.zero_le _, HBX.out, HB0.out, HV.out, rfl, by rw [List.drop_zero]; omega⟩
      case round =>
        clear HBX HB0 HV
        obtain ⟨k, l2, rfl, hk, hbx, hbw, hfl, heq, hl2⟩ := hrel
        obtain ⟨⟨x0, x1, x2⟩, _⟩ := blk3 hbx
        dsimp only [Tm.nm_mk, Tm.st_mk, Tm.ks_mk] at x0 x1 x2
        have HBX := Lib.hid hbx
        have HBW := Lib.hid hbw
        have HEQ := Lib.hid heq
        have HFL := Lib.hid hfl
        have HL2 := Lib.hid hl2
        have hws := hbw.size
        clear hbx hbw heq hfl hl2
        by_cases hlt : k < ks.length
        · obtain ⟨x, hx⟩ : ∃ x, ks[k]? = some x := ⟨ks[k]'hlt, List.getElem?_eq_getElem _⟩
          have hmem : x ∈ ks := List.mem_of_getElem? hx
          obtain ⟨tb, tq, A', c', rfl, htb, u0, u1, u2, hrx⟩ := HREP.out.kid (i := k) hx
          have hbn := HBW.out.mono hn
          replace u0 := (hbn.cell (p := ⟨tb, _, none⟩) htb).trans u0
          replace u1 := (hbn.cell (p := ⟨tb, _, none⟩) htb).trans u1
          replace u2 := (hbn.cell (p := ⟨tb, _, none⟩) htb).trans u2
          have hsz := sizes_at hx
          have HC := Lib.hid (HIH.out x hmem A' c' n₀ l2 _ _ (hrx.later hbn) (by omega) (HOK.out.kid hmem) HFL.out (by have := HL2.out; omega))
          have HS := Lib.hid hsz
          have HX := Lib.hid hx
          have hI : (k : Int) < (ks.length : Int) := by omega
          clear hx hrx hbn hmem hsz
          unfold TV at HC
          go_wp2_with fail
          refine HC.out.mono ?_
          rintro e w5 ⟨⟨v5, rfl, hf5⟩, hb5⟩
          have HB5 := Lib.hid hb5
          have HF5 := Lib.hid hf5
          clear hb5 hf5 HC x0 x1 x2 u0 u1 u2
          cases hok2 : (varsT x l2).2 with
          | false =>
            have HO := Lib.hid hok2
            clear hok2
            go_wp2_with fail
            go_ret2
            refine ⟨⟨u0, ?_, fun h => ?_⟩, HBW.out.trans (HB5.out.mono hws)⟩
            · rw [HT.out, HEQ.out, varsL_at HX.out, HO.out]; rfl
            · rw [HT.out, HEQ.out, varsL_at HX.out, HO.out] at h; cases h
          | true =>
            have HO := Lib.hid hok2
            clear hok2
            go_wp2_with fail
            go_roundw
            case rel =>
              refine ⟨k + 1, (varsT x l2).1, by go_num, by omega, cells_below HBX.out HB5.out, HBW.out.trans (HB5.out.mono hws), HF5.out HO.out, ?_, ?_⟩
              · rw [HEQ.out, varsL_at HX.out, if_pos HO.out]
              · have := HL2.out
                have := HS.out
                have := varsT_len x l2
                omega
            case measure => simp [intOf]; omega
        · have hI : ¬ (k : Int) < (ks.length : Int) := by omega
          have HK : Hid (ks.drop k = []) := Lib.hid (by rw [show k = ks.length by omega, List.drop_length])
          go_wp2_with fail
          go_ret2
          refine ⟨⟨u0, ?_, fun h => ?_⟩, HBW.out⟩
          · rw [HT.out, HEQ.out, HK.out]; rfl
          · rw [HT.out, HEQ.out, HK.out]; exact HFL.out
    · have e5 : (st.toList == []) = false := by
        cases hst : st.toList with
        | nil => rw [hst] at h5; exact absurd rfl h5
        | cons a b => rfl
      have HT : Hid (varsT (.mk nm st ks) l = insF l (nm, st)) := Lib.hid (by unfold varsT; rw [if_neg h5])
      clear h5
      go_enter Tryd.func83, Tryd.ntmps83
      go_wp2_with fail
      refine (add_any l (nm, st) _ _ HV.out (by omega)).mono ?_
      rintro e w1 ⟨⟨v1, rfl, hf1⟩, hb1⟩
      have HB1 := Lib.hid (HB0.out.trans (hb1.mono HB0.out.size))
      have HF1 := Lib.hid hf1
      clear hb1 hf1 x0 x1 x2
      go_wp2_with fail
      go_ret2
      refine ⟨⟨v1, ?_, fun h => ?_⟩, HB1.out⟩
      · rw [HT.out]; rfl
      · rw [HT.out] at h ⊢; exact HF1.out h

theorem formed_any (t : Tm) (A : Option Addr) (c n₀ : Nat) (w : World) (hrep : TRep n₀ w t A) (hn : n₀ ≤ w.heap.size) (hok : okT maxLen t) :
    Calls Tryd.prog 36 #[TV t A c] w fun e w' => e = .returned (.bool (formed t)) ∧ Below w.heap.size w w' := by
  have hbx := heap_alloc_new w (.cells (tcells t A c) 56)
  have HBX := Lib.hid hbx
  have HB0 := Lib.hid ((Below.refl w.heap.size w).alloc (Nat.le_refl _) (.cells (tcells t A c) 56))
  have HREP := Lib.hid hrep
  have HOK := Lib.hid hok
  have HS := Lib.hid (small_formed t)
  have hlk := hok.len
  unfold maxLen at hlk
  obtain ⟨⟨x0, x1, x2⟩, _⟩ := blk3 hbx
  clear hbx hrep hok
  unfold TV
  go_enter Tryd.func36, Tryd.ntmps36
  go_wp2_with fail
  refine (Small_any t A c n₀ 1 1000 _ (HREP.out.later (HB0.out.mono hn)) (by have := HB0.out.size; omega) HOK.out (by omega) (by omega) (by omega)).mono ?_
  rintro e w1 ⟨rfl, hb1⟩
  have HB1 := Lib.hid (HB0.out.trans (hb1.mono HB0.out.size))
  have HBX1 := Lib.hid (cells_below HBX.out hb1)
  clear hb1 x0 x1 x2 HBX
  obtain ⟨⟨x0, x1, x2⟩, _⟩ := blk3 HBX1.out
  by_cases hneg : small t 1 1000 < 0
  · have hnb : decide (small t 1 1000 < 0) = true := decide_eq_true hneg
    have HR : Hid (formed t = false) := Lib.hid (by
      have h := HS.out
      rw [hnb] at h
      unfold formed
      cases h1 : fitsL (t.pre 1) <;> cases h2 : (t.pre 1).all (fun x => namedT x.2) <;> simp [h1, h2] at h ⊢)
    go_wp2_with fail
    go_ret
    exact ⟨by rw [HR.out]; rfl, HB1.out⟩
  · have hnb : decide (small t 1 1000 < 0) = false := decide_eq_false hneg
    have h12 : fitsL (t.pre 1) = true ∧ (t.pre 1).all (fun x => namedT x.2) = true := by
      have h := HS.out
      rw [hnb] at h
      cases h1 : fitsL (t.pre 1) <;> cases h2 : (t.pre 1).all (fun x => namedT x.2) <;> simp [h1, h2] at h ⊢
    have HR : Hid (formed t = (varsT t []).2) := Lib.hid (by
      rw [vars_agree (okV_pre t 1 (by simpa [List.all_eq_true] using h12.2))]
      unfold formed
      rw [h12.1, h12.2]; rfl)
    have hsz := fitsL_size h12.1
    have HC := Lib.hid (vars_any t A c w1.heap.size [] (.slice none 0 0) w1 ((HREP.out.later (HB1.out.mono hn)).mono (by have := HB1.out.size; omega)) (Nat.le_refl _) HOK.out ⟨none, 0, rfl, by simp, by simp [maxLen], fun h => by simp at h⟩ (by simp; omega))
    unfold TV at HC
    clear h12 hsz
    go_wp2_with fail
    refine HC.out.mono ?_
    rintro e w2 ⟨⟨v2, rfl, _⟩, hb2⟩
    have HB2 := Lib.hid (HB1.out.trans (hb2.mono HB1.out.size))
    clear hb2 x0 x1 x2 HC
    go_wp2_with fail
    go_ret
    exact ⟨by rw [HR.out]; rfl, HB2.out⟩
end Go.Proofs.YthbcfcbonmphfaaDoor
namespace Go.Proofs.YthbcfcbonmphfaaDoor
open Go.RowKit Go.Shelf
set_option maxRecDepth 100000
attribute [local go_sem] Oper.semAt_some

def RInv (a b : Tm) (A : Option Addr) (c : Nat) (B : Option Addr) (c' : Nat) (w : World) (k : Nat) (wr : World) : Prop :=
  k ≤ a.ks.length ∧ rcmp a b = rcmps (a.ks.drop k) (b.ks.drop k) ∧ CW w wr a A c b B c'

theorem neg_ne {x : Int} (h : x = 0) : ¬ x ≠ 0 := fun h' => h' h
theorem isV_bne (t : Tm) {v : Bool} (h : isV t = v) : (t.st.toList == []) = !v := by
  unfold isV at h
  cases ht : t.st.toList with
  | nil => rw [ht] at h; rw [← h]; rfl
  | cons x l => rw [ht] at h; rw [← h]; rfl

set_option maxHeartbeats 4000000 in
theorem refCompare_any (a : Tm) : ∀ (b : Tm) (A B : Option Addr) (c c' n₀ : Nat) (w : World), TRep n₀ w a A → TRep n₀ w b B → n₀ ≤ w.heap.size → okT maxLen a → okT maxLen b →
    Calls Tryd.prog 40 #[TV a A c, TV b B c'] w fun e w' => e = .returned (.int .i64 (rcmp a b)) ∧ Below w.heap.size w w' := by
  induction a using Tm.ind with
  | h nm st ks ih =>
    intro b A B c c' n₀ w hra hrb hn hoa hob
    have hla : ks.length ≤ 9223372036854775807 := by have := hoa.len; unfold maxLen at this; simpa using this
    have hlb := hob.len
    unfold maxLen at hlb
    have HIH := Lib.hid ih
    have HOA := Lib.hid hoa
    have HOB := Lib.hid hob
    have HRA := Lib.hid hra
    have HRB := Lib.hid hrb
    have HC0 := Lib.hid (CW.start w (.mk nm st ks) A c b B c')
    obtain ⟨⟨x0, x1, x2⟩, _⟩ := blk3 HC0.out.ba
    obtain ⟨⟨y0, y1, y2⟩, _⟩ := blk3 HC0.out.bb
    dsimp only [Tm.nm_mk, Tm.st_mk, Tm.ks_mk] at x0 x1 x2
    clear ih hoa hob hra hrb
    generalize hva : isV (Tm.mk nm st ks) = va
    generalize hvb : isV b = vb
    have hba := isV_bne _ hva
    have hbb := isV_bne _ hvb
    dsimp only [Tm.nm_mk, Tm.st_mk, Tm.ks_mk] at hba
    unfold TV
    dsimp only [Tm.nm_mk, Tm.st_mk, Tm.ks_mk]
    by_cases hv : va = vb
    · subst hv
      have hT0 : rcmp (.mk nm st ks) b = if bcmp nm b.nm ≠ 0 then bcmp nm b.nm else if bcmp st b.st ≠ 0 then bcmp st b.st else if ncmp ks.length b.ks.length ≠ 0 then ncmp ks.length b.ks.length else rcmps ks b.ks := rcmp_eq (hva.trans hvb.symm)
      have HT := Lib.hid hT0
      clear hT0
      have hbv : (va != va) = false := bne_self_eq_false _
      clear hva hvb
      go_enter Tryd.func40, Tryd.ntmps40
      go_wp2_with fail
      refine (refOrder_any nm b.nm _).mono ?_
      rintro e w' ⟨rfl, rfl⟩
      by_cases h1 : bcmp nm b.nm = 0
      · have HB1 := Lib.hid h1
        rw [h1]
        clear h1
        go_wp2_with fail
        refine (refOrder_any st b.st _).mono ?_
        rintro e w' ⟨rfl, rfl⟩
        by_cases h2 : bcmp st b.st = 0
        · have HB2 := Lib.hid h2
          rw [h2]
          clear h2
          by_cases hlen : ks.length = b.ks.length
          · have hb1 : ((ks.length : Int) == (b.ks.length : Int)) = true := by rw [hlen]; exact beq_self_eq_true _
            have hb2 : ((ks.length : Int) != (b.ks.length : Int)) = false := by rw [hlen]; exact bne_self_eq_false _
            have HLEN := Lib.hid hlen
            have hT := HT.out
            rw [if_neg (neg_ne HB1.out), if_neg (neg_ne HB2.out), if_neg (neg_ne (show ncmp ks.length b.ks.length = 0 by unfold ncmp; rw [if_neg (by omega), if_neg (by omega)]))] at hT
            have HT2 := Lib.hid hT
            clear hlen hT HT
            go_wp2_with fail
            clear x0 x1 x2 y0 y1 y2 hb1 hb2 hbv
            go_loopw [7] (fun y wr => ∃ k : Nat, y = .int .i64 k ∧ RInv (.mk nm st ks) b A c B c' w k wr) (fun y _ => ks.length - (intOf y).toNat)
            case atStart => exact ⟨0, rfl, Nat.zero_le _, HT2.out, HC0.out⟩
            case round =>
              clear HC0
              obtain ⟨k, rfl, hk, heq, hcw⟩ := hrel
              have HEQ := Lib.hid heq
              have HCW := Lib.hid hcw
              clear heq hcw
              dsimp only [Tm.ks_mk] at hk
              obtain ⟨⟨x0, x1, x2⟩, _⟩ := blk3 HCW.out.ba
              obtain ⟨⟨y0, y1, y2⟩, _⟩ := blk3 HCW.out.bb
              dsimp only [Tm.nm_mk, Tm.st_mk, Tm.ks_mk] at x0 x1 x2
              by_cases hlt : k < ks.length
              · have hlb2 : k < b.ks.length := by have := HLEN.out; omega
                obtain ⟨x, hx⟩ : ∃ x, ks[k]? = some x := ⟨ks[k]'hlt, List.getElem?_eq_getElem _⟩
                obtain ⟨y, hy⟩ : ∃ y, b.ks[k]? = some y := ⟨b.ks[k]'hlb2, List.getElem?_eq_getElem _⟩
                obtain ⟨ab, ao, A1, c1, rfl, hab, u0, u1, u2, hra⟩ := HRA.out.kid (i := k) hx
                obtain ⟨bb, bo, B1, d1, rfl, hbb2, v0, v1, v2, hrb⟩ := HRB.out.kid (i := k) hy
                have hbw := HCW.out.below
                have hbn := hbw.mono hn
                replace u0 := (hbn.cell (p := ⟨ab, _, none⟩) hab).trans u0
                replace u1 := (hbn.cell (p := ⟨ab, _, none⟩) hab).trans u1
                replace u2 := (hbn.cell (p := ⟨ab, _, none⟩) hab).trans u2
                replace v0 := (hbn.cell (p := ⟨bb, _, none⟩) hbb2).trans v0
                replace v1 := (hbn.cell (p := ⟨bb, _, none⟩) hbb2).trans v1
                replace v2 := (hbn.cell (p := ⟨bb, _, none⟩) hbb2).trans v2
                have hsz := hbw.size
                have HC := Lib.hid (HIH.out x (List.mem_of_getElem? hx) y A1 B1 c1 d1 n₀ wr.drew (hra.later hbn.drew) (hrb.later hbn.drew) (by simp; omega) (HOA.out.kid (List.mem_of_getElem? hx)) (HOB.out.kid (List.mem_of_getElem? hy)))
                have HX := Lib.hid hx
                have HY := Lib.hid hy
                have hI : (k : Int) < (ks.length : Int) := by omega
                have hI2 : (k : Int) < (b.ks.length : Int) := by omega
                clear hx hy hra hrb hbw hbn
                go_wp2_with fail
                go_still_tail 10, (by kernel_rfl)
                change wpList _ _ _ _ _ wr.drew
                go_wp2_with fail
                refine HC.out.mono ?_
                rintro e w5 ⟨rfl, hb5⟩
                have HB5 := Lib.hid hb5
                clear hb5 HC x0 x1 x2 y0 y1 y2 u0 u1 u2 v0 v1 v2
                by_cases hz : rcmp x y = 0
                · have HZ := Lib.hid hz
                  rw [hz]
                  clear hz
                  go_wp2
                  go_roundw
                  case rel =>
                    refine ⟨k + 1, by go_num, ?_, ?_, HCW.out.drew.next HB5.out⟩
                    · dsimp only [Tm.ks_mk]; omega
                    · rw [HEQ.out]; dsimp only [Tm.ks_mk]; rw [rcmps_at HX.out HY.out, if_neg (neg_ne HZ.out)]
                  case measure => simp [intOf]; omega
                · have hzb : (rcmp x y != 0) = true := by simp [hz]
                  have HZ := Lib.hid hz
                  clear hz
                  go_wp2
                  go_ret
                  exact ⟨by rw [HEQ.out]; dsimp only [Tm.ks_mk]; rw [rcmps_at HX.out HY.out, if_pos HZ.out]; rfl, (HCW.out.drew.next HB5.out).below⟩
              · have hI : ¬ (k : Int) < (ks.length : Int) := by omega
                have hkl : k = ks.length := by omega
                have HKL := Lib.hid hkl
                clear hkl
                go_wp2_with fail
                go_ret
                exact ⟨by
                  rw [HEQ.out]; dsimp only [Tm.ks_mk]
                  rw [HKL.out, List.drop_length]; rfl, HCW.out.below⟩
          · have hb1 : ((ks.length : Int) != (b.ks.length : Int)) = true := bne_iff_ne.2 (by omega)
            have hT := HT.out
            rw [if_neg (neg_ne HB1.out), if_neg (neg_ne HB2.out)] at hT
            by_cases hl : ks.length < b.ks.length
            · have hI : (ks.length : Int) < (b.ks.length : Int) := by omega
              have hn2 : ncmp ks.length b.ks.length = -1 := by unfold ncmp; rw [if_pos hl]
              rw [hn2, if_pos (by decide)] at hT
              have HT2 := Lib.hid hT
              clear hT hn2 hlen
              go_wp2_with fail
              go_ret
              exact ⟨by rw [HT2.out]; rfl, HC0.out.below⟩
            · have hI : ¬ (ks.length : Int) < (b.ks.length : Int) := by omega
              have hn2 : ncmp ks.length b.ks.length = 1 := by unfold ncmp; rw [if_neg hl, if_pos (by omega)]
              rw [hn2, if_pos (by decide)] at hT
              have HT2 := Lib.hid hT
              clear hT hn2 hlen
              go_wp2_with fail
              go_ret
              exact ⟨by rw [HT2.out]; rfl, HC0.out.below⟩
        · have hb2 : (bcmp st b.st != 0) = true := by simp [h2]
          have HB2 := Lib.hid h2
          clear h2
          go_wp2_with fail
          go_ret
          exact ⟨by rw [HT.out, if_neg (neg_ne HB1.out), if_pos HB2.out]; rfl, HC0.out.below⟩
      · have hb1 : (bcmp nm b.nm != 0) = true := by simp [h1]
        have HB1 := Lib.hid h1
        clear h1
        go_wp2_with fail
        go_ret
        exact ⟨by rw [HT.out, if_pos HB1.out]; rfl, HC0.out.below⟩
    · cases va
      · cases vb
        · exact absurd rfl hv
        · have HT := Lib.hid (rcmp_nv hva hvb)
          clear hv
          go_enter Tryd.func40, Tryd.ntmps40
          go_wp2_with fail
          go_ret
          exact ⟨by rw [HT.out]; rfl, HC0.out.below⟩
      · cases vb
        · have HT := Lib.hid (rcmp_vn hva hvb)
          clear hv
          go_enter Tryd.func40, Tryd.ntmps40
          go_wp2_with fail
          go_ret
          exact ⟨by rw [HT.out]; rfl, HC0.out.below⟩
        · exact absurd rfl hv

set_option maxHeartbeats 1000000 in
theorem refSame_any (a b : Tm) (A B : Option Addr) (c c' n₀ : Nat) (w : World) (hra : TRep n₀ w a A) (hrb : TRep n₀ w b B) (hn : n₀ ≤ w.heap.size) (hoa : okT maxLen a) (hob : okT maxLen b) :
    Calls Tryd.prog 35 #[TV a A c, TV b B c'] w fun e w' => e = .returned (.bool (rcmp a b == 0)) ∧ Below w.heap.size w w' := by
  have HC0 := Lib.hid (CW.start w a A c b B c')
  obtain ⟨⟨x0, x1, x2⟩, _⟩ := blk3 HC0.out.ba
  obtain ⟨⟨y0, y1, y2⟩, _⟩ := blk3 HC0.out.bb
  have HC := Lib.hid (refCompare_any a b A B c c' n₀ _ (hra.later (HC0.out.below.mono hn)) (hrb.later (HC0.out.below.mono hn)) (by have := HC0.out.below.size; omega) hoa hob)
  clear hra hrb hoa hob
  unfold TV at HC
  unfold TV
  go_enter Tryd.func35, Tryd.ntmps35
  go_wp2_with fail
  refine HC.out.mono ?_
  rintro e w1 ⟨rfl, hb1⟩
  have HC1 := Lib.hid (HC0.out.next hb1)
  clear hb1
  go_wp2_with fail
  go_ret
  exact ⟨rfl, HC1.out.below⟩
end Go.Proofs.YthbcfcbonmphfaaDoor
