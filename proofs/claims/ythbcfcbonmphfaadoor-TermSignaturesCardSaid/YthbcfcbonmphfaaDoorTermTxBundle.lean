/- Text, and the reference's joined and Text. -/
import Derived.Test.YthbcfcbonmphfaaDoorTermUBundle
import Derived.Test.YthbcfcbonmphfaaDoorTermDBundle
import Derived.Test.YthbcfcbonmphfaaDoorTermPathBundle
namespace Go.Proofs.YthbcfcbonmphfaaDoor
open Go.RowKit Go.Shelf
set_option maxRecDepth 100000

mutual
/-- The text of a term. -/
def tmx : Tm → List UInt8
  | .mk n s ks => if s.toList.isEmpty then n.data.toList ++ [40] ++ tmxs true ks ++ [41] else n.data.toList ++ 58 :: s.data.toList
/-- The texts of its parts. -/
def tmxs : Bool → List Tm → List UInt8
  | _, [] => []
  | f, k :: ks => (if f then [] else [44, 32]) ++ tmx k ++ tmxs false ks
end
theorem tmx_v {t : Tm} (h : isV t = true) : tmx t = t.nm.data.toList ++ 58 :: t.st.data.toList := by
  obtain ⟨n, s, ks⟩ := t
  unfold isV at h
  rw [tmx, if_neg (by simpa using h)]; rfl
theorem tmx_o {t : Tm} (h : isV t = false) : tmx t = t.nm.data.toList ++ [40] ++ tmxs true t.ks ++ [41] := by
  obtain ⟨n, s, ks⟩ := t
  unfold isV at h
  rw [tmx, if_pos (by simpa using h)]; rfl
theorem tmxs_snoc : ∀ (L : List Tm) (f : Bool) (k : Tm), tmxs f (L ++ [k]) = tmxs f L ++ ((if f && L.isEmpty then [] else [44, 32]) ++ tmx k)
  | [], f, k => by cases f <;> simp [tmxs]
  | x :: L, f, k => by
    rw [List.cons_append, tmxs, tmxs_snoc L false k, tmxs]
    simp
mutual
theorem tmx_len : ∀ (t : Tm), okB t → (tmx t).length + 2 ≤ 206 * t.size
  | .mk n s ks, h => by
    obtain ⟨h1, h2, _⟩ := h.top
    have h3 := tmxs_len ks true (fun k hk => h.kid hk)
    dsimp only [Tm.nm_mk, Tm.st_mk] at h1 h2
    rw [tmx, Tm.size]
    have e1 : n.data.toList.length = n.size := size_toList n
    have e2 : s.data.toList.length = s.size := size_toList s
    split <;> simp only [List.length_append, List.length_cons, List.length_nil] <;> omega
theorem tmxs_len : ∀ (ks : List Tm) (f : Bool), (∀ k, k ∈ ks → okB k) → (tmxs f ks).length ≤ 206 * sizes ks
  | [], f, _ => by simp [tmxs]
  | k :: ks, f, h => by
    have h1 := tmx_len k (h k (by simp))
    have h2 := tmxs_len ks false (fun x hx => h x (by simp [hx]))
    rw [tmxs, sizes]
    cases f <;> simp only [List.length_append, List.length_nil, if_true] <;> simp <;> omega
end
theorem sizes_pre (ks : List Tm) (k : Nat) (x : Tm) (h : ks[k]? = some x) : sizes (ks.take k) + x.size ≤ sizes ks := by
  induction ks generalizing k with
  | nil => simp at h
  | cons y ks ih =>
    cases k with
    | zero => simp at h; rw [h]; simp [sizes]
    | succ k => have := ih k (by simpa using h); simp [sizes]; omega

/-- What a write to the builder in block b keeps. -/
structure Kb (b : Nat) (w w' : World) : Prop where
  below : Below b w w'
  box : ∀ (i : Nat) (cs : Array Value) (f : Nat × Nat), i ≠ b → w.heap[i]? = some (.cells cs 56 f) → w'.heap[i]? = some (.cells cs 56 f)
theorem Kb.refl (b : Nat) (w : World) : Kb b w w := ⟨Below.refl _ _, fun _ _ _ _ h => h⟩
theorem Kb.trans {b : Nat} {w w1 w2 : World} (h : Kb b w w1) (h2 : Kb b w1 w2) : Kb b w w2 := ⟨h.below.trans h2.below, fun i cs f hi hc => h2.box i cs f hi (h.box i cs f hi hc)⟩
theorem Kb.of_below {b : Nat} {w w' : World} (hb : Below w.heap.size w w') (h : b ≤ w.heap.size) : Kb b w w' :=
  ⟨hb.mono h, fun i _ _ _ hc => (hb.block i (Array.getElem?_eq_some_iff.1 hc).1).trans hc⟩
theorem kb_set {b o : Nat} {w : World} {v : Value} : Kb b w (w.setCell ⟨b, o, none⟩ v) :=
  ⟨(Below.refl _ _).setCell (p := ⟨b, o, none⟩) (Nat.le_refl _) _, fun i _ _ hi hc => by
    rw [Below.heap_setCell w ⟨b, o, none⟩ v i (fun e => hi e)]; exact hc⟩
theorem copyCheck_kp (b : Nat) (p v : Value) (n : Nat) (xs : List Value) (w : World) (hp : p = .pointer none ∨ p = .pointer (some ⟨b, 0, none⟩)) (h : w.heap[b]? = some (.cells #[p, v] 46 (0, 0))) (ho : w.ownsRow (b + 1) 5 1 v n xs) :
    Calls Tryd.prog 71 #[.pointer (some ⟨b, 0, none⟩)] w fun e w' => e = .returned (.tuple #[]) ∧ w'.heap[b]? = some (.cells #[.pointer (some ⟨b, 0, none⟩), v] 46 (0, 0)) ∧ w'.ownsRow (b + 1) 5 1 v n xs ∧ Kb b w w' ∧ w'.heap.size = w.heap.size := by
  rcases hp with rfl | rfl
  · refine (copyCheck_new b v w h).mono ?_
    rintro e w' ⟨rfl, rfl⟩
    refine ⟨rfl, ?_, ownsRow_setCell_below ho (a := ⟨b, 0, none⟩) (by simp) _, kb_set, by simp⟩
    simp [World.setCell, Array.getElem?_modify, h]
  · refine (copyCheck_used b v w h).mono ?_
    rintro e w' ⟨rfl, rfl⟩
    exact ⟨rfl, h, ho, Kb.refl _ _, rfl⟩
/-- What the row of the builder's bytes is, no box of a term is. -/
theorem own_type {w : World} {base n : Nat} {v : Value} {xs : List Value} (h : w.ownsRow base 5 1 v n xs) {i : Nat} {cs : Array Value} {f : Nat × Nat} (hc : w.heap[i]? = some (.cells cs 56 f)) : some i ≠ v.ownBlock := by
  intro e
  rcases h.2 with ⟨rfl, _⟩ | ⟨g, cap, cur, rfl, _, hh, _⟩
  · simp [Value.ownBlock] at e
  · have : i = g := by simpa [Value.ownBlock] using e
    subst this
    rw [hc] at hh
    injection hh with hh
    injection hh with _ h2
    exact absurd h2 (by decide)
set_option maxHeartbeats 400000 in
theorem writeString_kp (b : Nat) (xs : List UInt8) (s : ByteArray) (w : World) (h : Bld w b xs) (hl : xs.length + s.size ≤ 1000000) :
    Calls Tryd.prog 28 #[.pointer (some ⟨b, 0, none⟩), .string s] w fun e w' => e = .returned (.tuple #[.int .i64 s.size, .nilIface]) ∧ Bld w' b (xs ++ s.data.toList) ∧ Kb b w w' := by
  obtain ⟨p, v, hp, hb, ho⟩ := h.ex
  have HC := Lib.hid (copyCheck_kp b p v _ _ w hp hb ho)
  have h1 : xs.length + s.size ≤ maxLen := by unfold maxLen; omega
  have h2 : xs.length + s.size ≤ 140737488355328 := by omega
  have hlt : b < w.heap.size := (Array.getElem?_eq_some_iff.1 hb).1
  obtain ⟨i0, hi, hz0, hz1, hz2⟩ := info_parts infoByte
  clear h hp hb ho hl
  go_enter Tryd.func28, Tryd.ntmps28
  go_wp2_with fail
  refine HC.out.mono ?_
  rintro e w1 ⟨rfl, hb1, ho1, hB1, hs1⟩
  obtain ⟨⟨a0, a1⟩, af0, af1⟩ := blk2 hb1
  have HO1 := Lib.hid ho1
  have HH1 := Lib.hid hb1
  have HB1 := Lib.hid hB1
  have hs1' := Nat.le_of_eq hs1
  have hs2' := Nat.le_of_eq hs1.symm
  clear hb1 ho1 hB1 hs1
  go_wp2_with (at_builtin; refine Lib.wpList_append_own_string _ rfl (.tmp 12) (.tmp 13) 43 9 rfl (b + 1) 5 i0 Tryd.underlying43 Tryd.underlying9 hi hz0 hz1 hz2 v xs.length (bsC xs) rfl HO1.out s rfl h1 h2 ?c5 ?_)
  case c5 => omega
  intro v' w2 ho2 hg2 _
  have R : w2.heap[b]? = some (.cells #[.pointer (some ⟨b, 0, none⟩), v] 46 (0, 0)) ∧ w2.ownsRow (b + 1) 5 1 v' (xs ++ s.data.toList).length (bsC (xs ++ s.data.toList)) ∧ Kb b w w2 := by
    refine ⟨(hg2.block b (by omega) (fun e => ?_)).trans HH1.out, ?_, HB1.out.trans ⟨(Below.refl b w1).grown hg2 (by omega) (fun k e => ?_), fun i cs f hi hc => ?_⟩⟩
    · have := (HO1.out.lt b e.symm).1; omega
    · rw [strCells_eq, bsC_app] at ho2
      rw [List.length_append, size_toList]
      exact ho2
    · have := (HO1.out.lt k e).1; omega
    · exact (hg2.block i (Array.getElem?_eq_some_iff.1 hc).1 (own_type HO1.out hc)).trans hc
  obtain ⟨⟨y0, y1⟩, yf0, yf1⟩ := blk2 R.1
  have HR := Lib.hid R
  obtain ⟨A, cap, rfl⟩ : ∃ A cap, v' = .slice A (xs ++ s.data.toList).length cap := by
    rcases R.2.1.2 with ⟨h, h0⟩ | ⟨g, cap, _, hv, _⟩
    · exact ⟨none, 0, by rw [h, h0]⟩
    · exact ⟨_, cap, hv⟩
  clear R ho2 hg2 a0 a1 af0 af1
  go_wp2
  go_ret2
  refine ⟨rfl, ⟨_, _, .inr rfl, ?_, ownsRow_setCell_below HR.out.2.1 (a := ⟨b, 1, none⟩) (by simp) _⟩, HR.out.2.2.trans kb_set⟩
  have := HR.out.1
  simp [World.setCell, Array.getElem?_modify, this]

/-- What holds at the head of writeTerm's loop. -/
def WTInv (b : Nat) (xs : List UInt8) (t : Tm) (A : Option Addr) (c : Nat) (w : World) (k : Nat) (wr : World) : Prop :=
  k ≤ t.ks.length ∧ Bld wr b (xs ++ t.nm.data.toList ++ [40] ++ tmxs true (t.ks.take k)) ∧ Kb b w wr ∧ wr.heap[w.heap.size]? = some (.cells (tcells t A c) 56 (0, 0))
set_option maxHeartbeats 4000000 in
theorem writeTerm_any (b : Nat) (t : Tm) : ∀ (A : Option Addr) (c n₀ : Nat) (xs : List UInt8) (w : World), TRep n₀ w t A → n₀ ≤ b → b < w.heap.size → okB t → Bld w b xs → xs.length + 206 * t.size ≤ 1000000 →
    Calls Tryd.prog 91 #[.pointer (some ⟨b, 0, none⟩), TV t A c] w fun e w' => e = .returned (.tuple #[]) ∧ Bld w' b (xs ++ tmx t) ∧ Kb b w w' := by
  induction t using Tm.ind with
  | h nm st ks ih =>
    intro A c n₀ xs w hrep hn hbw hok hbl hle
    obtain ⟨hn1, hn2, hn3⟩ := hok.top
    dsimp only [Tm.nm_mk, Tm.st_mk, Tm.ks_mk] at hn1 hn2 hn3
    have hszs : (Tm.mk nm st ks).size = sizes ks + 1 := by rw [Tm.size]; omega
    have hle2 : xs.length + 206 * (sizes ks + 1) ≤ 1000000 := by rw [← hszs]; exact hle
    have HIH := Lib.hid ih
    have HREP := Lib.hid hrep
    have HOK := Lib.hid hok
    have hnew := heap_alloc_new w (.cells #[.string nm, .string st, .slice A ks.length c] 56)
    have hB0 : Below w.heap.size w (w.alloc (.cells #[.string nm, .string st, .slice A ks.length c] 56)) := (Below.refl _ _).alloc (Nat.le_refl _) _
    have HK0 := Lib.hid (Kb.of_below hB0 (by omega : b ≤ w.heap.size))
    have HC1 := Lib.hid (writeString_kp b xs nm _ (hbl.below hB0) (by omega))
    have HBX0 := Lib.hid hnew
    obtain ⟨⟨x0, x1, x2⟩, _⟩ := blk3 hnew
    have hne : w.heap.size ≠ b := by omega
    have e1 : nm.data.toList.length = nm.size := size_toList nm
    have HE1 := Lib.hid e1
    clear ih hrep hok hnew hB0 hbl hle hszs e1
    unfold TV
    dsimp only [Tm.nm_mk, Tm.st_mk, Tm.ks_mk]
    go_enter Tryd.func91, Tryd.ntmps91
    go_wp2_with fail
    refine HC1.out.mono ?_
    rintro e w1 ⟨rfl, hbl1, hk1⟩
    have HBL1 := Lib.hid hbl1
    have HK1 := Lib.hid (HK0.out.trans hk1)
    have HBX1 := Lib.hid (hk1.box _ _ _ hne HBX0.out)
    clear hbl1 hk1 HC1 x0 x1 x2
    obtain ⟨⟨x0, x1, x2⟩, _⟩ := blk3 HBX1.out
    have HV := Lib.hid (isVariable_any (.mk nm st ks) A c w1)
    unfold TV at HV
    dsimp only [Tm.nm_mk, Tm.st_mk, Tm.ks_mk] at HV
    go_wp2_with fail
    refine HV.out.mono ?_
    rintro e w2 ⟨rfl, hb2⟩
    have hs1 := HK1.out.below.size
    have hs2 := hb2.size
    have hbw1 : b < w1.heap.size := by omega
    have hbw2 : b < w2.heap.size := by omega
    have HBL2 := Lib.hid (HBL1.out.below hb2)
    have HK2 := Lib.hid (HK1.out.trans (Kb.of_below hb2 (by omega)))
    have HBX2 := Lib.hid ((hb2.block _ (Array.getElem?_eq_some_iff.1 HBX1.out).1).trans HBX1.out)
    clear hb2 HV x0 x1 x2 HBL1 HK1 HBX1 HK0 HBX0
    obtain ⟨⟨x0, x1, x2⟩, _⟩ := blk3 HBX2.out
    cases hv : isV (Tm.mk nm st ks)
    · have HTX := Lib.hid (tmx_o hv)
      clear hv
      have HC := Lib.hid (writeString_kp b (xs ++ nm.data.toList) ⟨#[40]⟩ w2 HBL2.out (by rw [List.length_append, HE1.out]; show _ + 1 ≤ _; omega))
      go_wp2_with fail
      refine HC.out.mono ?_
      rintro e w3 ⟨rfl, hbl3, hk3⟩
      have HBL3 := Lib.hid hbl3
      have HK3 := Lib.hid (HK2.out.trans hk3)
      have HBX3 := Lib.hid (hk3.box _ _ _ hne HBX2.out)
      clear hbl3 hk3 HC x0 x1 x2 HBL2 HK2 HBX2
      obtain ⟨⟨x0, x1, x2⟩, _⟩ := blk3 HBX3.out
      go_wp2_with fail
      clear x0 x1 x2
      go_loopw [21] (fun y wr => ∃ k : Nat, y = .int .i64 k ∧ WTInv b xs (.mk nm st ks) A c w k wr) (fun y _ => ks.length - (intOf y).toNat)
      case atStart =>
        refine ⟨0, rfl, Nat.zero_le _, ?_, HK3.out, HBX3.out⟩
        have := HBL3.out
        simpa [tmxs] using this
      case round =>
        clear HBL3 HK3 HBX3 hs1 hs2 hbw1 hbw2
        obtain ⟨k, rfl, hk, hbl, hkp, hbx⟩ := hrel
        have HBL := Lib.hid hbl
        have HK := Lib.hid hkp
        have HBX := Lib.hid hbx
        have hws := hkp.below.size
        have hbr : b < wr.heap.size := by omega
        clear hbl hkp hbx
        obtain ⟨⟨x0, x1, x2⟩, _⟩ := blk3 HBX.out
        dsimp only [Tm.nm_mk, Tm.st_mk, Tm.ks_mk] at x0 x1 x2 hk
        by_cases hlt : k < ks.length
        · have hI : decide ((k : Int) < (ks.length : Int)) = true := decide_eq_true (by omega)
          obtain ⟨x, hx⟩ : ∃ x, ks[k]? = some x := ⟨ks[k]'hlt, List.getElem?_eq_getElem _⟩
          have hmem : x ∈ ks := List.mem_of_getElem? hx
          obtain ⟨tb, tq, A', c', rfl, htb, u0, u1, u2, hrx⟩ := HREP.out.kid (i := k) hx
          have HU := Lib.hid (And.intro u0 (And.intro u1 u2))
          have hst := sizes_pre ks k x hx
          have HX := Lib.hid hx
          have HRX := Lib.hid hrx
          have hokx : okB x := HOK.out.kid hmem
          have HOX := Lib.hid hokx
          have htl : (tmxs true (ks.take k)).length ≤ 206 * sizes (ks.take k) := tmxs_len _ _ (fun y hy => HOK.out.kid (List.mem_of_mem_take hy))
          have HTL := Lib.hid htl
          have hI2 : (k : Int) < (ks.length : Int) := by omega
          have HM := Lib.hid hmem
          clear hx hrx u0 u1 u2 hokx htl hmem
          by_cases hk0 : k = 0
          · have h0 : decide ((0 : Int) < (k : Int)) = false := decide_eq_false (by omega)
            have h0' : ¬ (0 : Int) < (k : Int) := by omega
            have h0'' : ¬ 0 < k := by omega
            obtain ⟨u0, u1, u2⟩ := HU.out
            have hbn : Below n₀ w wr := HK.out.below.mono hn
            replace u0 := (hbn.cell (p := ⟨tb, _, none⟩) htb).trans u0
            replace u1 := (hbn.cell (p := ⟨tb, _, none⟩) htb).trans u1
            replace u2 := (hbn.cell (p := ⟨tb, _, none⟩) htb).trans u2
            have HC := Lib.hid (HIH.out x HM.out A' c' n₀ _ wr (HRX.out.later hbn) hn hbr HOX.out HBL.out (by
              have := HTL.out
              simp only [List.length_append, List.length_cons, List.length_nil, Tm.nm_mk, Tm.ks_mk]
              rw [HE1.out]; omega))
            unfold TV at HC
            have HK0 := Lib.hid hk0
            clear hk0 hbn
            go_wp2_with fail
            refine HC.out.mono ?_
            rintro e w5 ⟨rfl, hbl5, hk5⟩
            have HBL5 := Lib.hid hbl5
            have HK5 := Lib.hid (HK.out.trans hk5)
            have HBX5 := Lib.hid (hk5.box _ _ _ hne HBX.out)
            clear hbl5 hk5 HC
            go_wp2_with fail
            go_roundw
            case rel =>
              refine ⟨k + 1, by go_num, hlt, ?_, HK5.out, HBX5.out⟩
              have h := HBL5.out
              dsimp only [Tm.nm_mk, Tm.ks_mk] at h ⊢
              rw [List.take_add_one, HX.out, Option.toList, tmxs_snoc]
              rw [HK0.out] at h ⊢
              simpa [tmxs] using h
            case measure => simp [intOf]; omega
          · have h0 : decide ((0 : Int) < (k : Int)) = true := decide_eq_true (by omega)
            have h0' : (0 : Int) < (k : Int) := by omega
            have h0'' : 0 < k := by omega
            have HC := Lib.hid (writeString_kp b _ ⟨#[44, 32]⟩ wr HBL.out (by
              have := HTL.out
              simp only [List.length_append, List.length_cons, List.length_nil, Tm.nm_mk, Tm.ks_mk]
              rw [HE1.out]; show _ + 2 ≤ _; omega))
            have HK0 := Lib.hid hk0
            clear hk0
            go_wp2_with fail
            refine HC.out.mono ?_
            rintro e w4 ⟨rfl, hbl4, hk4⟩
            have HBL4 := Lib.hid hbl4
            have HK4 := Lib.hid (HK.out.trans hk4)
            have HBX4 := Lib.hid (hk4.box _ _ _ hne HBX.out)
            have hs4 := hk4.below.size
            have hb4 : b < w4.heap.size := by omega
            clear hbl4 hk4 HC x0 x1 x2 h0 h0' h0''
            obtain ⟨⟨x0, x1, x2⟩, _⟩ := blk3 HBX4.out
            dsimp only [Tm.nm_mk, Tm.st_mk, Tm.ks_mk] at x0 x1 x2
            obtain ⟨u0, u1, u2⟩ := HU.out
            have hbn : Below n₀ w w4 := HK4.out.below.mono hn
            replace u0 := (hbn.cell (p := ⟨tb, _, none⟩) htb).trans u0
            replace u1 := (hbn.cell (p := ⟨tb, _, none⟩) htb).trans u1
            replace u2 := (hbn.cell (p := ⟨tb, _, none⟩) htb).trans u2
            have HC := Lib.hid (HIH.out x HM.out A' c' n₀ _ w4 (HRX.out.later hbn) hn hb4 HOX.out HBL4.out (by
              have := HTL.out
              simp only [List.length_append, List.length_cons, List.length_nil, Tm.nm_mk, Tm.ks_mk]
              rw [HE1.out]
              have e2 : (⟨#[44, 32]⟩ : ByteArray).data.toList.length = 2 := rfl
              omega))
            unfold TV at HC
            clear hbn
            go_wp2_with fail
            refine HC.out.mono ?_
            rintro e w5 ⟨rfl, hbl5, hk5⟩
            have HBL5 := Lib.hid hbl5
            have HK5 := Lib.hid (HK4.out.trans hk5)
            have HBX5 := Lib.hid (hk5.box _ _ _ hne HBX4.out)
            clear hbl5 hk5 HC
            go_wp2_with fail
            go_roundw
            case rel =>
              refine ⟨k + 1, by go_num, hlt, ?_, HK5.out, HBX5.out⟩
              have h := HBL5.out
              dsimp only [Tm.nm_mk, Tm.ks_mk] at h ⊢
              rw [List.take_add_one, HX.out, Option.toList, tmxs_snoc]
              have hne2 : (ks.take k).isEmpty = false := by
                cases hq : ks.take k with
                | nil => exact absurd (by have := congrArg List.length hq; rw [List.length_take] at this; simp only [List.length_nil] at this; omega) HK0.out
                | cons y l => rfl
              rw [hne2]
              simpa using h
            case measure => simp [intOf]; omega
        · have hI : decide ((k : Int) < (ks.length : Int)) = false := decide_eq_false (by omega)
          have hkl : k = ks.length := by omega
          have htl : (tmxs true ks).length ≤ 206 * sizes ks := tmxs_len _ _ (fun y hy => HOK.out.kid hy)
          have HBE : Hid (Bld wr b (xs ++ nm.data.toList ++ [40] ++ tmxs true ks)) := Lib.hid (by
            have h := HBL.out
            dsimp only [Tm.nm_mk, Tm.ks_mk] at h
            rw [hkl, List.take_length] at h
            exact h)
          have HC := Lib.hid (writeString_kp b _ ⟨#[41]⟩ wr HBE.out (by
            simp only [List.length_append, List.length_cons, List.length_nil]
            rw [HE1.out]; show _ + 1 ≤ _; omega))
          clear hkl htl
          go_wp2_with fail
          refine HC.out.mono ?_
          rintro e w9 ⟨rfl, hbl9, hk9⟩
          have HBL9 := Lib.hid hbl9
          have HK9 := Lib.hid (HK.out.trans hk9)
          clear hbl9 hk9 HC
          go_wp2_with fail
          go_end0
          refine ⟨rfl, ?_, HK9.out⟩
          have h := HBL9.out
          rw [HTX.out]
          dsimp only [Tm.nm_mk, Tm.ks_mk]
          simpa using h
    · have HTX := Lib.hid (tmx_v hv)
      clear hv
      have n1 : ¬ 9223372036854775807 < 1 + st.size := by omega
      have HC := Lib.hid (writeString_kp b (xs ++ nm.data.toList) (⟨#[58]⟩ ++ st) w2 HBL2.out (by rw [List.length_append, HE1.out, ByteArray.size_append]; show _ + (1 + st.size) ≤ _; omega))
      go_wp2_with fail
      refine HC.out.mono ?_
      rintro e w3 ⟨rfl, hbl3, hk3⟩
      have HBL3 := Lib.hid hbl3
      have HK3 := Lib.hid (HK2.out.trans hk3)
      clear hbl3 hk3 HC
      go_wp2_with fail
      refine bodyPost_ret (results_none rfl _ _ _) rfl ?_
      refine ⟨rfl, ?_, HK3.out⟩
      have h := HBL3.out
      rw [HTX.out]
      rw [ByteArray.data_append, Array.toList_append] at h
      dsimp only [Tm.nm_mk, Tm.st_mk]
      simpa using h

/-- What Text hands back. -/
def textRes (t : Tm) : Value := if formed t = true then limRes (tmx t) else .tuple #[.string ⟨#[]⟩, .int .i64 1]
set_option maxHeartbeats 2000000 in
theorem Text_any (t : Tm) (A : Option Addr) (c : Nat) (w : World) (hrep : TRep w.heap.size w t A) (hok : okB t) (hsz : t.size ≤ 1100) (hdp : t.depth ≤ 100) :
    Calls Tryd.prog 43 #[TV t A c] w fun e w' => e = .returned (textRes t) ∧ Below w.heap.size w w' := by
  have hB0 : Below w.heap.size w (w.alloc (.cells (tcells t A c) 56)) := (Below.refl _ _).alloc (Nat.le_refl _) _
  have hnew := heap_alloc_new w (.cells (tcells t A c) 56)
  have HREP := Lib.hid hrep
  have HOK := Lib.hid hok
  have HWF := Lib.hid (wellFormed_any t A c (w.alloc (.cells (tcells t A c) 56)) ((hrep.later hB0).mono hB0.size) (hok.okT.mono (by unfold maxLen; omega)) (by omega))
  have HBX0 := Lib.hid hnew
  have HB0 := Lib.hid hB0
  obtain ⟨⟨x0, x1, x2⟩, _⟩ := blk3 hnew
  clear hrep hok hB0 hnew
  unfold TV at HWF
  unfold TV
  go_enter Tryd.func43, Tryd.ntmps43
  go_wp2_with fail
  refine HWF.out.mono ?_
  rintro e w1 ⟨rfl, hb1⟩
  have HB1 := Lib.hid (HB0.out.trans (hb1.mono HB0.out.size))
  have HBX1 := Lib.hid (cells_below HBX0.out hb1)
  have hs1 := HB1.out.size
  have hlt1 : w.heap.size < w1.heap.size := by have := HB0.out.size; have := hb1.size; simp at *; omega
  clear hb1 x0 x1 x2 HWF HBX0 HB0
  cases hf : formed t
  · have HR : Hid (textRes t = .tuple #[.string ⟨#[]⟩, .int .i64 1]) := Lib.hid (by unfold textRes; rw [hf]; rfl)
    clear hf
    go_wp2_with fail
    go_ret2
    exact ⟨by rw [HR.out]; rfl, HB1.out⟩
  · have HR : Hid (textRes t = limRes (tmx t)) := Lib.hid (by unfold textRes; rw [hf]; rfl)
    clear hf
    obtain ⟨B, hB⟩ : ∃ B, w1.heap.size = B + 1 := ⟨w1.heap.size - 1, by omega⟩
    have HBe := Lib.hid hB
    have hB2 : Below w1.heap.size w1 (w1.alloc (.cells #[.pointer none, .slice none 0 0] 46)) := (Below.refl _ _).alloc (Nat.le_refl _) _
    have HBL2 : Hid (Bld (w1.alloc (.cells #[.pointer none, .slice none 0 0] 46)) w1.heap.size []) := Lib.hid ⟨_, _, .inl rfl, heap_alloc_new _ _, World.ownsRow_nil _ _ _ _⟩
    have hbx2 := cells_below HBX1.out hB2
    obtain ⟨⟨x0, x1, x2⟩, _⟩ := blk3 hbx2
    have HB2 := Lib.hid (HB1.out.trans (hB2.mono hs1))
    have HC := Lib.hid (writeTerm_any w1.heap.size t A c w.heap.size [] _ (HREP.out.later HB2.out) hs1 (by simp) HOK.out HBL2.out (by simp; omega))
    unfold TV at HC
    clear hB hB2 hbx2
    go_wp2_with fail
    refine HC.out.mono ?_
    rintro e w3 ⟨rfl, hbl3, hk3⟩
    rw [List.nil_append] at hbl3
    have HB3 := Lib.hid (HB2.out.trans (hk3.below.mono hs1))
    rw [HBe.out] at hbl3
    have HLM := Lib.hid (limited_any B (tmx t) w3 hbl3)
    have hBn : w.heap.size ≤ B := by have := HBe.out; omega
    clear hbl3 hk3 HC x0 x1 x2
    rw [HBe.out]
    clear HBe HB2 HBL2
    go_wp2_with fail
    refine HLM.out.mono ?_
    rintro e w9 ⟨rfl, hb9⟩
    have HB9 := Lib.hid (HB3.out.trans (hb9.mono hBn))
    clear hb9 HLM
    have hr := HR.out
    unfold limRes at hr ⊢
    have HT := Lib.hid hr
    clear hr
    by_cases hbig : 65536 < (tmx t).length
    · rw [if_pos hbig] at HT ⊢
      go_wp2_with fail
      go_ret2
      exact ⟨by rw [HT.out]; rfl, HB9.out⟩
    · rw [if_neg hbig] at HT ⊢
      go_wp2_with fail
      go_ret2
      exact ⟨by rw [HT.out]; rfl, HB9.out⟩
end Go.Proofs.YthbcfcbonmphfaaDoor

/- TermRx: The reference's joined and Text. -/namespace Go.Proofs.YthbcfcbonmphfaaDoor
open Go.RowKit Go.Shelf
set_option maxRecDepth 100000

def txtB (t : Tm) : ByteArray := ⟨(tmx t).toArray⟩
theorem txtB_list (t : Tm) : (txtB t).data.toList = tmx t := by unfold txtB; simp
theorem txtB_size (t : Tm) : (txtB t).size = (tmx t).length := by rw [← size_toList, txtB_list]
theorem joinC_snoc : ∀ (L : List ByteArray) (s : ByteArray), joinC (L ++ [s]) = joinC L ++ ((if L.isEmpty then [] else [44, 32]) ++ s.data.toList)
  | [], s => by simp [joinC]
  | [x], s => by simp [joinC]
  | x :: y :: l, s => by
    rw [List.cons_append, List.cons_append, joinC, ← List.cons_append, joinC_snoc (y :: l) s, joinC]
    simp
theorem tmxs_join : ∀ ks : List Tm, tmxs true ks = joinC (ks.map txtB) := by
  intro ks
  suffices h : ∀ (n : Nat) (ks : List Tm), ks.length = n → tmxs true ks = joinC (ks.map txtB) from h _ ks rfl
  intro n
  induction n with
  | zero => intro ks h; rw [List.eq_nil_of_length_eq_zero h]; rfl
  | succ n ih =>
    intro ks h
    have hne : ks ≠ [] := fun e => by rw [e] at h; cases h
    obtain ⟨l, x, rfl⟩ : ∃ l x, ks = l ++ [x] := ⟨_, _, (List.dropLast_concat_getLast hne).symm⟩
    rw [tmxs_snoc, List.map_append, List.map_cons, List.map_nil, joinC_snoc, ih l (by simp at h; exact h), txtB_list]
    simp
def lens : List ByteArray → Nat
  | [] => 0
  | s :: l => s.size + 2 + lens l
theorem joinC_lens : ∀ L : List ByteArray, (joinC L).length ≤ lens L
  | [] => by simp [joinC, lens]
  | [x] => by have := size_toList x; simp [joinC, lens, this]
  | x :: y :: l => by
    have h := joinC_lens (y :: l)
    have := size_toList x
    simp only [joinC, lens, List.length_append, List.length_cons, List.length_nil] at h ⊢
    omega
theorem lens_at : ∀ (L : List ByteArray) (k : Nat) (x : ByteArray), L[k]? = some x → lens (L.take k) + x.size + 2 ≤ lens L
  | [], k, x, h => by simp at h
  | y :: L, 0, x, h => by simp at h; rw [h]; simp [lens]
  | y :: L, k + 1, x, h => by have := lens_at L k x (by simpa using h); simp [lens]; omega

set_option maxHeartbeats 1000000 in
theorem joined_any (A : Option Addr) (c : Nat) (L : List ByteArray) (n₀ : Nat) (w : World) (hs : SlS n₀ w A L) (hm : lens L ≤ 1000000) (hl : L.length ≤ 1000000) :
    Calls Tryd.prog 93 #[.slice A L.length c] w fun e w' => (∃ js : ByteArray, e = .returned (.string js) ∧ js.data.toList = joinC L) ∧ w' = w := by
  have HS := Lib.hid hs
  clear hs
  go_enter Tryd.func93, Tryd.ntmps93
  go_wp2_with fail
  go_loopw [3, 4] (fun v y wr => ∃ (k : Nat) (js : ByteArray), y = .int .i64 k ∧ v = .string js ∧ k ≤ L.length ∧ js.data.toList = joinC (L.take k) ∧ wr = w) (fun _ y _ => L.length - (intOf y).toNat)
  case atStart => exact ⟨0, ⟨#[]⟩, rfl, rfl, Nat.zero_le _, rfl, rfl⟩
  case round =>
    obtain ⟨k, js, rfl, rfl, hk, hj, rfl⟩ := hrel
    have hjl : js.size ≤ lens (L.take k) := by rw [← size_toList, hj]; exact joinC_lens _
    have HJ := Lib.hid hj
    clear hj
    by_cases hlt : k < L.length
    · obtain ⟨x, hx⟩ : ∃ x, L[k]? = some x := ⟨L[k]'hlt, List.getElem?_eq_getElem _⟩
      obtain ⟨b, off, rfl, hbl, hc⟩ := HS.out (by omega)
      have y := hc k x hx
      have hla := lens_at L k x hx
      have HX := Lib.hid hx
      have hI : (k : Int) < (L.length : Int) := by omega
      have hI' : decide ((k : Int) < (L.length : Int)) = true := decide_eq_true hI
      clear hc hx
      by_cases hk0 : k = 0
      · have h0' : ¬ (0 : Int) < (k : Int) := by omega
        have h0 : decide ((0 : Int) < (k : Int)) = false := decide_eq_false h0'
        have h0'' : ¬ 0 < k := by omega
        have n1 : ¬ 9223372036854775807 < js.size + x.size := by omega
        have HK0 := Lib.hid hk0
        clear hk0
        go_wp2_with fail
        go_roundw
        case rel =>
          refine ⟨k + 1, _, by go_num, rfl, hlt, ?_, by trivial⟩
          have h := HJ.out
          rw [List.take_add_one, HX.out, Option.toList, joinC_snoc, ByteArray.data_append, Array.toList_append, h]
          rw [HK0.out]
          simp
        case measure => simp [intOf]; omega
      · have h0' : (0 : Int) < (k : Int) := by omega
        have h0 : decide ((0 : Int) < (k : Int)) = true := decide_eq_true h0'
        have h0'' : 0 < k := by omega
        have n1 : ¬ 9223372036854775807 < js.size + 2 := by omega
        have n2 : ¬ 9223372036854775807 < js.size + 2 + x.size := by omega
        have HK0 := Lib.hid hk0
        clear hk0
        go_wp2_with fail
        go_roundw
        case rel =>
          refine ⟨k + 1, _, by go_num, rfl, hlt, ?_, by trivial⟩
          have h := HJ.out
          rw [List.take_add_one, HX.out, Option.toList, joinC_snoc, ByteArray.data_append, Array.toList_append, ByteArray.data_append, Array.toList_append, h]
          have hne2 : (L.take k).isEmpty = false := by
            cases hq : L.take k with
            | nil => exact absurd (by have := congrArg List.length hq; rw [List.length_take] at this; simp only [List.length_nil] at this; omega) HK0.out
            | cons y l => rfl
          rw [hne2]
          simp
        case measure => simp [intOf]; omega
    · have hkl : k = L.length := by omega
      have HE : Hid (js.data.toList = joinC L) := Lib.hid (by have := HJ.out; rw [hkl, List.take_length] at this; exact this)
      have hI : ¬ (k : Int) < (L.length : Int) := by omega
      have hI' : decide ((k : Int) < (L.length : Int)) = false := decide_eq_false hI
      clear hkl
      go_wp2_with fail
      go_ret
      exact ⟨⟨_, rfl, HE.out⟩, rfl⟩

theorem joined_eq (A : Option Addr) (c n : Nat) (L : List ByteArray) (J : ByteArray) (n₀ : Nat) (w : World) (hn : L.length = n) (hs : SlS n₀ w A L) (hm : lens L ≤ 1000000) (hl : L.length ≤ 1000000) (hJ : J.data.toList = joinC L) :
    Calls Tryd.prog 93 #[.slice A n c] w fun e w' => e = .returned (.string J) ∧ w' = w := by
  subst hn
  exact (joined_any A c L n₀ w hs hm hl).mono fun e w' ⟨⟨js, he, hj⟩, hw⟩ => ⟨by rw [he, toList_inj (hj.trans hJ.symm)], hw⟩
theorem lens_map : ∀ ks : List Tm, (∀ k, k ∈ ks → okB k) → lens (ks.map txtB) ≤ 206 * sizes ks
  | [], _ => by simp [lens]
  | k :: ks, h => by
    have h1 := tmx_len k (h k (by simp))
    have h2 := lens_map ks (fun x hx => h x (by simp [hx]))
    have h3 := txtB_size k
    simp [lens, sizes]; omega
def RTInv (t : Tm) (A : Option Addr) (c : Nat) (w : World) (k : Nat) (v : Value) (wr : World) : Prop :=
  k ≤ t.ks.length ∧ wr.ownsRow (w.heap.size + 1) 9 1 v k (strsC ((t.ks.take k).map txtB)) ∧ Below w.heap.size w wr ∧ wr.heap[w.heap.size]? = some (.cells (tcells t A c) 56 (0, 0)) ∧ w.heap.size + 1 ≤ wr.heap.size
set_option maxHeartbeats 4000000 in
theorem refText_any (t : Tm) : ∀ (A : Option Addr) (c n₀ : Nat) (w : World), TRep n₀ w t A → n₀ ≤ w.heap.size → okB t → t.size ≤ 1100 →
    Calls Tryd.prog 44 #[TV t A c] w fun e w' => (∃ js : ByteArray, e = .returned (.string js) ∧ js.data.toList = tmx t) ∧ Below w.heap.size w w' := by
  induction t using Tm.ind with
  | h nm st ks ih =>
    intro A c n₀ w hrep hn hok hsz
    obtain ⟨hn1, hn2, hn3⟩ := hok.top
    dsimp only [Tm.nm_mk, Tm.st_mk, Tm.ks_mk] at hn1 hn2 hn3
    have hszs : sizes ks + 1 ≤ 1100 := by rw [Tm.size] at hsz; omega
    have HIH := Lib.hid ih
    have HOK := Lib.hid hok
    have HREP := Lib.hid hrep
    have hbx := heap_alloc_new w (.cells #[.string nm, .string st, .slice A ks.length c] 56)
    have HBX := Lib.hid hbx
    have HB0 := Lib.hid ((Below.refl w.heap.size w).alloc (Nat.le_refl _) (.cells #[.string nm, .string st, .slice A ks.length c] 56))
    obtain ⟨⟨x0, x1, x2⟩, _⟩ := blk3 hbx
    obtain ⟨i0, hi, hz0, hz1, hz2⟩ := info_parts Tryd.infoString
    clear ih hok hrep hbx hsz
    unfold TV
    dsimp only [Tm.nm_mk, Tm.st_mk, Tm.ks_mk]
    by_cases h5 : st.toList.isEmpty = true
    · have e5 : (st.toList == []) = true := by rw [List.isEmpty_iff.1 h5]; rfl
      have HT : Hid (tmx (.mk nm st ks) = nm.data.toList ++ [40] ++ tmxs true ks ++ [41]) := Lib.hid (by rw [tmx, if_pos h5])
      clear h5
      go_enter Tryd.func44, Tryd.ntmps44
      go_wp2_with fail
      clear x0 x1 x2
      go_loopw [3, 4] (fun v y wr => ∃ k : Nat, y = .int .i64 k ∧ RTInv (.mk nm st ks) A c w k v wr) (fun _ y _ => ks.length - (intOf y).toNat)
      case atStart => exact ⟨0, rfl, Nat.zero_le _, World.ownsRow_nil _ _ _ _, HB0.out, HBX.out, by simp⟩
      case round =>
        clear HBX HB0
        obtain ⟨k, rfl, hk, hown, hbw, hbx, hws⟩ := hrel
        have HOWN := Lib.hid hown
        have HB := Lib.hid hbw
        have HBX := Lib.hid hbx
        dsimp only [Tm.ks_mk] at hk
        clear hown hbw hbx
        obtain ⟨⟨x0, x1, x2⟩, _⟩ := blk3 HBX.out
        dsimp only [Tm.nm_mk, Tm.st_mk, Tm.ks_mk] at x0 x1 x2
        by_cases hlt : k < ks.length
        · obtain ⟨x, hx⟩ : ∃ x, ks[k]? = some x := ⟨ks[k]'hlt, List.getElem?_eq_getElem _⟩
          have hmem : x ∈ ks := List.mem_of_getElem? hx
          obtain ⟨tb, tq, A', c', rfl, htb, u0, u1, u2, hrx⟩ := HREP.out.kid (i := k) hx
          have hbn : Below n₀ w wr := HB.out.mono hn
          replace u0 := (hbn.cell (p := ⟨tb, _, none⟩) htb).trans u0
          replace u1 := (hbn.cell (p := ⟨tb, _, none⟩) htb).trans u1
          replace u2 := (hbn.cell (p := ⟨tb, _, none⟩) htb).trans u2
          have hst := sizes_pre ks k x hx
          have HX := Lib.hid hx
          have HC := Lib.hid (HIH.out x hmem A' c' n₀ wr (hrx.later hbn) (by omega) (HOK.out.kid hmem) (by omega))
          have hI : (k : Int) < (ks.length : Int) := by omega
          have hI' : decide ((k : Int) < (ks.length : Int)) = true := decide_eq_true hI
          unfold TV at HC
          clear hx hrx hbn hmem
          go_wp2_with fail
          refine HC.out.mono ?_
          rintro e w3 ⟨⟨js, rfl, hjs⟩, hb3⟩
          have HJ := Lib.hid hjs
          have HB3 := Lib.hid hb3
          have hs3 := hb3.size
          have HO3 := Lib.hid (own_below HOWN.out hb3)
          clear hjs hb3 HC x0 x1 x2 u0 u1 u2
          go_wp2_with (at_builtin; refine wpList_append_own _ rfl (.tmp 21) (.tmp 28) 51 rfl (w.heap.size + 1) 9 i0 _ 1 16 Tryd.underlying51 hi hz0 hz1 hz2 rfl (by decide) _ k _ rfl (HO3.out.alloc _) ⟨w3.heap.size, 0, none⟩ 1 1 [.string js] rfl rfl ?c1 ?c2 ?c3 ?c4 ?c5 ?_)
          case c1 =>
            intro j u hu
            have : j = 0 := by have := (List.getElem?_eq_some_iff.1 hu).1; simpa using this
            subst this
            simp at hu
            subst hu
            simp [Addr.add]
          case c2 => intro u hu; simp at hu; subst hu; rfl
          case c3 => unfold maxLen; omega
          case c4 => omega
          case c5 => simp; omega
          intro v' w4 ho4 hg4 _
          have HO4 := Lib.hid ho4
          have HG4 := Lib.hid hg4
          clear ho4 hg4
          go_wp2
          go_roundw
          case rel =>
            have hs4 := HG4.out.size
            simp at hs4
            have ej : js = txtB x := by
              have := HJ.out
              rw [← txtB_list] at this
              exact toList_inj this
            have et : (ks.take (k + 1)).map txtB = (ks.take k).map txtB ++ [js] := by rw [List.take_add_one, HX.out, List.map_append, ej]; rfl
            have hb4 : Below w.heap.size w w3 := HB.out.trans (HB3.out.mono (by omega))
            refine ⟨k + 1, by go_num, hlt, ?_, ?_, ?_, by omega⟩
            · have := HO4.out
              unfold strsC at this ⊢
              dsimp only [Tm.ks_mk] at this ⊢
              rw [et, List.map_append]
              simpa [List.map_take] using this
            · refine (hb4.alloc (by omega) _).grown HG4.out (by simp; omega) (fun i e => ?_)
              have := (HOWN.out.lt i e).1
              omega
            · have h3 : w3.heap[w.heap.size]? = some (.cells (tcells (.mk nm st ks) (some ⟨tb, tq, none⟩) c) 56 (0, 0)) := (HB3.out.block _ (by omega)).trans HBX.out
              refine (HG4.out.block _ (by simp; omega) (fun e => ?_)).trans ((Below.heap_alloc _ _ _ (by omega)).trans h3)
              have := (HOWN.out.lt _ e.symm).1
              omega
          case measure => simp [intOf]; omega
        · have hkl : k = ks.length := by omega
          have HO : Hid (wr.ownsRow (w.heap.size + 1) 9 1 u3 k (strsC (ks.map txtB))) := Lib.hid (by have h := HOWN.out; dsimp only [Tm.ks_mk] at h; rw [hkl, List.take_length] at h; rw [hkl]; exact h)
          obtain ⟨A2, c2, rfl, hsl, hkn⟩ := slS_own HO.out
          have HSL := Lib.hid hsl
          have hlm := lens_map ks (fun y hy => HOK.out.kid hy)
          have hlen : (ks.map txtB).length ≤ 1000000 := by rw [List.length_map]; omega
          obtain ⟨J, hJ⟩ : ∃ J : ByteArray, J.data.toList = joinC (ks.map txtB) := ⟨⟨(joinC (ks.map txtB)).toArray⟩, by simp⟩
          have hjz : J.size ≤ 226600 := by
            rw [← size_toList, hJ]
            have := joinC_lens (ks.map txtB)
            omega
          have HJ := Lib.hid hJ
          have HLM := Lib.hid (show lens (ks.map txtB) ≤ 1000000 by omega)
          have HLN := Lib.hid hlen
          have HLX := Lib.hid (show (ks.map txtB).length = ks.length from List.length_map _)
          have n1 : ¬ 9223372036854775807 < nm.size + 1 := by omega
          have n2 : ¬ 9223372036854775807 < nm.size + 1 + J.size := by omega
          have n3 : ¬ 9223372036854775807 < nm.size + 1 + J.size + 1 := by omega
          have hI : ¬ (k : Int) < (ks.length : Int) := by omega
          have hI' : decide ((k : Int) < (ks.length : Int)) = false := decide_eq_false hI
          clear hkl hkn hsl hlm hlen hJ
          go_wp2_with fail
          go_quiet ((go_at_call 93; exact Calls.quiet_of_same (joined_eq A2 c2 ks.length (ks.map txtB) J wr.heap.size _ HLX.out HSL.out HLM.out HLN.out HJ.out)))
          go_wp2_with fail
          go_ret
          refine ⟨⟨_, rfl, ?_⟩, below_drewN HB.out _⟩
          rw [HT.out, tmxs_join, ByteArray.data_append, Array.toList_append, ByteArray.data_append, Array.toList_append, ByteArray.data_append, Array.toList_append, HJ.out]
    · have e5 : (st.toList == []) = false := by
        cases hst : st.toList with
        | nil => rw [hst] at h5; exact absurd rfl h5
        | cons a b => rfl
      have HT : Hid (tmx (.mk nm st ks) = nm.data.toList ++ 58 :: st.data.toList) := Lib.hid (by rw [tmx, if_neg h5])
      have n1 : ¬ 9223372036854775807 < nm.size + 1 := by omega
      have n2 : ¬ 9223372036854775807 < nm.size + 1 + st.size := by omega
      clear h5
      go_enter Tryd.func44, Tryd.ntmps44
      go_wp2_with fail
      go_ret
      refine ⟨⟨_, rfl, ?_⟩, HB0.out⟩
      rw [HT.out, ByteArray.data_append, Array.toList_append, ByteArray.data_append, Array.toList_append]
      simp
end Go.Proofs.YthbcfcbonmphfaaDoor
