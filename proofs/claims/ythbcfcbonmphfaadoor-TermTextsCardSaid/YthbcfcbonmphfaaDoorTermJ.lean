/- Comparing two terms: strings.Compare off the shelf, cmp.Or, cmp.Compare, compare. -/
import Derived.Shelf.Small.Strs
import Derived.StillTailTactics
import Derived.Test.YthbcfcbonmphfaaDoorTermD
namespace Go.Proofs.YthbcfcbonmphfaaDoor
open Go.RowKit Go.Shelf
set_option maxRecDepth 100000
attribute [local go_sem] Oper.semAt_some

def Tryd.lays106_ren : Go.Shelf.Ren := ⟨fun | 106 => 124 | 213 => 143 | 265 => 150 | n => n, fun | 9 => 9 | 3 => 3 | n => n, fun | n => n⟩
theorem Tryd.lays106 : Go.Proofs.Lays.n106 Tryd.prog Tryd.lays106_ren := {
  mixed := by kernel_rfl
  f106 := Tryd.func124.trans (congrArg some (by kernel_rfl))
  f213 := Tryd.func143.trans (congrArg some (by kernel_rfl))
  f265 := Tryd.func150.trans (congrArg some (by kernel_rfl))
  t3 := Tryd.underlying3
  a3 := Tryd.isAgg3
  z3 := Tryd.sizeOf3
  v3 := Tryd.zeroValue3
  t9 := Tryd.underlying9
  a9 := Tryd.isAgg9
  z9 := Tryd.sizeOf9
  v9 := Tryd.zeroValue9 }
theorem strCompare_any (a b : ByteArray) (w : World) : Calls Tryd.prog 124 #[.string a, .string b] w fun e w' => e = .returned (.int .i64 (bcmp a b)) ∧ w' = w :=
  Any.strings_Compare Tryd.lays106 a b w

set_option maxHeartbeats 1000000 in
theorem isNaN_any (x : Int) (w : World) : Calls Tryd.prog 144 #[.int .i64 x] w fun e w' => e = .returned (.bool false) ∧ w' = w := by
  have h : (x != x) = false := by simp
  go_enter Tryd.func144, Tryd.ntmps144
  go_wp2_with fail
  go_ret
  exact ⟨rfl, rfl⟩
set_option maxHeartbeats 1000000 in
theorem ccmp_any (a b : Nat) (w : World) : Calls Tryd.prog 125 #[.int .i64 a, .int .i64 b] w fun e w' => e = .returned (.int .i64 (ncmp a b)) ∧ w' = w := by
  by_cases h1 : a < b
  · have hI : (a : Int) < (b : Int) := by omega
    have hn : ncmp a b = -1 := by unfold ncmp; rw [if_pos h1]
    rw [hn]
    clear h1 hn
    go_enter Tryd.func125, Tryd.ntmps125
    go_wp2_with (refine (isNaN_any _ _).mono ?_; rintro e w' ⟨rfl, rfl⟩)
    go_ret
    exact ⟨rfl, rfl⟩
  · by_cases h2 : b < a
    · have hI : ¬ (a : Int) < (b : Int) := by omega
      have hI2 : (b : Int) < (a : Int) := by omega
      have hn : ncmp a b = 1 := by unfold ncmp; rw [if_neg h1, if_pos h2]
      rw [hn]
      clear h1 h2 hn
      go_enter Tryd.func125, Tryd.ntmps125
      go_wp2_with (refine (isNaN_any _ _).mono ?_; rintro e w' ⟨rfl, rfl⟩)
      go_ret
      exact ⟨rfl, rfl⟩
    · have hI : ¬ (a : Int) < (b : Int) := by omega
      have hI2 : ¬ (b : Int) < (a : Int) := by omega
      have hn : ncmp a b = 0 := by unfold ncmp; rw [if_neg h1, if_neg h2]
      rw [hn]
      clear h1 h2 hn
      go_enter Tryd.func125, Tryd.ntmps125
      go_wp2_with (refine (isNaN_any _ _).mono ?_; rintro e w' ⟨rfl, rfl⟩)
      go_ret
      exact ⟨rfl, rfl⟩

def or2 (x y : Int) : Int := if x ≠ 0 then x else y
set_option maxHeartbeats 1000000 in
theorem or_any (b : Nat) (x y : Int) (w : World) (h0 : w.cell? ⟨b, 0, none⟩ = some (.int .i64 x)) (h1 : w.cell? ⟨b, 1, none⟩ = some (.int .i64 y)) :
    Calls Tryd.prog 123 #[.slice (some ⟨b, 0, none⟩) 2 2] w fun e w' => e = .returned (.int .i64 (or2 x y)) ∧ w' = w := by
  have H0 := Lib.hid h0
  have H1 := Lib.hid h1
  clear h0 h1
  go_enter Tryd.func123, Tryd.ntmps123
  go_wp2_with fail
  go_loopw [8] (fun i wr => (i = .int .i64 0 ∨ (i = .int .i64 1 ∧ x = 0) ∨ (i = .int .i64 2 ∧ x = 0 ∧ y = 0)) ∧ wr = w) (fun i _ => 2 - (intOf i).toNat)
  case atStart => exact ⟨.inl rfl, rfl⟩
  case round =>
    obtain ⟨hk, rfl⟩ := hrel
    rcases hk with rfl | ⟨rfl, hx⟩ | ⟨rfl, hx, hy⟩
    · have y0 := H0.out
      by_cases hz : x = 0
      · have HZ := Lib.hid hz
        have hb : (x != 0) = false := by simp [hz]
        clear hz
        go_wp2_with fail
        go_roundw
        case rel => exact ⟨.inr (.inl ⟨rfl, HZ.out⟩), by trivial⟩
        case measure => simp [intOf]
      · have HZ := Lib.hid hz
        have hb : (x != 0) = true := by simp [hz]
        clear hz
        go_wp2_with fail
        go_ret
        exact ⟨by unfold or2; rw [if_pos HZ.out]; rfl, rfl⟩
    · have y0 := H1.out
      have HX := Lib.hid hx
      clear hx
      by_cases hz : y = 0
      · have HZ := Lib.hid hz
        have hb : (y != 0) = false := by simp [hz]
        clear hz
        go_wp2_with fail
        go_roundw
        case rel => exact ⟨.inr (.inr ⟨rfl, HX.out, HZ.out⟩), by trivial⟩
        case measure => simp [intOf]
      · have HZ := Lib.hid hz
        have hb : (y != 0) = true := by simp [hz]
        clear hz
        go_wp2_with fail
        go_ret
        exact ⟨by unfold or2; rw [if_neg (fun h => h HX.out)]; rfl, rfl⟩
    · have HX := Lib.hid hx
      have HY := Lib.hid hy
      clear hx hy
      go_wp2_with fail
      go_ret
      exact ⟨by unfold or2; rw [if_neg (fun h => h HX.out), HY.out]; rfl, rfl⟩

/-! ### what compare says -/
theorem tcmp_vv {a b : Tm} (ha : isV a = true) (hb : isV b = true) : tcmp a b = or2 (bcmp a.nm b.nm) (bcmp a.st b.st) := by
  cases a with
  | mk n s ks =>
    unfold tcmp or2
    have : (!s.toList.isEmpty) = true := ha
    rw [this, hb]; rfl
theorem tcmp_vn {a b : Tm} (ha : isV a = true) (hb : isV b = false) : tcmp a b = -1 := by
  cases a with
  | mk n s ks =>
    unfold tcmp
    have : (!s.toList.isEmpty) = true := ha
    rw [this, hb]; rfl
theorem tcmp_nv {a b : Tm} (ha : isV a = false) (hb : isV b = true) : tcmp a b = 1 := by
  cases a with
  | mk n s ks =>
    unfold tcmp
    have : (!s.toList.isEmpty) = false := ha
    rw [this, hb]; rfl
def hcmp (a b : Tm) : Int := or2 (bcmp a.nm b.nm) (ncmp a.ks.length b.ks.length)
theorem tcmp_nn {a b : Tm} (ha : isV a = false) (hb : isV b = false) : tcmp a b = if hcmp a b ≠ 0 then hcmp a b else tcmps a.ks b.ks := by
  cases a with
  | mk n s ks =>
    unfold tcmp hcmp or2
    have : (!s.toList.isEmpty) = false := ha
    rw [this, hb]
    simp only [Tm.nm_mk, Tm.ks_mk, Bool.false_and, Bool.false_eq_true, if_false]
    by_cases h : bcmp n b.nm = 0
    · simp [h]
    · simp [h]
theorem hcmp_len {a b : Tm} (h : hcmp a b = 0) : a.ks.length = b.ks.length := by
  unfold hcmp or2 at h
  by_cases h1 : bcmp a.nm b.nm = 0
  · rw [if_neg (by simp [h1])] at h
    unfold ncmp at h
    by_cases h2 : a.ks.length < b.ks.length
    · rw [if_pos h2] at h; cases h
    · by_cases h3 : b.ks.length < a.ks.length
      · rw [if_neg h2, if_pos h3] at h; cases h
      · omega
  · rw [if_pos h1] at h; exact absurd h h1
theorem tcmps_at {L M : List Tm} {k : Nat} {x y : Tm} (hx : L[k]? = some x) (hy : M[k]? = some y) : tcmps (L.drop k) (M.drop k) = if tcmp x y ≠ 0 then tcmp x y else tcmps (L.drop (k + 1)) (M.drop (k + 1)) := by
  obtain ⟨h1, e1⟩ := List.getElem?_eq_some_iff.1 hx
  obtain ⟨h2, e2⟩ := List.getElem?_eq_some_iff.1 hy
  rw [List.drop_eq_getElem_cons h1, List.drop_eq_getElem_cons h2, e1, e2, tcmps]

/-- What compare keeps while it runs: the boxes of its two terms. -/
structure CW (w w' : World) (a : Tm) (A : Option Addr) (c : Nat) (b : Tm) (B : Option Addr) (c' : Nat) : Prop where
  below : Below w.heap.size w w'
  ba : w'.heap[w.heap.size]? = some (.cells (tcells a A c) 56 (0, 0))
  bb : w'.heap[w.heap.size + 1]? = some (.cells (tcells b B c') 56 (0, 0))
theorem CW.start (w : World) (a : Tm) (A : Option Addr) (c : Nat) (b : Tm) (B : Option Addr) (c' : Nat) : CW w ((w.alloc (.cells (tcells a A c) 56)).alloc (.cells (tcells b B c') 56)) a A c b B c' :=
  ⟨((Below.refl _ _).alloc (Nat.le_refl _) _).alloc (by simp) _, (Below.heap_alloc _ _ _ (by simp)).trans (heap_alloc_new w _), by
    have := heap_alloc_new (w.alloc (.cells (tcells a A c) 56)) (.cells (tcells b B c') 56)
    simpa using this⟩
theorem CW.next {w w1 w2 : World} {a : Tm} {A : Option Addr} {c : Nat} {b : Tm} {B : Option Addr} {c' : Nat} (h : CW w w1 a A c b B c') (hb : Below w1.heap.size w1 w2) : CW w w2 a A c b B c' :=
  ⟨h.below.trans (hb.mono h.below.size), cells_below h.ba hb, cells_below h.bb hb⟩
theorem CW.drew {w w1 : World} {a : Tm} {A : Option Addr} {c : Nat} {b : Tm} {B : Option Addr} {c' : Nat} (h : CW w w1 a A c b B c') : CW w w1.drew a A c b B c' :=
  ⟨h.below.drew, h.ba, h.bb⟩

def CInv (a b : Tm) (A : Option Addr) (c : Nat) (B : Option Addr) (c' : Nat) (w : World) (cc : Int) (k : Nat) (wr : World) : Prop :=
  k ≤ a.ks.length ∧ (cc = 0 → a.ks.length = b.ks.length) ∧ (cc ≠ 0 → tcmp a b = cc) ∧ (cc = 0 → tcmp a b = tcmps (a.ks.drop k) (b.ks.drop k)) ∧ CW w wr a A c b B c'

set_option maxHeartbeats 2000000 in
theorem compare_any (a : Tm) : ∀ (b : Tm) (A B : Option Addr) (c c' n₀ : Nat) (w : World), TRep n₀ w a A → TRep n₀ w b B → n₀ ≤ w.heap.size → okT maxLen a → okT maxLen b →
    Calls Tryd.prog 84 #[TV a A c, TV b B c'] w fun e w' => e = .returned (.int .i64 (tcmp a b)) ∧ Below w.heap.size w w' := by
  induction a using Tm.ind with
  | h nm st ks ih =>
    intro b A B c c' n₀ w hra hrb hn hoa hob
    have hla : ks.length ≤ 9223372036854775807 := by have := hoa.len; unfold maxLen at this; simpa using this
    have hlb := hob.len
    unfold maxLen at hlb
    have HIH := Lib.hid ih
    have HOA := Lib.hid hoa
    have HOB := Lib.hid hob
    have HRA := Lib.hid hra
    have HRB := Lib.hid hrb
    have HC0 := Lib.hid (CW.start w (.mk nm st ks) A c b B c')
    clear ih hoa hob hra hrb
    have HEA : Hid (TV (.mk nm st ks) A c = .agg #[.string nm, .string st, .slice A ks.length c]) := rfl
    generalize hva : isV (Tm.mk nm st ks) = va
    generalize hvb : isV b = vb
    unfold TV
    dsimp only [Tm.nm_mk, Tm.st_mk, Tm.ks_mk]
    cases va
    · cases vb
      · have HT := Lib.hid (tcmp_nn hva hvb)
        go_enter Tryd.func84, Tryd.ntmps84
        go_wp2_with fail
        refine (isVariable_any (.mk nm st ks) A c _).mono ?_
        rintro e w1 ⟨rfl, hb1⟩
        rw [hva]
        have HC1 := Lib.hid (HC0.out.next hb1)
        obtain ⟨⟨x0, x1, x2⟩, _⟩ := blk3 HC1.out.ba
        obtain ⟨⟨y0, y1, y2⟩, _⟩ := blk3 HC1.out.bb
        dsimp only [Tm.nm_mk, Tm.st_mk, Tm.ks_mk] at x0 x1 x2
        clear hb1
        go_wp2_with fail
        clear x0 x1 x2 y0 y1 y2
        refine (isVariable_any (.mk nm st ks) A c _).mono ?_
        rintro e w2 ⟨rfl, hb2⟩
        rw [hva]
        have HC2 := Lib.hid (HC1.out.next hb2)
        obtain ⟨⟨x0, x1, x2⟩, _⟩ := blk3 HC2.out.ba
        obtain ⟨⟨y0, y1, y2⟩, _⟩ := blk3 HC2.out.bb
        dsimp only [Tm.nm_mk, Tm.st_mk, Tm.ks_mk] at x0 x1 x2
        clear hb2
        go_wp2_with fail
        clear x0 x1 x2 y0 y1 y2
        refine (isVariable_any b B c' _).mono ?_
        rintro e w3 ⟨rfl, hb3⟩
        rw [hvb]
        have HC3 := Lib.hid (HC2.out.next hb3)
        obtain ⟨⟨x0, x1, x2⟩, _⟩ := blk3 HC3.out.ba
        obtain ⟨⟨y0, y1, y2⟩, _⟩ := blk3 HC3.out.bb
        dsimp only [Tm.nm_mk, Tm.st_mk, Tm.ks_mk] at x0 x1 x2
        clear hb3
        go_wp2_with fail
        go_still_tail 12, (by kernel_rfl)
        still_call (strCompare_any nm b.nm _)
        repeat still_step
        still_call (ccmp_any ks.length b.ks.length _)
        refine wpStill_nil ?_
        change wpList _ _ _ _ _ w3.drew
        go_wp2_with fail
        refine (or_any _ (bcmp nm b.nm) (ncmp ks.length b.ks.length) _ (by simp) (by simp)).mono ?_
        rintro e w4 ⟨rfl, rfl⟩
        clear x0 x1 x2 y0 y1 y2
        go_wp2_with fail
        go_loopw [5, 6] (fun x y wr => ∃ (cc : Int) (k : Nat), x = .int .i64 cc ∧ y = .int .i64 k ∧ CInv (.mk nm st ks) b A c B c' w cc k wr) (fun _ y _ => ks.length - (intOf y).toNat)
        case atStart =>
          refine ⟨hcmp (.mk nm st ks) b, 0, rfl, rfl, Nat.zero_le _, fun h => hcmp_len h, fun h => by rw [HT.out, if_pos h], fun h => by rw [HT.out, if_neg (fun h' => h' h)]; rfl, ?_⟩
          have h := HC3.out
          exact (h.next ((Below.refl _ _).alloc (Nat.le_refl _) _)).drew
        case round =>
          clear HC1 HC2 HC3 HC0
          obtain ⟨cc, k, rfl, rfl, hk, hlen, hne, heq, hcw⟩ := hrel
          have HLEN := Lib.hid hlen
          have HNE := Lib.hid hne
          have HEQ := Lib.hid heq
          have HCW := Lib.hid hcw
          clear hlen hne heq hcw
          dsimp only [Tm.ks_mk] at hk
          obtain ⟨⟨x0, x1, x2⟩, _⟩ := blk3 HCW.out.ba
          obtain ⟨⟨y0, y1, y2⟩, _⟩ := blk3 HCW.out.bb
          dsimp only [Tm.nm_mk, Tm.st_mk, Tm.ks_mk] at x0 x1 x2
          by_cases hcc : cc = 0
          · subst hcc
            have HL0 := Lib.hid (HLEN.out rfl)
            have HE0 := Lib.hid (HEQ.out rfl)
            clear HLEN HEQ HNE
            by_cases hlt : k < ks.length
            · have hlb2 : k < b.ks.length := by have := HL0.out; dsimp only [Tm.ks_mk] at this; omega
              obtain ⟨x, hx⟩ : ∃ x, ks[k]? = some x := ⟨ks[k]'hlt, List.getElem?_eq_getElem _⟩
              obtain ⟨y, hy⟩ : ∃ y, b.ks[k]? = some y := ⟨b.ks[k]'hlb2, List.getElem?_eq_getElem _⟩
              obtain ⟨ab, ao, A1, c1, rfl, hab, u0, u1, u2, hra⟩ := HRA.out.kid (i := k) hx
              obtain ⟨bb, bo, B1, d1, rfl, hbb, v0, v1, v2, hrb⟩ := HRB.out.kid (i := k) hy
              have hbw := HCW.out.below
              have hbn := hbw.mono hn
              replace u0 := (hbn.cell (p := ⟨ab, _, none⟩) hab).trans u0
              replace u1 := (hbn.cell (p := ⟨ab, _, none⟩) hab).trans u1
              replace u2 := (hbn.cell (p := ⟨ab, _, none⟩) hab).trans u2
              replace v0 := (hbn.cell (p := ⟨bb, _, none⟩) hbb).trans v0
              replace v1 := (hbn.cell (p := ⟨bb, _, none⟩) hbb).trans v1
              replace v2 := (hbn.cell (p := ⟨bb, _, none⟩) hbb).trans v2
              have hsz := hbw.size
              have HC := Lib.hid (HIH.out x (List.mem_of_getElem? hx) y A1 B1 c1 d1 n₀ wr.drew (hra.later hbn.drew) (hrb.later hbn.drew) (by simp; omega) (HOA.out.kid (List.mem_of_getElem? hx)) (HOB.out.kid (List.mem_of_getElem? hy)))
              have HX := Lib.hid hx
              have HY := Lib.hid hy
              have hI : (k : Int) < (ks.length : Int) := by omega
              have hI2 : (k : Int) < (b.ks.length : Int) := by omega
              have hI3 : decide ((k : Int) < (ks.length : Int)) = true := decide_eq_true hI
              clear hx hy hra hrb hbw hbn
              go_wp2_with fail
              go_still_tail 10, (by kernel_rfl)
              change wpList _ _ _ _ _ wr.drew
              go_wp2_with fail
              refine HC.out.mono ?_
              rintro e w5 ⟨rfl, hb5⟩
              have HB5 := Lib.hid hb5
              clear hb5 HC
              go_wp2
              go_roundw
              case rel =>
                refine ⟨tcmp x y, k + 1, rfl, by go_num, ?_, fun _ => HL0.out, fun h => ?_, fun h => ?_, HCW.out.drew.next HB5.out⟩
                · dsimp only [Tm.ks_mk]; omega
                · rw [HE0.out]; dsimp only [Tm.ks_mk]; rw [tcmps_at HX.out HY.out, if_pos h]
                · rw [HE0.out]; dsimp only [Tm.ks_mk]; rw [tcmps_at HX.out HY.out, if_neg (fun h' => h' h)]
              case measure => simp [intOf]; omega
            · have hI3 : decide ((k : Int) < (ks.length : Int)) = false := decide_eq_false (by omega)
              have hkl : k = ks.length := by omega
              go_wp2_with fail
              go_ret
              exact ⟨by
                rw [HE0.out]; dsimp only [Tm.ks_mk]
                rw [hkl, List.drop_length]; rfl, HCW.out.below⟩
          · have hb : (cc == 0) = false := by simp [hcc]
            have HCC := Lib.hid hcc
            clear hcc
            go_wp2_with fail
            go_ret
            exact ⟨by rw [HNE.out HCC.out]; rfl, HCW.out.below⟩
      · have hT := tcmp_nv hva hvb
        rw [hT]
        go_enter Tryd.func84, Tryd.ntmps84
        go_wp2_with fail
        refine (isVariable_any (.mk nm st ks) A c _).mono ?_
        rintro e w1 ⟨rfl, hb1⟩
        rw [hva]
        have HC1 := Lib.hid (HC0.out.next hb1)
        obtain ⟨⟨x0, x1, x2⟩, _⟩ := blk3 HC1.out.ba
        obtain ⟨⟨y0, y1, y2⟩, _⟩ := blk3 HC1.out.bb
        dsimp only [Tm.nm_mk, Tm.st_mk, Tm.ks_mk] at x0 x1 x2
        clear hb1
        go_wp2_with fail
        clear x0 x1 x2 y0 y1 y2
        refine (isVariable_any (.mk nm st ks) A c _).mono ?_
        rintro e w2 ⟨rfl, hb2⟩
        rw [hva]
        have HC2 := Lib.hid (HC1.out.next hb2)
        obtain ⟨⟨x0, x1, x2⟩, _⟩ := blk3 HC2.out.ba
        obtain ⟨⟨y0, y1, y2⟩, _⟩ := blk3 HC2.out.bb
        dsimp only [Tm.nm_mk, Tm.st_mk, Tm.ks_mk] at x0 x1 x2
        clear hb2
        go_wp2_with fail
        clear x0 x1 x2 y0 y1 y2
        refine (isVariable_any b B c' _).mono ?_
        rintro e w3 ⟨rfl, hb3⟩
        rw [hvb]
        have HC3 := Lib.hid (HC2.out.next hb3)
        obtain ⟨⟨x0, x1, x2⟩, _⟩ := blk3 HC3.out.ba
        obtain ⟨⟨y0, y1, y2⟩, _⟩ := blk3 HC3.out.bb
        dsimp only [Tm.nm_mk, Tm.st_mk, Tm.ks_mk] at x0 x1 x2
        clear hb3
        go_wp2_with fail
        go_ret
        exact ⟨rfl, HC3.out.below⟩
    · cases vb
      · have hT := tcmp_vn hva hvb
        rw [hT]
        go_enter Tryd.func84, Tryd.ntmps84
        go_wp2_with fail
        refine (isVariable_any (.mk nm st ks) A c _).mono ?_
        rintro e w1 ⟨rfl, hb1⟩
        rw [hva]
        have HC1 := Lib.hid (HC0.out.next hb1)
        obtain ⟨⟨x0, x1, x2⟩, _⟩ := blk3 HC1.out.ba
        obtain ⟨⟨y0, y1, y2⟩, _⟩ := blk3 HC1.out.bb
        dsimp only [Tm.nm_mk, Tm.st_mk, Tm.ks_mk] at x0 x1 x2
        clear hb1
        go_wp2_with fail
        clear x0 x1 x2 y0 y1 y2
        refine (isVariable_any b B c' _).mono ?_
        rintro e w2 ⟨rfl, hb2⟩
        rw [hvb]
        have HC2 := Lib.hid (HC1.out.next hb2)
        obtain ⟨⟨x0, x1, x2⟩, _⟩ := blk3 HC2.out.ba
        obtain ⟨⟨y0, y1, y2⟩, _⟩ := blk3 HC2.out.bb
        dsimp only [Tm.nm_mk, Tm.st_mk, Tm.ks_mk] at x0 x1 x2
        clear hb2
        go_wp2_with fail
        clear x0 x1 x2 y0 y1 y2
        refine (isVariable_any (.mk nm st ks) A c _).mono ?_
        rintro e w3 ⟨rfl, hb3⟩
        rw [hva]
        have HC3 := Lib.hid (HC2.out.next hb3)
        obtain ⟨⟨x0, x1, x2⟩, _⟩ := blk3 HC3.out.ba
        obtain ⟨⟨y0, y1, y2⟩, _⟩ := blk3 HC3.out.bb
        dsimp only [Tm.nm_mk, Tm.st_mk, Tm.ks_mk] at x0 x1 x2
        clear hb3
        go_wp2_with fail
        go_ret
        exact ⟨rfl, HC3.out.below⟩
      · have hT := tcmp_vv hva hvb
        rw [hT]
        go_enter Tryd.func84, Tryd.ntmps84
        go_wp2_with fail
        refine (isVariable_any (.mk nm st ks) A c _).mono ?_
        rintro e w1 ⟨rfl, hb1⟩
        rw [hva]
        have HC1 := Lib.hid (HC0.out.next hb1)
        obtain ⟨⟨x0, x1, x2⟩, _⟩ := blk3 HC1.out.ba
        obtain ⟨⟨y0, y1, y2⟩, _⟩ := blk3 HC1.out.bb
        dsimp only [Tm.nm_mk, Tm.st_mk, Tm.ks_mk] at x0 x1 x2
        clear hb1
        go_wp2_with fail
        clear x0 x1 x2 y0 y1 y2
        refine (isVariable_any b B c' _).mono ?_
        rintro e w2 ⟨rfl, hb2⟩
        rw [hvb]
        have HC2 := Lib.hid (HC1.out.next hb2)
        obtain ⟨⟨x0, x1, x2⟩, _⟩ := blk3 HC2.out.ba
        obtain ⟨⟨y0, y1, y2⟩, _⟩ := blk3 HC2.out.bb
        dsimp only [Tm.nm_mk, Tm.st_mk, Tm.ks_mk] at x0 x1 x2
        clear hb2
        go_wp2_with fail
        go_still_tail 10, (by kernel_rfl)
        still_call (strCompare_any nm b.nm _)
        repeat still_step
        still_call (strCompare_any st b.st _)
        refine wpStill_nil ?_
        change wpList _ _ _ _ _ w2.drew
        go_wp2_with fail
        refine (or_any _ (bcmp nm b.nm) (bcmp st b.st) _ (by simp) (by simp)).mono ?_
        rintro e w4 ⟨rfl, rfl⟩
        go_wp2_with fail
        go_ret
        exact ⟨rfl, by
          have h := HC2.out.below
          exact (h.alloc h.size _).drew⟩

/-- What Compare hands back. -/
def cmpRes (a b : Tm) : Value := if formed a && formed b then .tuple #[.int .i64 (tcmp a b), .int .i64 0] else .tuple #[.int .i64 0, .int .i64 1]
set_option maxHeartbeats 1000000 in
theorem Compare_any (a b : Tm) (A B : Option Addr) (c c' : Nat) (w : World) (hra : TRep w.heap.size w a A) (hrb : TRep w.heap.size w b B) (hoa : okT maxLen a) (hob : okT maxLen b) (hda : a.depth ≤ 140737488355326) (hdb : b.depth ≤ 140737488355326) :
    Calls Tryd.prog 39 #[TV a A c, TV b B c'] w fun e w' => e = .returned (cmpRes a b) ∧ Below w.heap.size w w' := by
  have HRA := Lib.hid hra
  have HRB := Lib.hid hrb
  have HOA := Lib.hid hoa
  have HOB := Lib.hid hob
  have HC0 := Lib.hid (CW.start w a A c b B c')
  clear hra hrb hoa hob
  unfold cmpRes
  generalize hfa : formed a = fa
  generalize hfb : formed b = fb
  unfold TV
  go_enter Tryd.func39, Tryd.ntmps39
  go_wp2_with fail
  refine (wellFormed_any a A c _ ((HRA.out.later HC0.out.below).mono HC0.out.below.size) HOA.out hda).mono ?_
  rintro e w1 ⟨rfl, hb1⟩
  rw [hfa]
  have HC1 := Lib.hid (HC0.out.next hb1)
  obtain ⟨⟨x0, x1, x2⟩, _⟩ := blk3 HC1.out.ba
  obtain ⟨⟨y0, y1, y2⟩, _⟩ := blk3 HC1.out.bb
  clear hb1
  cases fa
  · go_wp2_with fail
    go_ret2
    exact ⟨rfl, HC1.out.below⟩
  · go_wp2_with fail
    clear x0 x1 x2 y0 y1 y2
    refine (wellFormed_any b B c' _ ((HRB.out.later HC1.out.below).mono HC1.out.below.size) HOB.out hdb).mono ?_
    rintro e w2 ⟨rfl, hb2⟩
    rw [hfb]
    have HC2 := Lib.hid (HC1.out.next hb2)
    obtain ⟨⟨x0, x1, x2⟩, _⟩ := blk3 HC2.out.ba
    obtain ⟨⟨y0, y1, y2⟩, _⟩ := blk3 HC2.out.bb
    clear hb2
    cases fb
    · go_wp2_with fail
      go_ret2
      exact ⟨rfl, HC2.out.below⟩
    · go_wp2_with fail
      clear x0 x1 x2 y0 y1 y2
      refine (compare_any a b A B c c' w.heap.size _ (HRA.out.later HC2.out.below) (HRB.out.later HC2.out.below) HC2.out.below.size HOA.out HOB.out).mono ?_
      rintro e w3 ⟨rfl, hb3⟩
      have HC3 := Lib.hid (HC2.out.next hb3)
      clear hb3
      go_wp2_with fail
      go_ret2
      exact ⟨rfl, HC3.out.below⟩
end Go.Proofs.YthbcfcbonmphfaaDoor
