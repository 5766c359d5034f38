/- Comparing two terms: strings.Compare off the shelf, cmp.Or, cmp.Compare, compare. -/
import Derived.StillTailTactics
import Derived.Laws.EntriesVeiled
import Derived.IntWalk
import Derived.Deep.DeepCutAuto
import Derived.Deep.CutBlock
import Derived.Test.YthbcfcbonmphfaaDoorJoinSBundle
import Derived.Shelf.Small.Strs
import Derived.Test.YthbcfcbonmphfaaDoorTermDBundle
/- big. -/
namespace Go.Proofs.YthbcfcbonmphfaaDoor
open Go.RowKit Go.Shelf
set_option maxRecDepth 100000

mutual
/-- What is left after the nodes of a term at a depth. -/
def wk : Tm → Int → Int → Int
  | .mk n s ks, d, left => wks ks (d - 1) (if d = 0 ∨ 100 < n.size ∨ 100 < s.size ∨ 40 < ks.length then -1 else left - 1)
def wks : List Tm → Int → Int → Int
  | [], _, left => left
  | k :: ks, d, left => if 0 ≤ left then wks ks d (wk k d left) else left
end
mutual
theorem wk_bd : ∀ (t : Tm) (d left : Int), 0 ≤ left → -1 ≤ wk t d left ∧ wk t d left ≤ left - 1
  | .mk n s ks, d, left, h => by
    unfold wk
    by_cases hc : d = 0 ∨ 100 < n.size ∨ 100 < s.size ∨ 40 < ks.length
    · rw [if_pos hc]
      have := wks_bd ks (d - 1) (-1) (by omega)
      omega
    · rw [if_neg hc]
      exact wks_bd ks (d - 1) (left - 1) (by omega)
theorem wks_bd : ∀ (ks : List Tm) (d left : Int), -1 ≤ left → -1 ≤ wks ks d left ∧ wks ks d left ≤ left
  | [], d, left, h => by unfold wks; omega
  | k :: ks, d, left, h => by
    unfold wks
    by_cases hl : 0 ≤ left
    · rw [if_pos hl]
      have h1 := wk_bd k d left hl
      have h2 := wks_bd ks d (wk k d left) h1.1
      omega
    · rw [if_neg hl]; omega
end
theorem wks_at {L : List Tm} {k : Nat} {x : Tm} (hx : L[k]? = some x) (d left : Int) : wks (L.drop k) d left = if 0 ≤ left then wks (L.drop (k + 1)) d (wk x d left) else left := by
  obtain ⟨h1, e1⟩ := List.getElem?_eq_some_iff.1 hx
  rw [List.drop_eq_getElem_cons h1, e1, wks]
theorem wk_good {n s : ByteArray} {ks : List Tm} {d left : Int} (h : ¬ (d = 0 ∨ 100 < n.size ∨ 100 < s.size ∨ 40 < ks.length)) : wk (.mk n s ks) d left = wks ks (d - 1) (left - 1) := by
  rw [wk, if_neg h]
theorem wks_neg (L : List Tm) (d left : Int) (h : left < 0) : wks L d left = left := by
  cases L with
  | nil => rfl
  | cons k ks => rw [wks, if_neg (by omega)]

theorem wk_bad {n s : ByteArray} {ks : List Tm} {d left : Int} (h : d = 0 ∨ 100 < n.size ∨ 100 < s.size ∨ 40 < ks.length) : wk (.mk n s ks) d left = -1 := by
  rw [wk, if_pos h]
  exact wks_neg ks _ _ (by decide)
def walkV (P Q : Nat) : Value := .func (.func 75) #[] #[.pointer (some ⟨P, 0, none⟩), .pointer (some ⟨Q, 0, none⟩)]
/-- The boxes of big: how many are left; the function itself. -/
structure BG (w : World) (P Q : Nat) (left : Int) : Prop where
  p : Boxed w P 3 (.int .i64 left)
  q : Boxed w Q 113 (walkV P Q)
  ne : P ≠ Q
def WPost (P Q : Nat) (t : Tm) (d left : Int) (w : World) (e : Ending) (w' : World) : Prop := e = .returned (.tuple #[]) ∧ BG w' P Q (wk t d left) ∧ w.grownBy w' (some P)
def WInv (P Q : Nat) (ks : List Tm) (t : Tm) (A : Option Addr) (c : Nat) (d L2 : Int) (w : World) (k : Nat) (wr : World) : Prop :=
  ∃ left : Int, k ≤ ks.length ∧ BG wr P Q left ∧ wr.heap[w.heap.size]? = some (.cells (tcells t A c) 56 (0, 0)) ∧ w.grownBy wr (some P) ∧ wks ks (d - 1) L2 = wks (ks.drop k) (d - 1) left ∧ -1001 ≤ left ∧ left ≤ 1100
theorem bgrown_below {w w' : World} {P n : Nat} (h : w.grownBy w' (some P)) (hn : n ≤ P) (hs : n ≤ w.heap.size) : Below n w w' := (Below.refl n w).grown h hs (fun k e => by cases e; exact hn)
theorem bgrown_block {w1 w2 : World} {P : Nat} {o : Obj} {b : Nat} (h : w1.heap[b]? = some o) (hg : w1.grownBy w2 (some P)) (hP : b ≠ P) : w2.heap[b]? = some o :=
  (hg.block b (Array.getElem?_eq_some_iff.1 h).1 (fun e => hP (by injection e))).trans h
theorem BG.set {w : World} {P Q : Nat} {left : Int} (h : BG w P Q left) (l : Int) : BG (w.setCell ⟨P, 0, none⟩ (.int .i64 l)) P Q l := ⟨h.p.set _, h.q.other (fun e => h.ne e.symm) _, h.ne⟩
theorem BG.alloc {w : World} {P Q : Nat} {left : Int} (h : BG w P Q left) (o : Obj) : BG (w.alloc o) P Q left := ⟨h.p.alloc o, h.q.alloc o, h.ne⟩
theorem grown_set {w w' : World} {P : Nat} (h : w.grownBy w' (some P)) (v : Value) : w.grownBy (w'.setCell ⟨P, 0, none⟩ v) (some P) :=
  ⟨h.os, h.tape, h.output, by simpa using h.size, fun k hk hne => (Below.heap_setCell _ _ _ _ (fun e => hne (by rw [e]))).trans (h.block k hk hne)⟩

set_option maxHeartbeats 4000000 in
theorem walk_any (P Q : Nat) (t : Tm) : ∀ (A : Option Addr) (c n₀ : Nat) (d left : Int) (w : World), TRep n₀ w t A → n₀ ≤ P → okT maxLen t → BG w P Q left → 0 ≤ d → d ≤ 80 → -1000 ≤ left → left ≤ 1100 →
    Calls Tryd.prog 75 #[TV t A c, .int .i64 d, .pointer (some ⟨P, 0, none⟩), .pointer (some ⟨Q, 0, none⟩)] w (WPost P Q t d left w) := by
  induction t using Tm.ind with
  | h nm st ks ih =>
    intro A c n₀ d left w hrep hn hok hbg hd0 hd1 hl0 hl1
    have hln := hok.nm
    have hls := hok.st
    have hlk := hok.len
    unfold maxLen at hln hls hlk
    dsimp only [Tm.nm_mk, Tm.st_mk, Tm.ks_mk] at hln hls hlk
    have HIH := Lib.hid ih
    have HOK := Lib.hid hok
    have HREP := Lib.hid hrep
    have hPw := hbg.p.lt
    have hQw := hbg.q.lt
    have HNE := Lib.hid hbg.ne
    have c0 := hbg.p.cell
    have f0 := hbg.p.frozen
    have HBG := Lib.hid hbg
    have hw1 : IntKind.i64.wrap (left - 1) = left - 1 := IntWalk.i64_in _ (by omega)
    clear ih hok hrep hbg
    unfold TV
    dsimp only [Tm.nm_mk, Tm.st_mk, Tm.ks_mk]
    go_enter Tryd.func75, Tryd.ntmps75
    go_upto_region 2 with fail
    have hbg1 : BG ((w.setCell ⟨P, 0, none⟩ (.int .i64 (left - 1))).alloc (.cells #[.string nm, .string st, .slice A ks.length c] 56)) P Q (left - 1) := (HBG.out.set _).alloc _
    have hbx : ((w.setCell ⟨P, 0, none⟩ (.int .i64 (left - 1))).alloc (.cells #[.string nm, .string st, .slice A ks.length c] 56)).heap[w.heap.size]? = some (.cells #[.string nm, .string st, .slice A ks.length c] 56 (0, 0)) := by
      have := heap_alloc_new (w.setCell ⟨P, 0, none⟩ (.int .i64 (left - 1))) (.cells #[.string nm, .string st, .slice A ks.length c] 56)
      simpa using this
    have hg1 : w.grownBy ((w.setCell ⟨P, 0, none⟩ (.int .i64 (left - 1))).alloc (.cells #[.string nm, .string st, .slice A ks.length c] 56)) (some P) := only_alloc (grownBy_setCell' w P _) _
    generalize ((w.setCell ⟨P, 0, none⟩ (.int .i64 (left - 1))).alloc (.cells #[.string nm, .string st, .slice A ks.length c] 56)) = W1 at hbg1 hbx hg1 ⊢
    clear c0 f0
    have c0 := hbg1.p.cell
    have f0 := hbg1.p.frozen
    obtain ⟨⟨x0, x1, x2⟩, _⟩ := blk3 hbx
    have HBG1 := Lib.hid hbg1
    have HBX := Lib.hid hbx
    have HG1 := Lib.hid hg1
    have hs1 := hg1.size
    clear hbg1 hbx hg1
    by_cases h1 : d = 0
    · have e1 : (d == 0) = true := by rw [h1]; rfl
      have HT := Lib.hid (wk_bad (ks := ks) (left := left) (show d = 0 ∨ 100 < nm.size ∨ 100 < st.size ∨ 40 < ks.length from Or.inl h1))
      go_wp2_with fail
      go_loopw [6] (fun y wr => y = .int .i64 0 ∧ wr = W1.setCell ⟨P, 0, none⟩ (.int .i64 (-1))) (fun _ _ => 0)
      case atStart => exact ⟨rfl, rfl⟩
      case round =>
        obtain ⟨rfl, rfl⟩ := hrel
        have hb2 := HBG1.out.set (-1)
        have c1 := hb2.p.cell
        have HB2 := Lib.hid hb2
        have x2' := (blk3 ((Below.heap_setCell W1 ⟨P, 0, none⟩ (.int .i64 (-1)) _ (show w.heap.size ≠ P by omega)).trans HBX.out)).1.2.2
        clear hb2 x0 x1 x2
        by_cases hk0 : 0 < ks.length
        · have hI : decide ((0 : Int) < (ks.length : Int)) = true := decide_eq_true (by omega)
          go_wp2_with fail
          go_end0
          exact ⟨rfl, by rw [HT.out]; exact HB2.out, grown_set HG1.out _⟩
        · have hI : decide ((0 : Int) < (ks.length : Int)) = false := decide_eq_false (by omega)
          go_wp2_with fail
          go_end0
          exact ⟨rfl, by rw [HT.out]; exact HB2.out, grown_set HG1.out _⟩
    have e1 : (d == 0) = false := beq_eq_false_iff_ne.2 h1
    by_cases h2 : 100 < nm.size
    · have e2 : decide ((100 : Int) < (nm.size : Int)) = true := decide_eq_true (by omega)
      have HT := Lib.hid (wk_bad (ks := ks) (left := left) (show d = 0 ∨ 100 < nm.size ∨ 100 < st.size ∨ 40 < ks.length from Or.inr (Or.inl h2)))
      go_wp2_with fail
      go_loopw [6] (fun y wr => y = .int .i64 0 ∧ wr = W1.setCell ⟨P, 0, none⟩ (.int .i64 (-1))) (fun _ _ => 0)
      case atStart => exact ⟨rfl, rfl⟩
      case round =>
        obtain ⟨rfl, rfl⟩ := hrel
        have hb2 := HBG1.out.set (-1)
        have c1 := hb2.p.cell
        have HB2 := Lib.hid hb2
        have x2' := (blk3 ((Below.heap_setCell W1 ⟨P, 0, none⟩ (.int .i64 (-1)) _ (show w.heap.size ≠ P by omega)).trans HBX.out)).1.2.2
        clear hb2 x0 x1 x2
        by_cases hk0 : 0 < ks.length
        · have hI : decide ((0 : Int) < (ks.length : Int)) = true := decide_eq_true (by omega)
          go_wp2_with fail
          go_end0
          exact ⟨rfl, by rw [HT.out]; exact HB2.out, grown_set HG1.out _⟩
        · have hI : decide ((0 : Int) < (ks.length : Int)) = false := decide_eq_false (by omega)
          go_wp2_with fail
          go_end0
          exact ⟨rfl, by rw [HT.out]; exact HB2.out, grown_set HG1.out _⟩
    have e2 : decide ((100 : Int) < (nm.size : Int)) = false := decide_eq_false (by omega)
    by_cases h3 : 100 < st.size
    · have e3 : decide ((100 : Int) < (st.size : Int)) = true := decide_eq_true (by omega)
      have HT := Lib.hid (wk_bad (ks := ks) (left := left) (show d = 0 ∨ 100 < nm.size ∨ 100 < st.size ∨ 40 < ks.length from Or.inr (Or.inr (Or.inl h3))))
      go_wp2_with fail
      go_loopw [6] (fun y wr => y = .int .i64 0 ∧ wr = W1.setCell ⟨P, 0, none⟩ (.int .i64 (-1))) (fun _ _ => 0)
      case atStart => exact ⟨rfl, rfl⟩
      case round =>
        obtain ⟨rfl, rfl⟩ := hrel
        have hb2 := HBG1.out.set (-1)
        have c1 := hb2.p.cell
        have HB2 := Lib.hid hb2
        have x2' := (blk3 ((Below.heap_setCell W1 ⟨P, 0, none⟩ (.int .i64 (-1)) _ (show w.heap.size ≠ P by omega)).trans HBX.out)).1.2.2
        clear hb2 x0 x1 x2
        by_cases hk0 : 0 < ks.length
        · have hI : decide ((0 : Int) < (ks.length : Int)) = true := decide_eq_true (by omega)
          go_wp2_with fail
          go_end0
          exact ⟨rfl, by rw [HT.out]; exact HB2.out, grown_set HG1.out _⟩
        · have hI : decide ((0 : Int) < (ks.length : Int)) = false := decide_eq_false (by omega)
          go_wp2_with fail
          go_end0
          exact ⟨rfl, by rw [HT.out]; exact HB2.out, grown_set HG1.out _⟩
    have e3 : decide ((100 : Int) < (st.size : Int)) = false := decide_eq_false (by omega)
    by_cases h4 : 40 < ks.length
    · have e4 : decide ((40 : Int) < (ks.length : Int)) = true := decide_eq_true (by omega)
      have HT := Lib.hid (wk_bad (ks := ks) (left := left) (show d = 0 ∨ 100 < nm.size ∨ 100 < st.size ∨ 40 < ks.length from Or.inr (Or.inr (Or.inr h4))))
      go_wp2_with fail
      go_loopw [6] (fun y wr => y = .int .i64 0 ∧ wr = W1.setCell ⟨P, 0, none⟩ (.int .i64 (-1))) (fun _ _ => 0)
      case atStart => exact ⟨rfl, rfl⟩
      case round =>
        obtain ⟨rfl, rfl⟩ := hrel
        have hb2 := HBG1.out.set (-1)
        have c1 := hb2.p.cell
        have HB2 := Lib.hid hb2
        have x2' := (blk3 ((Below.heap_setCell W1 ⟨P, 0, none⟩ (.int .i64 (-1)) _ (show w.heap.size ≠ P by omega)).trans HBX.out)).1.2.2
        clear hb2 x0 x1 x2
        by_cases hk0 : 0 < ks.length
        · have hI : decide ((0 : Int) < (ks.length : Int)) = true := decide_eq_true (by omega)
          go_wp2_with fail
          go_end0
          exact ⟨rfl, by rw [HT.out]; exact HB2.out, grown_set HG1.out _⟩
        · exfalso; omega
    have e4 : decide ((40 : Int) < (ks.length : Int)) = false := decide_eq_false (by omega)
    have HT := Lib.hid (wk_good (ks := ks) (left := left) (show ¬ (d = 0 ∨ 100 < nm.size ∨ 100 < st.size ∨ 40 < ks.length) by omega))
    go_wp2_with fail
    clear x0 x1 x2 e1 e2 e3 e4 c0 f0 hw1
    go_loopw [6] (fun y wr => ∃ k : Nat, y = .int .i64 k ∧ WInv P Q ks (.mk nm st ks) A c d (left - 1) w k wr) (fun y _ => ks.length - (intOf y).toNat)
    case atStart => exact ⟨0, rfl, left - 1, Nat.zero_le _, HBG1.out, HBX.out, HG1.out, rfl, by omega, by omega⟩
    case round =>
      clear HBG1 HBX HG1 HBG
      obtain ⟨k, rfl, l2, hk, hbg, hbx, hgr, heq, hb0, hb1⟩ := hrel
      obtain ⟨⟨x0, x1, x2⟩, _⟩ := blk3 hbx
      dsimp only [Tm.nm_mk, Tm.st_mk, Tm.ks_mk] at x0 x1 x2
      have c0 := hbg.p.cell
      have q0 := hbg.q.cell
      have HBG := Lib.hid hbg
      have HBX := Lib.hid hbx
      have HG := Lib.hid hgr
      have HEQ := Lib.hid heq
      have hsr := hgr.size
      clear hbg hbx hgr heq
      by_cases hlt : k < ks.length
      · have hI : decide ((k : Int) < (ks.length : Int)) = true := decide_eq_true (by omega)
        by_cases hl : 0 ≤ l2
        · obtain ⟨x, hx⟩ : ∃ x, ks[k]? = some x := ⟨ks[k]'hlt, List.getElem?_eq_getElem _⟩
          have hmem : x ∈ ks := List.mem_of_getElem? hx
          obtain ⟨tb, tq, A', c', rfl, htb, u0, u1, u2, hrx⟩ := HREP.out.kid (i := k) hx
          have hbn : Below n₀ w wr := bgrown_below HG.out hn (by omega)
          replace u0 := (hbn.cell (p := ⟨tb, _, none⟩) htb).trans u0
          replace u1 := (hbn.cell (p := ⟨tb, _, none⟩) htb).trans u1
          replace u2 := (hbn.cell (p := ⟨tb, _, none⟩) htb).trans u2
          have hbd := wk_bd x (d - 1) l2 hl
          have hq2 : BG wr.drew P Q l2 := ⟨HBG.out.p, HBG.out.q, HBG.out.ne⟩
          have HC := Lib.hid (HIH.out x hmem A' c' n₀ (d - 1) l2 wr.drew (hrx.later hbn.drew) hn (HOK.out.kid hmem) hq2 (by omega) (by omega) (by omega) hb1)
          have HX := Lib.hid hx
          have hI2 : (k : Int) < (ks.length : Int) := by omega
          have hl2 : decide (0 ≤ l2) = true := decide_eq_true hl
          have hwd : IntKind.i64.wrap (d - 1) = d - 1 := IntWalk.i64_in _ (by omega)
          have HL := Lib.hid hl
          unfold walkV at q0
          clear hx hrx hbn hq2 hmem hl
          go_wp2_with fail
          go_still_tail 8, (by kernel_rfl)
          change wpList _ _ _ _ _ wr.drew
          go_wp2_with fail
          refine HC.out.mono ?_
          rintro e w5 ⟨rfl, hbg5, hg5⟩
          have HBG5 := Lib.hid hbg5
          have HG5 := Lib.hid hg5
          have hs5 := hg5.size
          simp at hs5
          clear hbg5 hg5 HC
          go_wp2
          go_roundw
          case rel =>
            refine ⟨k + 1, by go_num, wk x (d - 1) l2, by omega, HBG5.out, bgrown_block (o := .cells _ _ _) HBX.out (w1 := wr.drew) HG5.out (by omega), ?_, ?_, by omega, by omega⟩
            · have hgd : w.grownBy wr.drew (some P) := ⟨HG.out.os, HG.out.tape, HG.out.output, HG.out.size, HG.out.block⟩
              exact only_trans hgd HG5.out
            · rw [HEQ.out, wks_at HX.out, if_pos HL.out]
          case measure => simp [intOf]; omega
        · have hl2 : decide (0 ≤ l2) = false := decide_eq_false hl
          have HL := Lib.hid (wks_neg (ks.drop k) (d - 1) l2 (by omega))
          clear hl
          go_wp2_with fail
          go_end0
          exact ⟨rfl, by rw [HT.out, HEQ.out, HL.out]; exact HBG.out, HG.out⟩
      · have hI : decide ((k : Int) < (ks.length : Int)) = false := decide_eq_false (by omega)
        have HK : Hid (ks.drop k = []) := Lib.hid (by rw [show k = ks.length by omega, List.drop_length])
        go_wp2_with fail
        go_end0
        exact ⟨rfl, by rw [HT.out, HEQ.out, HK.out]; exact HBG.out, HG.out⟩

def bigN (L : List Tm) : Int := L.foldl (fun l t => wk t 80 l) 1100
theorem bigN_snoc (L : List Tm) (x : Tm) : bigN (L ++ [x]) = wk x 80 (bigN L) := by unfold bigN; rw [List.foldl_append]; rfl
theorem wk_low (t : Tm) (d left : Int) (h : left < 0) : left - 1 ≤ wk t d left ∧ wk t d left ≤ -1 := by
  cases t with
  | mk n s ks =>
    by_cases hc : d = 0 ∨ 100 < n.size ∨ 100 < s.size ∨ 40 < ks.length
    · rw [wk_bad hc]; omega
    · rw [wk_good hc, wks_neg _ _ _ (by omega)]; omega
theorem wk_all (t : Tm) (d left : Int) (h : left ≤ 1100) : (min left 0) - 1 ≤ wk t d left ∧ wk t d left ≤ 1100 := by
  by_cases hl : 0 ≤ left
  · have := wk_bd t d left hl; omega
  · have := wk_low t d left (by omega); omega
def bigL (L : List Tm) : Bool := decide (bigN L < 0)
def BInv (L : List Tm) (w : World) (k : Nat) (wr : World) : Prop :=
  ∃ left : Int, k ≤ L.length ∧ BG wr w.heap.size (w.heap.size + 1) left ∧ Below w.heap.size w wr ∧ left = bigN (L.take k) ∧ -(k : Int) - 1 ≤ left ∧ left ≤ 1100
set_option maxHeartbeats 4000000 in
theorem bigTerms_any (nm st : ByteArray) (L : List Tm) (A : Option Addr) (c : Nat) (w : World) (hrep : TRep w.heap.size w (.mk nm st L) A) (hok : okT maxLen (.mk nm st L)) (hlen : L.length ≤ 100) :
    Calls Tryd.prog 31 #[.slice A L.length c] w fun e w' => e = .returned (.bool (bigL L)) ∧ Below w.heap.size w w' := by
  have HREP := Lib.hid hrep
  have HOK := Lib.hid hok
  have hbg : BG ((w.alloc (.cells #[.int .i64 1100] 3)).alloc (.cells #[walkV w.heap.size (w.heap.size + 1)] 113)) w.heap.size (w.heap.size + 1) 1100 := by
    have h2 := Boxed.new (w.alloc (.cells #[.int .i64 1100] 3)) 113 (walkV w.heap.size (w.heap.size + 1))
    rw [World.size_alloc] at h2
    exact ⟨(Boxed.new w _ _).alloc _, h2, by omega⟩
  have hB : Below w.heap.size w ((w.alloc (.cells #[.int .i64 1100] 3)).alloc (.cells #[walkV w.heap.size (w.heap.size + 1)] 113)) := ((Below.refl _ _).alloc (Nat.le_refl _) _).alloc (by simp) _
  unfold walkV at hB
  have hbg' := hbg
  unfold walkV at hbg'
  have HBG := Lib.hid hbg'
  have HB := Lib.hid hB
  clear hrep hok hbg hB hbg'
  go_enter Tryd.func31, Tryd.ntmps31
  go_wp2_with fail
  go_loopw [10] (fun y wr => ∃ k : Nat, y = .int .i64 k ∧ BInv L w k wr) (fun y _ => L.length - (intOf y).toNat)
  case atStart => exact ⟨0, rfl, 1100, Nat.zero_le _, HBG.out, HB.out, rfl, by omega, by omega⟩
  case round =>
    clear HBG HB
    obtain ⟨k, rfl, left, hk, hbg, hbw, hl, hb0, hb1⟩ := hrel
    have HBG := Lib.hid hbg
    have HBW := Lib.hid hbw
    have HL := Lib.hid hl
    have hPw := hbg.p.lt
    have hws := hbw.size
    clear hbg hbw hl
    by_cases hlt : k < L.length
    · obtain ⟨x, hx⟩ : ∃ x, L[k]? = some x := ⟨L[k]'hlt, List.getElem?_eq_getElem _⟩
      have hmem : x ∈ L := List.mem_of_getElem? hx
      obtain ⟨tb, tq, A', c', rfl, htb, u0, u1, u2, hrx⟩ := HREP.out.kid (i := k) hx
      replace u0 := (HBW.out.cell (p := ⟨tb, _, none⟩) htb).trans u0
      replace u1 := (HBW.out.cell (p := ⟨tb, _, none⟩) htb).trans u1
      replace u2 := (HBW.out.cell (p := ⟨tb, _, none⟩) htb).trans u2
      have HX := Lib.hid hx
      have hI : (k : Int) < (L.length : Int) := by omega
      have hb2 := HBG.out.alloc (.cells (tcells x A' c') 56)
      have q0 := hb2.q.cell
      unfold walkV at q0
      have hbd := wk_all x 80 left hb1
      have HC := Lib.hid (walk_any w.heap.size (w.heap.size + 1) x A' c' w.heap.size 80 left (wr.alloc (.cells (tcells x A' c') 56)) (hrx.later (HBW.out.alloc hws _)) (Nat.le_refl _) (HOK.out.kid hmem) hb2 (by omega) (by omega) (by omega) hb1)
      clear hx hrx hb2 hmem
      go_wp2_with fail
      refine HC.out.mono ?_
      rintro e w5 ⟨rfl, hbg5, hg5⟩
      have HBG5 := Lib.hid hbg5
      have HG5 := Lib.hid hg5
      clear hbg5 hg5 HC
      go_wp2
      go_roundw
      case rel =>
        refine ⟨k + 1, by go_num, wk x 80 left, by omega, HBG5.out, ?_, ?_, by omega, by omega⟩
        · exact (HBW.out.alloc hws _).grown HG5.out (by simp; omega) (fun j e => by injection e with e; omega)
        · rw [List.take_add_one, HX.out]
          show _ = bigN (L.take k ++ [x])
          rw [bigN_snoc, HL.out]
      case measure => simp [intOf]; omega
    · have hkl : k = L.length := by omega
      have hI : ¬ (k : Int) < (L.length : Int) := by omega
      have c0 := HBG.out.p.cell
      have HR : Hid (bigL L = decide (left < 0)) := Lib.hid (by unfold bigL; rw [HL.out, hkl, List.take_length])
      clear hkl
      go_wp2_with fail
      go_ret
      exact ⟨by rw [HR.out]; rfl, HBW.out⟩
end Go.Proofs.YthbcfcbonmphfaaDoor

/- Terms that are not big. -/
namespace Go.Proofs.YthbcfcbonmphfaaDoor
open Go.RowKit Go.Shelf
set_option maxRecDepth 100000
mutual
theorem wk_ok : ∀ (t : Tm) (d left : Int), 0 ≤ d → 0 ≤ wk t d left → okT 100 t ∧ (t.depth : Int) ≤ d ∧ wk t d left = left - t.size
  | .mk n s ks, d, left, hd, h => by
    by_cases hc : d = 0 ∨ 100 < n.size ∨ 100 < s.size ∨ 40 < ks.length
    · rw [wk_bad hc] at h; omega
    · rw [wk_good hc] at h ⊢
      obtain ⟨h1, h2, h3⟩ := wks_ok ks (d - 1) (left - 1) (by omega) h
      refine ⟨.mk n s ks (by omega) (by omega) (by omega) h1, ?_, ?_⟩
      · rw [Tm.depth]; omega
      · rw [h3, Tm.size]; omega
theorem wks_ok : ∀ (ks : List Tm) (d left : Int), 0 ≤ d → 0 ≤ wks ks d left → (∀ k, k ∈ ks → okT 100 k) ∧ (depths ks : Int) ≤ d ∧ wks ks d left = left - sizes ks
  | [], d, left, hd, h => ⟨(fun k hk => by cases hk), by simp [depths]; omega, by simp [wks, sizes]⟩
  | k :: ks, d, left, hd, h => by
    rw [wks] at h ⊢
    by_cases hl : 0 ≤ left
    · rw [if_pos hl] at h ⊢
      by_cases hk : 0 ≤ wk k d left
      · obtain ⟨h1, h2, h3⟩ := wk_ok k d left hd hk
        obtain ⟨h4, h5, h6⟩ := wks_ok ks d (wk k d left) hd h
        refine ⟨fun y hy => ?_, ?_, ?_⟩
        · rcases List.mem_cons.1 hy with he | hy
          · rw [he]; exact h1
          · exact h4 y hy
        · rw [depths]; omega
        · rw [h6, h3, sizes]; omega
      · rw [wks_neg ks d (wk k d left) (by omega)] at h; omega
    · rw [if_neg hl] at h; omega
end
theorem fold_neg : ∀ (L : List Tm) (l : Int), l < 0 → L.foldl (fun l t => wk t 80 l) l < 0
  | [], _, h => h
  | t :: L, l, h => fold_neg L (wk t 80 l) (by have := wk_low t 80 l h; omega)
theorem fold_ok : ∀ (L : List Tm) (l : Int), 0 ≤ L.foldl (fun l t => wk t 80 l) l → ∀ t, t ∈ L → okT 100 t ∧ t.depth ≤ 80
  | [], _, _, t, h => by cases h
  | x :: L, l, h, t, ht => by
    rw [List.foldl_cons] at h
    have h0 : 0 ≤ wk x 80 l := by
      by_cases hn : wk x 80 l < 0
      · have := fold_neg L _ hn; omega
      · omega
    rcases List.mem_cons.1 ht with he | ht
    · obtain ⟨h1, h2, _⟩ := wk_ok x 80 l (by omega) h0
      rw [he]; exact ⟨h1, by omega⟩
    · exact fold_ok L _ h t ht
/-- Terms that are not big have short names and lists, and are not deep. -/
theorem bigL_false {L : List Tm} (h : bigL L = false) : ∀ t, t ∈ L → okT 100 t ∧ t.depth ≤ 80 := by
  unfold bigL at h
  exact fold_ok L 1100 (by have := of_decide_eq_false h; unfold bigN at this; omega)
end Go.Proofs.YthbcfcbonmphfaaDoor
namespace Go.Proofs.YthbcfcbonmphfaaDoor
open Go.RowKit Go.Shelf
set_option maxRecDepth 100000
attribute [local go_sem] Oper.semAt_some

def Tryd.lays106_ren : Go.Shelf.Ren := ⟨fun | 106 => 124 | 213 => 143 | 265 => 150 | n => n, fun | 9 => 9 | 3 => 3 | n => n, fun | n => n⟩
theorem Tryd.lays106 : Go.Proofs.Lays.n106 Tryd.prog Tryd.lays106_ren := {
  mixed := by kernel_rfl
  f106 := Tryd.func124.trans (congrArg some (by kernel_rfl))
  f213 := Tryd.func143.trans (congrArg some (by kernel_rfl))
  f265 := Tryd.func150.trans (congrArg some (by kernel_rfl))
  t3 := Tryd.underlying3
  a3 := Tryd.isAgg3
  z3 := Tryd.sizeOf3
  v3 := Tryd.zeroValue3
  t9 := Tryd.underlying9
  a9 := Tryd.isAgg9
  z9 := Tryd.sizeOf9
  v9 := Tryd.zeroValue9 }
theorem strCompare_any (a b : ByteArray) (w : World) : Calls Tryd.prog 124 #[.string a, .string b] w fun e w' => e = .returned (.int .i64 (bcmp a b)) ∧ w' = w :=
  Any.strings_Compare Tryd.lays106 a b w

set_option maxHeartbeats 1000000 in
theorem isNaN_any (x : Int) (w : World) : Calls Tryd.prog 144 #[.int .i64 x] w fun e w' => e = .returned (.bool false) ∧ w' = w := by
  have h : (x != x) = false := by simp
  go_enter Tryd.func144, Tryd.ntmps144
  go_wp2_with fail
  go_ret
  exact ⟨rfl, rfl⟩
set_option maxHeartbeats 1000000 in
theorem ccmp_any (a b : Nat) (w : World) : Calls Tryd.prog 125 #[.int .i64 a, .int .i64 b] w fun e w' => e = .returned (.int .i64 (ncmp a b)) ∧ w' = w := by
  by_cases h1 : a < b
  · have hI : (a : Int) < (b : Int) := by omega
    have hn : ncmp a b = -1 := by unfold ncmp; rw [if_pos h1]
    rw [hn]
    clear h1 hn
    go_enter Tryd.func125, Tryd.ntmps125
    go_wp2_with (refine (isNaN_any _ _).mono ?_; rintro e w' ⟨rfl, rfl⟩)
    go_ret
    exact ⟨rfl, rfl⟩
  · by_cases h2 : b < a
    · have hI : ¬ (a : Int) < (b : Int) := by omega
      have hI2 : (b : Int) < (a : Int) := by omega
      have hn : ncmp a b = 1 := by unfold ncmp; rw [if_neg h1, if_pos h2]
      rw [hn]
      clear h1 h2 hn
      go_enter Tryd.func125, Tryd.ntmps125
      go_wp2_with (refine (isNaN_any _ _).mono ?_; rintro e w' ⟨rfl, rfl⟩)
      go_ret
      exact ⟨rfl, rfl⟩
    · have hI : ¬ (a : Int) < (b : Int) := by omega
      have hI2 : ¬ (b : Int) < (a : Int) := by omega
      have hn : ncmp a b = 0 := by unfold ncmp; rw [if_neg h1, if_neg h2]
      rw [hn]
      clear h1 h2 hn
      go_enter Tryd.func125, Tryd.ntmps125
      go_wp2_with (refine (isNaN_any _ _).mono ?_; rintro e w' ⟨rfl, rfl⟩)
      go_ret
      exact ⟨rfl, rfl⟩

def or2 (x y : Int) : Int := if x ≠ 0 then x else y
set_option maxHeartbeats 1000000 in
theorem or_any (b : Nat) (x y : Int) (w : World) (h0 : w.cell? ⟨b, 0, none⟩ = some (.int .i64 x)) (h1 : w.cell? ⟨b, 1, none⟩ = some (.int .i64 y)) :
    Calls Tryd.prog 123 #[.slice (some ⟨b, 0, none⟩) 2 2] w fun e w' => e = .returned (.int .i64 (or2 x y)) ∧ w' = w := by
  have H0 := Lib.hid h0
  have H1 := Lib.hid h1
  clear h0 h1
  go_enter Tryd.func123, Tryd.ntmps123
  go_wp2_with fail
  go_loopw [8] (fun i wr => (i = .int .i64 0 ∨ (i = .int .i64 1 ∧ x = 0) ∨ (i = .int .i64 2 ∧ x = 0 ∧ y = 0)) ∧ wr = w) (fun i _ => 2 - (intOf i).toNat)
  case atStart => exact ⟨.inl rfl, rfl⟩
  case round =>
    obtain ⟨hk, rfl⟩ := hrel
    rcases hk with rfl | ⟨rfl, hx⟩ | ⟨rfl, hx, hy⟩
    · have y0 := H0.out
      by_cases hz : x = 0
      · have HZ := Lib.hid hz
        have hb : (x != 0) = false := by simp [hz]
        clear hz
        go_wp2_with fail
        go_roundw
        case rel => exact ⟨.inr (.inl ⟨rfl, HZ.out⟩), by trivial⟩
        case measure => simp [intOf]
      · have HZ := Lib.hid hz
        have hb : (x != 0) = true := by simp [hz]
        clear hz
        go_wp2_with fail
        go_ret
        exact ⟨by unfold or2; rw [if_pos HZ.out]; rfl, rfl⟩
    · have y0 := H1.out
      have HX := Lib.hid hx
      clear hx
      by_cases hz : y = 0
      · have HZ := Lib.hid hz
        have hb : (y != 0) = false := by simp [hz]
        clear hz
        go_wp2_with fail
        go_roundw
        case rel => exact ⟨.inr (.inr ⟨rfl, HX.out, HZ.out⟩), by trivial⟩
        case measure => simp [intOf]
      · have HZ := Lib.hid hz
        have hb : (y != 0) = true := by simp [hz]
        clear hz
        go_wp2_with fail
        go_ret
        exact ⟨by unfold or2; rw [if_neg (fun h => h HX.out)]; rfl, rfl⟩
    · have HX := Lib.hid hx
      have HY := Lib.hid hy
      clear hx hy
      go_wp2_with fail
      go_ret
      exact ⟨by unfold or2; rw [if_neg (fun h => h HX.out), HY.out]; rfl, rfl⟩

/-! ### what compare says -/
theorem tcmp_vv {a b : Tm} (ha : isV a = true) (hb : isV b = true) : tcmp a b = or2 (bcmp a.nm b.nm) (bcmp a.st b.st) := by
  cases a with
  | mk n s ks =>
    unfold tcmp or2
    have : (!s.toList.isEmpty) = true := ha
    rw [this, hb]; rfl
theorem tcmp_vn {a b : Tm} (ha : isV a = true) (hb : isV b = false) : tcmp a b = -1 := by
  cases a with
  | mk n s ks =>
    unfold tcmp
    have : (!s.toList.isEmpty) = true := ha
    rw [this, hb]; rfl
theorem tcmp_nv {a b : Tm} (ha : isV a = false) (hb : isV b = true) : tcmp a b = 1 := by
  cases a with
  | mk n s ks =>
    unfold tcmp
    have : (!s.toList.isEmpty) = false := ha
    rw [this, hb]; rfl
def hcmp (a b : Tm) : Int := or2 (bcmp a.nm b.nm) (ncmp a.ks.length b.ks.length)
theorem tcmp_nn {a b : Tm} (ha : isV a = false) (hb : isV b = false) : tcmp a b = if hcmp a b ≠ 0 then hcmp a b else tcmps a.ks b.ks := by
  cases a with
  | mk n s ks =>
    unfold tcmp hcmp or2
    have : (!s.toList.isEmpty) = false := ha
    rw [this, hb]
    simp only [Tm.nm_mk, Tm.ks_mk, Bool.false_and, Bool.false_eq_true, if_false]
    by_cases h : bcmp n b.nm = 0
    · simp [h]
    · simp [h]
theorem hcmp_len {a b : Tm} (h : hcmp a b = 0) : a.ks.length = b.ks.length := by
  unfold hcmp or2 at h
  by_cases h1 : bcmp a.nm b.nm = 0
  · rw [if_neg (by simp [h1])] at h
    unfold ncmp at h
    by_cases h2 : a.ks.length < b.ks.length
    · rw [if_pos h2] at h; cases h
    · by_cases h3 : b.ks.length < a.ks.length
      · rw [if_neg h2, if_pos h3] at h; cases h
      · omega
  · rw [if_pos h1] at h; exact absurd h h1
theorem tcmps_at {L M : List Tm} {k : Nat} {x y : Tm} (hx : L[k]? = some x) (hy : M[k]? = some y) : tcmps (L.drop k) (M.drop k) = if tcmp x y ≠ 0 then tcmp x y else tcmps (L.drop (k + 1)) (M.drop (k + 1)) := by
  obtain ⟨h1, e1⟩ := List.getElem?_eq_some_iff.1 hx
  obtain ⟨h2, e2⟩ := List.getElem?_eq_some_iff.1 hy
  rw [List.drop_eq_getElem_cons h1, List.drop_eq_getElem_cons h2, e1, e2, tcmps]

/-- What compare keeps while it runs: the boxes of its two terms. -/
structure CW (w w' : World) (a : Tm) (A : Option Addr) (c : Nat) (b : Tm) (B : Option Addr) (c' : Nat) : Prop where
  below : Below w.heap.size w w'
  ba : w'.heap[w.heap.size]? = some (.cells (tcells a A c) 56 (0, 0))
  bb : w'.heap[w.heap.size + 1]? = some (.cells (tcells b B c') 56 (0, 0))
theorem CW.start (w : World) (a : Tm) (A : Option Addr) (c : Nat) (b : Tm) (B : Option Addr) (c' : Nat) : CW w ((w.alloc (.cells (tcells a A c) 56)).alloc (.cells (tcells b B c') 56)) a A c b B c' :=
  ⟨((Below.refl _ _).alloc (Nat.le_refl _) _).alloc (by simp) _, (Below.heap_alloc _ _ _ (by simp)).trans (heap_alloc_new w _), by
    have := heap_alloc_new (w.alloc (.cells (tcells a A c) 56)) (.cells (tcells b B c') 56)
    simpa using this⟩
theorem CW.next {w w1 w2 : World} {a : Tm} {A : Option Addr} {c : Nat} {b : Tm} {B : Option Addr} {c' : Nat} (h : CW w w1 a A c b B c') (hb : Below w1.heap.size w1 w2) : CW w w2 a A c b B c' :=
  ⟨h.below.trans (hb.mono h.below.size), cells_below h.ba hb, cells_below h.bb hb⟩
theorem CW.drew {w w1 : World} {a : Tm} {A : Option Addr} {c : Nat} {b : Tm} {B : Option Addr} {c' : Nat} (h : CW w w1 a A c b B c') : CW w w1.drew a A c b B c' :=
  ⟨h.below.drew, h.ba, h.bb⟩

def CInv (a b : Tm) (A : Option Addr) (c : Nat) (B : Option Addr) (c' : Nat) (w : World) (cc : Int) (k : Nat) (wr : World) : Prop :=
  k ≤ a.ks.length ∧ (cc = 0 → a.ks.length = b.ks.length) ∧ (cc ≠ 0 → tcmp a b = cc) ∧ (cc = 0 → tcmp a b = tcmps (a.ks.drop k) (b.ks.drop k)) ∧ CW w wr a A c b B c'

set_option maxHeartbeats 2000000 in
theorem compare_any (a : Tm) : ∀ (b : Tm) (A B : Option Addr) (c c' n₀ : Nat) (w : World), TRep n₀ w a A → TRep n₀ w b B → n₀ ≤ w.heap.size → okT maxLen a → okT maxLen b →
    Calls Tryd.prog 84 #[TV a A c, TV b B c'] w fun e w' => e = .returned (.int .i64 (tcmp a b)) ∧ Below w.heap.size w w' := by
  induction a using Tm.ind with
  | h nm st ks ih =>
    intro b A B c c' n₀ w hra hrb hn hoa hob
    have hla : ks.length ≤ 9223372036854775807 := by have := hoa.len; unfold maxLen at this; simpa using this
    have hlb := hob.len
    unfold maxLen at hlb
    have HIH := Lib.hid ih
    have HOA := Lib.hid hoa
    have HOB := Lib.hid hob
    have HRA := Lib.hid hra
    have HRB := Lib.hid hrb
    have HC0 := Lib.hid (CW.start w (.mk nm st ks) A c b B c')
    clear ih hoa hob hra hrb
    have HEA : Hid (TV (.mk nm st ks) A c = .agg #[.string nm, .string st, .slice A ks.length c]) := rfl
    generalize hva : isV (Tm.mk nm st ks) = va
    generalize hvb : isV b = vb
    unfold TV
    dsimp only [Tm.nm_mk, Tm.st_mk, Tm.ks_mk]
    cases va
    · cases vb
      · have HT := Lib.hid (tcmp_nn hva hvb)
        go_enter Tryd.func84, Tryd.ntmps84
        go_wp2_with fail
        refine (isVariable_any (.mk nm st ks) A c _).mono ?_
        rintro e w1 ⟨rfl, hb1⟩
        rw [hva]
        have HC1 := Lib.hid (HC0.out.next hb1)
        obtain ⟨⟨x0, x1, x2⟩, _⟩ := blk3 HC1.out.ba
        obtain ⟨⟨y0, y1, y2⟩, _⟩ := blk3 HC1.out.bb
        dsimp only [Tm.nm_mk, Tm.st_mk, Tm.ks_mk] at x0 x1 x2
        clear hb1
        go_wp2_with fail
        clear x0 x1 x2 y0 y1 y2
        refine (isVariable_any (.mk nm st ks) A c _).mono ?_
        rintro e w2 ⟨rfl, hb2⟩
        rw [hva]
        have HC2 := Lib.hid (HC1.out.next hb2)
        obtain ⟨⟨x0, x1, x2⟩, _⟩ := blk3 HC2.out.ba
        obtain ⟨⟨y0, y1, y2⟩, _⟩ := blk3 HC2.out.bb
        dsimp only [Tm.nm_mk, Tm.st_mk, Tm.ks_mk] at x0 x1 x2
        clear hb2
        go_wp2_with fail
        clear x0 x1 x2 y0 y1 y2
        refine (isVariable_any b B c' _).mono ?_
        rintro e w3 ⟨rfl, hb3⟩
        rw [hvb]
        have HC3 := Lib.hid (HC2.out.next hb3)
        obtain ⟨⟨x0, x1, x2⟩, _⟩ := blk3 HC3.out.ba
        obtain ⟨⟨y0, y1, y2⟩, _⟩ := blk3 HC3.out.bb
        dsimp only [Tm.nm_mk, Tm.st_mk, Tm.ks_mk] at x0 x1 x2
        clear hb3
        go_wp2_with fail
        go_still_tail 12, (by kernel_rfl)
        still_call (strCompare_any nm b.nm _)
        repeat still_step
        still_call (ccmp_any ks.length b.ks.length _)
        refine wpStill_nil ?_
        change wpList _ _ _ _ _ w3.drew
        go_wp2_with fail
        refine (or_any _ (bcmp nm b.nm) (ncmp ks.length b.ks.length) _ (by simp) (by simp)).mono ?_
        rintro e w4 ⟨rfl, rfl⟩
        clear x0 x1 x2 y0 y1 y2
        go_wp2_with fail
        go_loopw [5, 6] (fun x y wr => ∃ (cc : Int) (k : Nat), x = .int .i64 cc ∧ y = .int .i64 k ∧ CInv (.mk nm st ks) b A c B c' w cc k wr) (fun _ y _ => ks.length - (intOf y).toNat)
        case atStart =>
          refine ⟨hcmp (.mk nm st ks) b, 0, rfl, rfl, Nat.zero_le _, fun h => hcmp_len h, fun h => by rw [HT.out, if_pos h], fun h => by rw [HT.out, if_neg (fun h' => h' h)]; rfl, ?_⟩
          have h := HC3.out
          exact (h.next ((Below.refl _ _).alloc (Nat.le_refl _) _)).drew
        case round =>
          clear HC1 HC2 HC3 HC0
          obtain ⟨cc, k, rfl, rfl, hk, hlen, hne, heq, hcw⟩ := hrel
          have HLEN := Lib.hid hlen
          have HNE := Lib.hid hne
          have HEQ := Lib.hid heq
          have HCW := Lib.hid hcw
          clear hlen hne heq hcw
          dsimp only [Tm.ks_mk] at hk
          obtain ⟨⟨x0, x1, x2⟩, _⟩ := blk3 HCW.out.ba
          obtain ⟨⟨y0, y1, y2⟩, _⟩ := blk3 HCW.out.bb
          dsimp only [Tm.nm_mk, Tm.st_mk, Tm.ks_mk] at x0 x1 x2
          by_cases hcc : cc = 0
          · subst hcc
            have HL0 := Lib.hid (HLEN.out rfl)
            have HE0 := Lib.hid (HEQ.out rfl)
            clear HLEN HEQ HNE
            by_cases hlt : k < ks.length
            · have hlb2 : k < b.ks.length := by have := HL0.out; dsimp only [Tm.ks_mk] at this; omega
              obtain ⟨x, hx⟩ : ∃ x, ks[k]? = some x := ⟨ks[k]'hlt, List.getElem?_eq_getElem _⟩
              obtain ⟨y, hy⟩ : ∃ y, b.ks[k]? = some y := ⟨b.ks[k]'hlb2, List.getElem?_eq_getElem _⟩
              obtain ⟨ab, ao, A1, c1, rfl, hab, u0, u1, u2, hra⟩ := HRA.out.kid (i := k) hx
              obtain ⟨bb, bo, B1, d1, rfl, hbb, v0, v1, v2, hrb⟩ := HRB.out.kid (i := k) hy
              have hbw := HCW.out.below
              have hbn := hbw.mono hn
              replace u0 := (hbn.cell (p := ⟨ab, _, none⟩) hab).trans u0
              replace u1 := (hbn.cell (p := ⟨ab, _, none⟩) hab).trans u1
              replace u2 := (hbn.cell (p := ⟨ab, _, none⟩) hab).trans u2
              replace v0 := (hbn.cell (p := ⟨bb, _, none⟩) hbb).trans v0
              replace v1 := (hbn.cell (p := ⟨bb, _, none⟩) hbb).trans v1
              replace v2 := (hbn.cell (p := ⟨bb, _, none⟩) hbb).trans v2
              have hsz := hbw.size
              have HC := Lib.hid (HIH.out x (List.mem_of_getElem? hx) y A1 B1 c1 d1 n₀ wr.drew (hra.later hbn.drew) (hrb.later hbn.drew) (by simp; omega) (HOA.out.kid (List.mem_of_getElem? hx)) (HOB.out.kid (List.mem_of_getElem? hy)))
              have HX := Lib.hid hx
              have HY := Lib.hid hy
              have hI : (k : Int) < (ks.length : Int) := by omega
              have hI2 : (k : Int) < (b.ks.length : Int) := by omega
              have hI3 : decide ((k : Int) < (ks.length : Int)) = true := decide_eq_true hI
              clear hx hy hra hrb hbw hbn
              go_wp2_with fail
              go_still_tail 10, (by kernel_rfl)
              change wpList _ _ _ _ _ wr.drew
              go_wp2_with fail
              refine HC.out.mono ?_
              rintro e w5 ⟨rfl, hb5⟩
              have HB5 := Lib.hid hb5
              clear hb5 HC
              go_wp2
              go_roundw
              case rel =>
                refine ⟨tcmp x y, k + 1, rfl, by go_num, ?_, fun _ => HL0.out, fun h => ?_, fun h => ?_, HCW.out.drew.next HB5.out⟩
                · dsimp only [Tm.ks_mk]; omega
                · rw [HE0.out]; dsimp only [Tm.ks_mk]; rw [tcmps_at HX.out HY.out, if_pos h]
                · rw [HE0.out]; dsimp only [Tm.ks_mk]; rw [tcmps_at HX.out HY.out, if_neg (fun h' => h' h)]
              case measure => simp [intOf]; omega
            · have hI3 : decide ((k : Int) < (ks.length : Int)) = false := decide_eq_false (by omega)
              have hkl : k = ks.length := by omega
              go_wp2_with fail
              go_ret
              exact ⟨by
                rw [HE0.out]; dsimp only [Tm.ks_mk]
                rw [hkl, List.drop_length]; rfl, HCW.out.below⟩
          · have hb : (cc == 0) = false := by simp [hcc]
            have HCC := Lib.hid hcc
            clear hcc
            go_wp2_with fail
            go_ret
            exact ⟨by rw [HNE.out HCC.out]; rfl, HCW.out.below⟩
      · have hT := tcmp_nv hva hvb
        rw [hT]
        go_enter Tryd.func84, Tryd.ntmps84
        go_wp2_with fail
        refine (isVariable_any (.mk nm st ks) A c _).mono ?_
        rintro e w1 ⟨rfl, hb1⟩
        rw [hva]
        have HC1 := Lib.hid (HC0.out.next hb1)
        obtain ⟨⟨x0, x1, x2⟩, _⟩ := blk3 HC1.out.ba
        obtain ⟨⟨y0, y1, y2⟩, _⟩ := blk3 HC1.out.bb
        dsimp only [Tm.nm_mk, Tm.st_mk, Tm.ks_mk] at x0 x1 x2
        clear hb1
        go_wp2_with fail
        clear x0 x1 x2 y0 y1 y2
        refine (isVariable_any (.mk nm st ks) A c _).mono ?_
        rintro e w2 ⟨rfl, hb2⟩
        rw [hva]
        have HC2 := Lib.hid (HC1.out.next hb2)
        obtain ⟨⟨x0, x1, x2⟩, _⟩ := blk3 HC2.out.ba
        obtain ⟨⟨y0, y1, y2⟩, _⟩ := blk3 HC2.out.bb
        dsimp only [Tm.nm_mk, Tm.st_mk, Tm.ks_mk] at x0 x1 x2
        clear hb2
        go_wp2_with fail
        clear x0 x1 x2 y0 y1 y2
        refine (isVariable_any b B c' _).mono ?_
        rintro e w3 ⟨rfl, hb3⟩
        rw [hvb]
        have HC3 := Lib.hid (HC2.out.next hb3)
        obtain ⟨⟨x0, x1, x2⟩, _⟩ := blk3 HC3.out.ba
        obtain ⟨⟨y0, y1, y2⟩, _⟩ := blk3 HC3.out.bb
        dsimp only [Tm.nm_mk, Tm.st_mk, Tm.ks_mk] at x0 x1 x2
        clear hb3
        go_wp2_with fail
        go_ret
        exact ⟨rfl, HC3.out.below⟩
    · cases vb
      · have hT := tcmp_vn hva hvb
        rw [hT]
        go_enter Tryd.func84, Tryd.ntmps84
        go_wp2_with fail
        refine (isVariable_any (.mk nm st ks) A c _).mono ?_
        rintro e w1 ⟨rfl, hb1⟩
        rw [hva]
        have HC1 := Lib.hid (HC0.out.next hb1)
        obtain ⟨⟨x0, x1, x2⟩, _⟩ := blk3 HC1.out.ba
        obtain ⟨⟨y0, y1, y2⟩, _⟩ := blk3 HC1.out.bb
        dsimp only [Tm.nm_mk, Tm.st_mk, Tm.ks_mk] at x0 x1 x2
        clear hb1
        go_wp2_with fail
        clear x0 x1 x2 y0 y1 y2
        refine (isVariable_any b B c' _).mono ?_
        rintro e w2 ⟨rfl, hb2⟩
        rw [hvb]
        have HC2 := Lib.hid (HC1.out.next hb2)
        obtain ⟨⟨x0, x1, x2⟩, _⟩ := blk3 HC2.out.ba
        obtain ⟨⟨y0, y1, y2⟩, _⟩ := blk3 HC2.out.bb
        dsimp only [Tm.nm_mk, Tm.st_mk, Tm.ks_mk] at x0 x1 x2
        clear hb2
        go_wp2_with fail
        clear x0 x1 x2 y0 y1 y2
        refine (isVariable_any (.mk nm st ks) A c _).mono ?_
        rintro e w3 ⟨rfl, hb3⟩
        rw [hva]
        have HC3 := Lib.hid (HC2.out.next hb3)
        obtain ⟨⟨x0, x1, x2⟩, _⟩ := blk3 HC3.out.ba
        obtain ⟨⟨y0, y1, y2⟩, _⟩ := blk3 HC3.out.bb
        dsimp only [Tm.nm_mk, Tm.st_mk, Tm.ks_mk] at x0 x1 x2
        clear hb3
        go_wp2_with fail
        go_ret
        exact ⟨rfl, HC3.out.below⟩
      · have hT := tcmp_vv hva hvb
        rw [hT]
        go_enter Tryd.func84, Tryd.ntmps84
        go_wp2_with fail
        refine (isVariable_any (.mk nm st ks) A c _).mono ?_
        rintro e w1 ⟨rfl, hb1⟩
        rw [hva]
        have HC1 := Lib.hid (HC0.out.next hb1)
        obtain ⟨⟨x0, x1, x2⟩, _⟩ := blk3 HC1.out.ba
        obtain ⟨⟨y0, y1, y2⟩, _⟩ := blk3 HC1.out.bb
        dsimp only [Tm.nm_mk, Tm.st_mk, Tm.ks_mk] at x0 x1 x2
        clear hb1
        go_wp2_with fail
        clear x0 x1 x2 y0 y1 y2
        refine (isVariable_any b B c' _).mono ?_
        rintro e w2 ⟨rfl, hb2⟩
        rw [hvb]
        have HC2 := Lib.hid (HC1.out.next hb2)
        obtain ⟨⟨x0, x1, x2⟩, _⟩ := blk3 HC2.out.ba
        obtain ⟨⟨y0, y1, y2⟩, _⟩ := blk3 HC2.out.bb
        dsimp only [Tm.nm_mk, Tm.st_mk, Tm.ks_mk] at x0 x1 x2
        clear hb2
        go_wp2_with fail
        go_still_tail 10, (by kernel_rfl)
        still_call (strCompare_any nm b.nm _)
        repeat still_step
        still_call (strCompare_any st b.st _)
        refine wpStill_nil ?_
        change wpList _ _ _ _ _ w2.drew
        go_wp2_with fail
        refine (or_any _ (bcmp nm b.nm) (bcmp st b.st) _ (by simp) (by simp)).mono ?_
        rintro e w4 ⟨rfl, rfl⟩
        go_wp2_with fail
        go_ret
        exact ⟨rfl, by
          have h := HC2.out.below
          exact (h.alloc h.size _).drew⟩

/-- What Compare hands back. -/
def cmpRes (a b : Tm) : Value := if formed a && formed b then .tuple #[.int .i64 (tcmp a b), .int .i64 0] else .tuple #[.int .i64 0, .int .i64 1]
set_option maxHeartbeats 1000000 in
theorem Compare_any (a b : Tm) (A B : Option Addr) (c c' : Nat) (w : World) (hra : TRep w.heap.size w a A) (hrb : TRep w.heap.size w b B) (hoa : okT maxLen a) (hob : okT maxLen b) (hda : a.depth ≤ 140737488355326) (hdb : b.depth ≤ 140737488355326) :
    Calls Tryd.prog 39 #[TV a A c, TV b B c'] w fun e w' => e = .returned (cmpRes a b) ∧ Below w.heap.size w w' := by
  have HRA := Lib.hid hra
  have HRB := Lib.hid hrb
  have HOA := Lib.hid hoa
  have HOB := Lib.hid hob
  have HC0 := Lib.hid (CW.start w a A c b B c')
  clear hra hrb hoa hob
  unfold cmpRes
  generalize hfa : formed a = fa
  generalize hfb : formed b = fb
  unfold TV
  go_enter Tryd.func39, Tryd.ntmps39
  go_wp2_with fail
  refine (wellFormed_any a A c _ ((HRA.out.later HC0.out.below).mono HC0.out.below.size) HOA.out hda).mono ?_
  rintro e w1 ⟨rfl, hb1⟩
  rw [hfa]
  have HC1 := Lib.hid (HC0.out.next hb1)
  obtain ⟨⟨x0, x1, x2⟩, _⟩ := blk3 HC1.out.ba
  obtain ⟨⟨y0, y1, y2⟩, _⟩ := blk3 HC1.out.bb
  clear hb1
  cases fa
  · go_wp2_with fail
    go_ret2
    exact ⟨rfl, HC1.out.below⟩
  · go_wp2_with fail
    clear x0 x1 x2 y0 y1 y2
    refine (wellFormed_any b B c' _ ((HRB.out.later HC1.out.below).mono HC1.out.below.size) HOB.out hdb).mono ?_
    rintro e w2 ⟨rfl, hb2⟩
    rw [hfb]
    have HC2 := Lib.hid (HC1.out.next hb2)
    obtain ⟨⟨x0, x1, x2⟩, _⟩ := blk3 HC2.out.ba
    obtain ⟨⟨y0, y1, y2⟩, _⟩ := blk3 HC2.out.bb
    clear hb2
    cases fb
    · go_wp2_with fail
      go_ret2
      exact ⟨rfl, HC2.out.below⟩
    · go_wp2_with fail
      clear x0 x1 x2 y0 y1 y2
      refine (compare_any a b A B c c' w.heap.size _ (HRA.out.later HC2.out.below) (HRB.out.later HC2.out.below) HC2.out.below.size HOA.out HOB.out).mono ?_
      rintro e w3 ⟨rfl, hb3⟩
      have HC3 := Lib.hid (HC2.out.next hb3)
      clear hb3
      go_wp2_with fail
      go_ret2
      exact ⟨rfl, HC3.out.below⟩
end Go.Proofs.YthbcfcbonmphfaaDoor
