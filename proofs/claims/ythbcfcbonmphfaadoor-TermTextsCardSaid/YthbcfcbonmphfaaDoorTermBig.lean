/- big. -/
import Derived.StillTailTactics
import Derived.Laws.EntriesVeiled
import Derived.IntWalk
import Derived.Deep.DeepCutAuto
import Derived.Deep.CutBlock
import Derived.Test.YthbcfcbonmphfaaDoorTermL
namespace Go.Proofs.YthbcfcbonmphfaaDoor
open Go.RowKit Go.Shelf
set_option maxRecDepth 100000

mutual
/-- What is left after the nodes of a term at a depth. -/
def wk : Tm → Int → Int → Int
  | .mk n s ks, d, left => wks ks (d - 1) (if d = 0 ∨ 100 < n.size ∨ 100 < s.size ∨ 40 < ks.length then -1 else left - 1)
def wks : List Tm → Int → Int → Int
  | [], _, left => left
  | k :: ks, d, left => if 0 ≤ left then wks ks d (wk k d left) else left
end
mutual
theorem wk_bd : ∀ (t : Tm) (d left : Int), 0 ≤ left → -1 ≤ wk t d left ∧ wk t d left ≤ left - 1
  | .mk n s ks, d, left, h => by
    unfold wk
    by_cases hc : d = 0 ∨ 100 < n.size ∨ 100 < s.size ∨ 40 < ks.length
    · rw [if_pos hc]
      have := wks_bd ks (d - 1) (-1) (by omega)
      omega
    · rw [if_neg hc]
      exact wks_bd ks (d - 1) (left - 1) (by omega)
theorem wks_bd : ∀ (ks : List Tm) (d left : Int), -1 ≤ left → -1 ≤ wks ks d left ∧ wks ks d left ≤ left
  | [], d, left, h => by unfold wks; omega
  | k :: ks, d, left, h => by
    unfold wks
    by_cases hl : 0 ≤ left
    · rw [if_pos hl]
      have h1 := wk_bd k d left hl
      have h2 := wks_bd ks d (wk k d left) h1.1
      omega
    · rw [if_neg hl]; omega
end
theorem wks_at {L : List Tm} {k : Nat} {x : Tm} (hx : L[k]? = some x) (d left : Int) : wks (L.drop k) d left = if 0 ≤ left then wks (L.drop (k + 1)) d (wk x d left) else left := by
  obtain ⟨h1, e1⟩ := List.getElem?_eq_some_iff.1 hx
  rw [List.drop_eq_getElem_cons h1, e1, wks]
theorem wk_good {n s : ByteArray} {ks : List Tm} {d left : Int} (h : ¬ (d = 0 ∨ 100 < n.size ∨ 100 < s.size ∨ 40 < ks.length)) : wk (.mk n s ks) d left = wks ks (d - 1) (left - 1) := by
  rw [wk, if_neg h]
theorem wks_neg (L : List Tm) (d left : Int) (h : left < 0) : wks L d left = left := by
  cases L with
  | nil => rfl
  | cons k ks => rw [wks, if_neg (by omega)]

theorem wk_bad {n s : ByteArray} {ks : List Tm} {d left : Int} (h : d = 0 ∨ 100 < n.size ∨ 100 < s.size ∨ 40 < ks.length) : wk (.mk n s ks) d left = -1 := by
  rw [wk, if_pos h]
  exact wks_neg ks _ _ (by decide)
def walkV (P Q : Nat) : Value := .func (.func 75) #[] #[.pointer (some ⟨P, 0, none⟩), .pointer (some ⟨Q, 0, none⟩)]
/-- The boxes of big: how many are left; the function itself. -/
structure BG (w : World) (P Q : Nat) (left : Int) : Prop where
  p : Boxed w P 3 (.int .i64 left)
  q : Boxed w Q 113 (walkV P Q)
  ne : P ≠ Q
def WPost (P Q : Nat) (t : Tm) (d left : Int) (w : World) (e : Ending) (w' : World) : Prop := e = .returned (.tuple #[]) ∧ BG w' P Q (wk t d left) ∧ w.grownBy w' (some P)
def WInv (P Q : Nat) (ks : List Tm) (t : Tm) (A : Option Addr) (c : Nat) (d L2 : Int) (w : World) (k : Nat) (wr : World) : Prop :=
  ∃ left : Int, k ≤ ks.length ∧ BG wr P Q left ∧ wr.heap[w.heap.size]? = some (.cells (tcells t A c) 56 (0, 0)) ∧ w.grownBy wr (some P) ∧ wks ks (d - 1) L2 = wks (ks.drop k) (d - 1) left ∧ -1001 ≤ left ∧ left ≤ 1100
theorem bgrown_below {w w' : World} {P n : Nat} (h : w.grownBy w' (some P)) (hn : n ≤ P) (hs : n ≤ w.heap.size) : Below n w w' := (Below.refl n w).grown h hs (fun k e => by cases e; exact hn)
theorem bgrown_block {w1 w2 : World} {P : Nat} {o : Obj} {b : Nat} (h : w1.heap[b]? = some o) (hg : w1.grownBy w2 (some P)) (hP : b ≠ P) : w2.heap[b]? = some o :=
  (hg.block b (Array.getElem?_eq_some_iff.1 h).1 (fun e => hP (by injection e))).trans h
theorem BG.set {w : World} {P Q : Nat} {left : Int} (h : BG w P Q left) (l : Int) : BG (w.setCell ⟨P, 0, none⟩ (.int .i64 l)) P Q l := ⟨h.p.set _, h.q.other (fun e => h.ne e.symm) _, h.ne⟩
theorem BG.alloc {w : World} {P Q : Nat} {left : Int} (h : BG w P Q left) (o : Obj) : BG (w.alloc o) P Q left := ⟨h.p.alloc o, h.q.alloc o, h.ne⟩
theorem grown_set {w w' : World} {P : Nat} (h : w.grownBy w' (some P)) (v : Value) : w.grownBy (w'.setCell ⟨P, 0, none⟩ v) (some P) :=
  ⟨h.os, h.tape, h.output, by simpa using h.size, fun k hk hne => (Below.heap_setCell _ _ _ _ (fun e => hne (by rw [e]))).trans (h.block k hk hne)⟩

set_option maxHeartbeats 4000000 in
theorem walk_any (P Q : Nat) (t : Tm) : ∀ (A : Option Addr) (c n₀ : Nat) (d left : Int) (w : World), TRep n₀ w t A → n₀ ≤ P → okT maxLen t → BG w P Q left → 0 ≤ d → d ≤ 80 → -1000 ≤ left → left ≤ 1100 →
    Calls Tryd.prog 75 #[TV t A c, .int .i64 d, .pointer (some ⟨P, 0, none⟩), .pointer (some ⟨Q, 0, none⟩)] w (WPost P Q t d left w) := by
  induction t using Tm.ind with
  | h nm st ks ih =>
    intro A c n₀ d left w hrep hn hok hbg hd0 hd1 hl0 hl1
    have hln := hok.nm
    have hls := hok.st
    have hlk := hok.len
    unfold maxLen at hln hls hlk
    dsimp only [Tm.nm_mk, Tm.st_mk, Tm.ks_mk] at hln hls hlk
    have HIH := Lib.hid ih
    have HOK := Lib.hid hok
    have HREP := Lib.hid hrep
    have hPw := hbg.p.lt
    have hQw := hbg.q.lt
    have HNE := Lib.hid hbg.ne
    have c0 := hbg.p.cell
    have f0 := hbg.p.frozen
    have HBG := Lib.hid hbg
    have hw1 : IntKind.i64.wrap (left - 1) = left - 1 := IntWalk.i64_in _ (by omega)
    clear ih hok hrep hbg
    unfold TV
    dsimp only [Tm.nm_mk, Tm.st_mk, Tm.ks_mk]
    go_enter Tryd.func75, Tryd.ntmps75
    go_upto_region 2 with fail
    have hbg1 : BG ((w.setCell ⟨P, 0, none⟩ (.int .i64 (left - 1))).alloc (.cells #[.string nm, .string st, .slice A ks.length c] 56)) P Q (left - 1) := (HBG.out.set _).alloc _
    have hbx : ((w.setCell ⟨P, 0, none⟩ (.int .i64 (left - 1))).alloc (.cells #[.string nm, .string st, .slice A ks.length c] 56)).heap[w.heap.size]? = some (.cells #[.string nm, .string st, .slice A ks.length c] 56 (0, 0)) := by
      have := heap_alloc_new (w.setCell ⟨P, 0, none⟩ (.int .i64 (left - 1))) (.cells #[.string nm, .string st, .slice A ks.length c] 56)
      simpa using this
    have hg1 : w.grownBy ((w.setCell ⟨P, 0, none⟩ (.int .i64 (left - 1))).alloc (.cells #[.string nm, .string st, .slice A ks.length c] 56)) (some P) := only_alloc (grownBy_setCell' w P _) _
    generalize ((w.setCell ⟨P, 0, none⟩ (.int .i64 (left - 1))).alloc (.cells #[.string nm, .string st, .slice A ks.length c] 56)) = W1 at hbg1 hbx hg1 ⊢
    clear c0 f0
    have c0 := hbg1.p.cell
    have f0 := hbg1.p.frozen
    obtain ⟨⟨x0, x1, x2⟩, _⟩ := blk3 hbx
    have HBG1 := Lib.hid hbg1
    have HBX := Lib.hid hbx
    have HG1 := Lib.hid hg1
    have hs1 := hg1.size
    clear hbg1 hbx hg1
    by_cases h1 : d = 0
    · have e1 : (d == 0) = true := by rw [h1]; rfl
      have HT := Lib.hid (wk_bad (ks := ks) (left := left) (show d = 0 ∨ 100 < nm.size ∨ 100 < st.size ∨ 40 < ks.length from Or.inl h1))
      go_wp2_with fail
      go_loopw [6] (fun y wr => y = .int .i64 0 ∧ wr = W1.setCell ⟨P, 0, none⟩ (.int .i64 (-1))) (fun _ _ => 0)
      case atStart => exact ⟨rfl, rfl⟩
      case round =>
        obtain ⟨rfl, rfl⟩ := hrel
        have hb2 := HBG1.out.set (-1)
        have c1 := hb2.p.cell
        have HB2 := Lib.hid hb2
        have x2' := (blk3 ((Below.heap_setCell W1 ⟨P, 0, none⟩ (.int .i64 (-1)) _ (show w.heap.size ≠ P by omega)).trans HBX.out)).1.2.2
        clear hb2 x0 x1 x2
        by_cases hk0 : 0 < ks.length
        · have hI : decide ((0 : Int) < (ks.length : Int)) = true := decide_eq_true (by omega)
          go_wp2_with fail
          go_end0
          exact ⟨rfl, by rw [HT.out]; exact HB2.out, grown_set HG1.out _⟩
        · have hI : decide ((0 : Int) < (ks.length : Int)) = false := decide_eq_false (by omega)
          go_wp2_with fail
          go_end0
          exact ⟨rfl, by rw [HT.out]; exact HB2.out, grown_set HG1.out _⟩
    have e1 : (d == 0) = false := beq_eq_false_iff_ne.2 h1
    by_cases h2 : 100 < nm.size
    · have e2 : decide ((100 : Int) < (nm.size : Int)) = true := decide_eq_true (by omega)
      have HT := Lib.hid (wk_bad (ks := ks) (left := left) (show d = 0 ∨ 100 < nm.size ∨ 100 < st.size ∨ 40 < ks.length from Or.inr (Or.inl h2)))
      go_wp2_with fail
      go_loopw [6] (fun y wr => y = .int .i64 0 ∧ wr = W1.setCell ⟨P, 0, none⟩ (.int .i64 (-1))) (fun _ _ => 0)
      case atStart => exact ⟨rfl, rfl⟩
      case round =>
        obtain ⟨rfl, rfl⟩ := hrel
        have hb2 := HBG1.out.set (-1)
        have c1 := hb2.p.cell
        have HB2 := Lib.hid hb2
        have x2' := (blk3 ((Below.heap_setCell W1 ⟨P, 0, none⟩ (.int .i64 (-1)) _ (show w.heap.size ≠ P by omega)).trans HBX.out)).1.2.2
        clear hb2 x0 x1 x2
        by_cases hk0 : 0 < ks.length
        · have hI : decide ((0 : Int) < (ks.length : Int)) = true := decide_eq_true (by omega)
          go_wp2_with fail
          go_end0
          exact ⟨rfl, by rw [HT.out]; exact HB2.out, grown_set HG1.out _⟩
        · have hI : decide ((0 : Int) < (ks.length : Int)) = false := decide_eq_false (by omega)
          go_wp2_with fail
          go_end0
          exact ⟨rfl, by rw [HT.out]; exact HB2.out, grown_set HG1.out _⟩
    have e2 : decide ((100 : Int) < (nm.size : Int)) = false := decide_eq_false (by omega)
    by_cases h3 : 100 < st.size
    · have e3 : decide ((100 : Int) < (st.size : Int)) = true := decide_eq_true (by omega)
      have HT := Lib.hid (wk_bad (ks := ks) (left := left) (show d = 0 ∨ 100 < nm.size ∨ 100 < st.size ∨ 40 < ks.length from Or.inr (Or.inr (Or.inl h3))))
      go_wp2_with fail
      go_loopw [6] (fun y wr => y = .int .i64 0 ∧ wr = W1.setCell ⟨P, 0, none⟩ (.int .i64 (-1))) (fun _ _ => 0)
      case atStart => exact ⟨rfl, rfl⟩
      case round =>
        obtain ⟨rfl, rfl⟩ := hrel
        have hb2 := HBG1.out.set (-1)
        have c1 := hb2.p.cell
        have HB2 := Lib.hid hb2
        have x2' := (blk3 ((Below.heap_setCell W1 ⟨P, 0, none⟩ (.int .i64 (-1)) _ (show w.heap.size ≠ P by omega)).trans HBX.out)).1.2.2
        clear hb2 x0 x1 x2
        by_cases hk0 : 0 < ks.length
        · have hI : decide ((0 : Int) < (ks.length : Int)) = true := decide_eq_true (by omega)
          go_wp2_with fail
          go_end0
          exact ⟨rfl, by rw [HT.out]; exact HB2.out, grown_set HG1.out _⟩
        · have hI : decide ((0 : Int) < (ks.length : Int)) = false := decide_eq_false (by omega)
          go_wp2_with fail
          go_end0
          exact ⟨rfl, by rw [HT.out]; exact HB2.out, grown_set HG1.out _⟩
    have e3 : decide ((100 : Int) < (st.size : Int)) = false := decide_eq_false (by omega)
    by_cases h4 : 40 < ks.length
    · have e4 : decide ((40 : Int) < (ks.length : Int)) = true := decide_eq_true (by omega)
      have HT := Lib.hid (wk_bad (ks := ks) (left := left) (show d = 0 ∨ 100 < nm.size ∨ 100 < st.size ∨ 40 < ks.length from Or.inr (Or.inr (Or.inr h4))))
      go_wp2_with fail
      go_loopw [6] (fun y wr => y = .int .i64 0 ∧ wr = W1.setCell ⟨P, 0, none⟩ (.int .i64 (-1))) (fun _ _ => 0)
      case atStart => exact ⟨rfl, rfl⟩
      case round =>
        obtain ⟨rfl, rfl⟩ := hrel
        have hb2 := HBG1.out.set (-1)
        have c1 := hb2.p.cell
        have HB2 := Lib.hid hb2
        have x2' := (blk3 ((Below.heap_setCell W1 ⟨P, 0, none⟩ (.int .i64 (-1)) _ (show w.heap.size ≠ P by omega)).trans HBX.out)).1.2.2
        clear hb2 x0 x1 x2
        by_cases hk0 : 0 < ks.length
        · have hI : decide ((0 : Int) < (ks.length : Int)) = true := decide_eq_true (by omega)
          go_wp2_with fail
          go_end0
          exact ⟨rfl, by rw [HT.out]; exact HB2.out, grown_set HG1.out _⟩
        · exfalso; omega
    have e4 : decide ((40 : Int) < (ks.length : Int)) = false := decide_eq_false (by omega)
    have HT := Lib.hid (wk_good (ks := ks) (left := left) (show ¬ (d = 0 ∨ 100 < nm.size ∨ 100 < st.size ∨ 40 < ks.length) by omega))
    go_wp2_with fail
    clear x0 x1 x2 e1 e2 e3 e4 c0 f0 hw1
    go_loopw [6] (fun y wr => ∃ k : Nat, y = .int .i64 k ∧ WInv P Q ks (.mk nm st ks) A c d (left - 1) w k wr) (fun y _ => ks.length - (intOf y).toNat)
    case atStart => exact ⟨0, rfl, left - 1, Nat.zero_le _, HBG1.out, HBX.out, HG1.out, rfl, by omega, by omega⟩
    case round =>
      clear HBG1 HBX HG1 HBG
      obtain ⟨k, rfl, l2, hk, hbg, hbx, hgr, heq, hb0, hb1⟩ := hrel
      obtain ⟨⟨x0, x1, x2⟩, _⟩ := blk3 hbx
      dsimp only [Tm.nm_mk, Tm.st_mk, Tm.ks_mk] at x0 x1 x2
      have c0 := hbg.p.cell
      have q0 := hbg.q.cell
      have HBG := Lib.hid hbg
      have HBX := Lib.hid hbx
      have HG := Lib.hid hgr
      have HEQ := Lib.hid heq
      have hsr := hgr.size
      clear hbg hbx hgr heq
      by_cases hlt : k < ks.length
      · have hI : decide ((k : Int) < (ks.length : Int)) = true := decide_eq_true (by omega)
        by_cases hl : 0 ≤ l2
        · obtain ⟨x, hx⟩ : ∃ x, ks[k]? = some x := ⟨ks[k]'hlt, List.getElem?_eq_getElem _⟩
          have hmem : x ∈ ks := List.mem_of_getElem? hx
          obtain ⟨tb, tq, A', c', rfl, htb, u0, u1, u2, hrx⟩ := HREP.out.kid (i := k) hx
          have hbn : Below n₀ w wr := bgrown_below HG.out hn (by omega)
          replace u0 := (hbn.cell (p := ⟨tb, _, none⟩) htb).trans u0
          replace u1 := (hbn.cell (p := ⟨tb, _, none⟩) htb).trans u1
          replace u2 := (hbn.cell (p := ⟨tb, _, none⟩) htb).trans u2
          have hbd := wk_bd x (d - 1) l2 hl
          have hq2 : BG wr.drew P Q l2 := ⟨HBG.out.p, HBG.out.q, HBG.out.ne⟩
          have HC := Lib.hid (HIH.out x hmem A' c' n₀ (d - 1) l2 wr.drew (hrx.later hbn.drew) hn (HOK.out.kid hmem) hq2 (by omega) (by omega) (by omega) hb1)
          have HX := Lib.hid hx
          have hI2 : (k : Int) < (ks.length : Int) := by omega
          have hl2 : decide (0 ≤ l2) = true := decide_eq_true hl
          have hwd : IntKind.i64.wrap (d - 1) = d - 1 := IntWalk.i64_in _ (by omega)
          have HL := Lib.hid hl
          unfold walkV at q0
          clear hx hrx hbn hq2 hmem hl
          go_wp2_with fail
          go_still_tail 8, (by kernel_rfl)
          change wpList _ _ _ _ _ wr.drew
          go_wp2_with fail
          refine HC.out.mono ?_
          rintro e w5 ⟨rfl, hbg5, hg5⟩
          have HBG5 := Lib.hid hbg5
          have HG5 := Lib.hid hg5
          have hs5 := hg5.size
          simp at hs5
          clear hbg5 hg5 HC
          go_wp2
          go_roundw
          case rel =>
            refine ⟨k + 1, by go_num, wk x (d - 1) l2, by omega, HBG5.out, bgrown_block (o := .cells _ _ _) HBX.out (w1 := wr.drew) HG5.out (by omega), ?_, ?_, by omega, by omega⟩
            · have hgd : w.grownBy wr.drew (some P) := ⟨HG.out.os, HG.out.tape, HG.out.output, HG.out.size, HG.out.block⟩
              exact only_trans hgd HG5.out
            · rw [HEQ.out, wks_at HX.out, if_pos HL.out]
          case measure => simp [intOf]; omega
        · have hl2 : decide (0 ≤ l2) = false := decide_eq_false hl
          have HL := Lib.hid (wks_neg (ks.drop k) (d - 1) l2 (by omega))
          clear hl
          go_wp2_with fail
          go_end0
          exact ⟨rfl, by rw [HT.out, HEQ.out, HL.out]; exact HBG.out, HG.out⟩
      · have hI : decide ((k : Int) < (ks.length : Int)) = false := decide_eq_false (by omega)
        have HK : Hid (ks.drop k = []) := Lib.hid (by rw [show k = ks.length by omega, List.drop_length])
        go_wp2_with fail
        go_end0
        exact ⟨rfl, by rw [HT.out, HEQ.out, HK.out]; exact HBG.out, HG.out⟩

def bigN (L : List Tm) : Int := L.foldl (fun l t => wk t 80 l) 1100
theorem bigN_snoc (L : List Tm) (x : Tm) : bigN (L ++ [x]) = wk x 80 (bigN L) := by unfold bigN; rw [List.foldl_append]; rfl
theorem wk_low (t : Tm) (d left : Int) (h : left < 0) : left - 1 ≤ wk t d left ∧ wk t d left ≤ -1 := by
  cases t with
  | mk n s ks =>
    by_cases hc : d = 0 ∨ 100 < n.size ∨ 100 < s.size ∨ 40 < ks.length
    · rw [wk_bad hc]; omega
    · rw [wk_good hc, wks_neg _ _ _ (by omega)]; omega
theorem wk_all (t : Tm) (d left : Int) (h : left ≤ 1100) : (min left 0) - 1 ≤ wk t d left ∧ wk t d left ≤ 1100 := by
  by_cases hl : 0 ≤ left
  · have := wk_bd t d left hl; omega
  · have := wk_low t d left (by omega); omega
def bigL (L : List Tm) : Bool := decide (bigN L < 0)
def BInv (L : List Tm) (w : World) (k : Nat) (wr : World) : Prop :=
  ∃ left : Int, k ≤ L.length ∧ BG wr w.heap.size (w.heap.size + 1) left ∧ Below w.heap.size w wr ∧ left = bigN (L.take k) ∧ -(k : Int) - 1 ≤ left ∧ left ≤ 1100
set_option maxHeartbeats 4000000 in
theorem bigTerms_any (nm st : ByteArray) (L : List Tm) (A : Option Addr) (c : Nat) (w : World) (hrep : TRep w.heap.size w (.mk nm st L) A) (hok : okT maxLen (.mk nm st L)) (hlen : L.length ≤ 100) :
    Calls Tryd.prog 31 #[.slice A L.length c] w fun e w' => e = .returned (.bool (bigL L)) ∧ Below w.heap.size w w' := by
  have HREP := Lib.hid hrep
  have HOK := Lib.hid hok
  have hbg : BG ((w.alloc (.cells #[.int .i64 1100] 3)).alloc (.cells #[walkV w.heap.size (w.heap.size + 1)] 113)) w.heap.size (w.heap.size + 1) 1100 := by
    have h2 := Boxed.new (w.alloc (.cells #[.int .i64 1100] 3)) 113 (walkV w.heap.size (w.heap.size + 1))
    rw [World.size_alloc] at h2
    exact ⟨(Boxed.new w _ _).alloc _, h2, by omega⟩
  have hB : Below w.heap.size w ((w.alloc (.cells #[.int .i64 1100] 3)).alloc (.cells #[walkV w.heap.size (w.heap.size + 1)] 113)) := ((Below.refl _ _).alloc (Nat.le_refl _) _).alloc (by simp) _
  unfold walkV at hB
  have hbg' := hbg
  unfold walkV at hbg'
  have HBG := Lib.hid hbg'
  have HB := Lib.hid hB
  clear hrep hok hbg hB hbg'
  go_enter Tryd.func31, Tryd.ntmps31
  go_wp2_with fail
  go_loopw [10] (fun y wr => ∃ k : Nat, y = .int .i64 k ∧ BInv L w k wr) (fun y _ => L.length - (intOf y).toNat)
  case atStart => exact ⟨0, rfl, 1100, Nat.zero_le _, HBG.out, HB.out, rfl, by omega, by omega⟩
  case round =>
    clear HBG HB
    obtain ⟨k, rfl, left, hk, hbg, hbw, hl, hb0, hb1⟩ := hrel
    have HBG := Lib.hid hbg
    have HBW := Lib.hid hbw
    have HL := Lib.hid hl
    have hPw := hbg.p.lt
    have hws := hbw.size
    clear hbg hbw hl
    by_cases hlt : k < L.length
    · obtain ⟨x, hx⟩ : ∃ x, L[k]? = some x := ⟨L[k]'hlt, List.getElem?_eq_getElem _⟩
      have hmem : x ∈ L := List.mem_of_getElem? hx
      obtain ⟨tb, tq, A', c', rfl, htb, u0, u1, u2, hrx⟩ := HREP.out.kid (i := k) hx
      replace u0 := (HBW.out.cell (p := ⟨tb, _, none⟩) htb).trans u0
      replace u1 := (HBW.out.cell (p := ⟨tb, _, none⟩) htb).trans u1
      replace u2 := (HBW.out.cell (p := ⟨tb, _, none⟩) htb).trans u2
      have HX := Lib.hid hx
      have hI : (k : Int) < (L.length : Int) := by omega
      have hb2 := HBG.out.alloc (.cells (tcells x A' c') 56)
      have q0 := hb2.q.cell
      unfold walkV at q0
      have hbd := wk_all x 80 left hb1
      have HC := Lib.hid (walk_any w.heap.size (w.heap.size + 1) x A' c' w.heap.size 80 left (wr.alloc (.cells (tcells x A' c') 56)) (hrx.later (HBW.out.alloc hws _)) (Nat.le_refl _) (HOK.out.kid hmem) hb2 (by omega) (by omega) (by omega) hb1)
      clear hx hrx hb2 hmem
      go_wp2_with fail
      refine HC.out.mono ?_
      rintro e w5 ⟨rfl, hbg5, hg5⟩
      have HBG5 := Lib.hid hbg5
      have HG5 := Lib.hid hg5
      clear hbg5 hg5 HC
      go_wp2
      go_roundw
      case rel =>
        refine ⟨k + 1, by go_num, wk x 80 left, by omega, HBG5.out, ?_, ?_, by omega, by omega⟩
        · exact (HBW.out.alloc hws _).grown HG5.out (by simp; omega) (fun j e => by injection e with e; omega)
        · rw [List.take_add_one, HX.out]
          show _ = bigN (L.take k ++ [x])
          rw [bigN_snoc, HL.out]
      case measure => simp [intOf]; omega
    · have hkl : k = L.length := by omega
      have hI : ¬ (k : Int) < (L.length : Int) := by omega
      have c0 := HBG.out.p.cell
      have HR : Hid (bigL L = decide (left < 0)) := Lib.hid (by unfold bigL; rw [HL.out, hkl, List.take_length])
      clear hkl
      go_wp2_with fail
      go_ret
      exact ⟨by rw [HR.out]; rfl, HBW.out⟩
end Go.Proofs.YthbcfcbonmphfaaDoor

/- Terms that are not big. -/
namespace Go.Proofs.YthbcfcbonmphfaaDoor
open Go.RowKit Go.Shelf
set_option maxRecDepth 100000
mutual
theorem wk_ok : ∀ (t : Tm) (d left : Int), 0 ≤ d → 0 ≤ wk t d left → okT 100 t ∧ (t.depth : Int) ≤ d ∧ wk t d left = left - t.size
  | .mk n s ks, d, left, hd, h => by
    by_cases hc : d = 0 ∨ 100 < n.size ∨ 100 < s.size ∨ 40 < ks.length
    · rw [wk_bad hc] at h; omega
    · rw [wk_good hc] at h ⊢
      obtain ⟨h1, h2, h3⟩ := wks_ok ks (d - 1) (left - 1) (by omega) h
      refine ⟨.mk n s ks (by omega) (by omega) (by omega) h1, ?_, ?_⟩
      · rw [Tm.depth]; omega
      · rw [h3, Tm.size]; omega
theorem wks_ok : ∀ (ks : List Tm) (d left : Int), 0 ≤ d → 0 ≤ wks ks d left → (∀ k, k ∈ ks → okT 100 k) ∧ (depths ks : Int) ≤ d ∧ wks ks d left = left - sizes ks
  | [], d, left, hd, h => ⟨(fun k hk => by cases hk), by simp [depths]; omega, by simp [wks, sizes]⟩
  | k :: ks, d, left, hd, h => by
    rw [wks] at h ⊢
    by_cases hl : 0 ≤ left
    · rw [if_pos hl] at h ⊢
      by_cases hk : 0 ≤ wk k d left
      · obtain ⟨h1, h2, h3⟩ := wk_ok k d left hd hk
        obtain ⟨h4, h5, h6⟩ := wks_ok ks d (wk k d left) hd h
        refine ⟨fun y hy => ?_, ?_, ?_⟩
        · rcases List.mem_cons.1 hy with he | hy
          · rw [he]; exact h1
          · exact h4 y hy
        · rw [depths]; omega
        · rw [h6, h3, sizes]; omega
      · rw [wks_neg ks d (wk k d left) (by omega)] at h; omega
    · rw [if_neg hl] at h; omega
end
theorem fold_neg : ∀ (L : List Tm) (l : Int), l < 0 → L.foldl (fun l t => wk t 80 l) l < 0
  | [], _, h => h
  | t :: L, l, h => fold_neg L (wk t 80 l) (by have := wk_low t 80 l h; omega)
theorem fold_ok : ∀ (L : List Tm) (l : Int), 0 ≤ L.foldl (fun l t => wk t 80 l) l → ∀ t, t ∈ L → okT 100 t ∧ t.depth ≤ 80
  | [], _, _, t, h => by cases h
  | x :: L, l, h, t, ht => by
    rw [List.foldl_cons] at h
    have h0 : 0 ≤ wk x 80 l := by
      by_cases hn : wk x 80 l < 0
      · have := fold_neg L _ hn; omega
      · omega
    rcases List.mem_cons.1 ht with he | ht
    · obtain ⟨h1, h2, _⟩ := wk_ok x 80 l (by omega) h0
      rw [he]; exact ⟨h1, by omega⟩
    · exact fold_ok L _ h t ht
/-- Terms that are not big have short names and lists, and are not deep. -/
theorem bigL_false {L : List Tm} (h : bigL L = false) : ∀ t, t ∈ L → okT 100 t ∧ t.depth ≤ 80 := by
  unfold bigL at h
  exact fold_ok L 1100 (by have := of_decide_eq_false h; unfold bigN at this; omega)
end Go.Proofs.YthbcfcbonmphfaaDoor
