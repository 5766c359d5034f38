/- The reference's Sort, Valid; Valid. -/
import Derived.StillTailTactics
import Derived.Laws.EntriesVeiled
import Derived.IntWalk
import Derived.Deep.DeepCutAuto
import Derived.Deep.CutBlock
import Derived.Test.YthbcfcbonmphfaaGreatDoorTermLBundle
import Derived.Test.YthbcfcbonmphfaaGreatDoorTermAddBundle
import Derived.Test.YthbcfcbonmphfaaGreatDoorTermFmBundle
import Derived.Test.YthbcfcbonmphfaaGreatDoorFormCBundle
/- big. -/
namespace Go.Proofs.YthbcfcbonmphfaaGreatDoor
open Go.RowKit Go.Shelf
set_option maxRecDepth 100000

mutual
/-- What is left after the nodes of a term at a depth. -/
def wk : Tm → Int → Int → Int
  | .mk n s ks, d, left => wks ks (d - 1) (if d = 0 ∨ 100 < n.size ∨ 100 < s.size ∨ 40 < ks.length then -1 else left - 1)
def wks : List Tm → Int → Int → Int
  | [], _, left => left
  | k :: ks, d, left => if 0 ≤ left then wks ks d (wk k d left) else left
end
mutual
theorem wk_bd : ∀ (t : Tm) (d left : Int), 0 ≤ left → -1 ≤ wk t d left ∧ wk t d left ≤ left - 1
  | .mk n s ks, d, left, h => by
    unfold wk
    by_cases hc : d = 0 ∨ 100 < n.size ∨ 100 < s.size ∨ 40 < ks.length
    · rw [if_pos hc]
      have := wks_bd ks (d - 1) (-1) (by omega)
      omega
    · rw [if_neg hc]
      exact wks_bd ks (d - 1) (left - 1) (by omega)
theorem wks_bd : ∀ (ks : List Tm) (d left : Int), -1 ≤ left → -1 ≤ wks ks d left ∧ wks ks d left ≤ left
  | [], d, left, h => by unfold wks; omega
  | k :: ks, d, left, h => by
    unfold wks
    by_cases hl : 0 ≤ left
    · rw [if_pos hl]
      have h1 := wk_bd k d left hl
      have h2 := wks_bd ks d (wk k d left) h1.1
      omega
    · rw [if_neg hl]; omega
end
theorem wks_at {L : List Tm} {k : Nat} {x : Tm} (hx : L[k]? = some x) (d left : Int) : wks (L.drop k) d left = if 0 ≤ left then wks (L.drop (k + 1)) d (wk x d left) else left := by
  obtain ⟨h1, e1⟩ := List.getElem?_eq_some_iff.1 hx
  rw [List.drop_eq_getElem_cons h1, e1, wks]
theorem wk_good {n s : ByteArray} {ks : List Tm} {d left : Int} (h : ¬ (d = 0 ∨ 100 < n.size ∨ 100 < s.size ∨ 40 < ks.length)) : wk (.mk n s ks) d left = wks ks (d - 1) (left - 1) := by
  rw [wk, if_neg h]
theorem wks_neg (L : List Tm) (d left : Int) (h : left < 0) : wks L d left = left := by
  cases L with
  | nil => rfl
  | cons k ks => rw [wks, if_neg (by omega)]

theorem wk_bad {n s : ByteArray} {ks : List Tm} {d left : Int} (h : d = 0 ∨ 100 < n.size ∨ 100 < s.size ∨ 40 < ks.length) : wk (.mk n s ks) d left = -1 := by
  rw [wk, if_pos h]
  exact wks_neg ks _ _ (by decide)
def walkV (P Q : Nat) : Value := .func (.func 30) #[] #[.pointer (some ⟨P, 0, none⟩), .pointer (some ⟨Q, 0, none⟩)]
/-- The boxes of big: how many are left; the function itself. -/
structure BG (w : World) (P Q : Nat) (left : Int) : Prop where
  p : Boxed w P 3 (.int .i64 left)
  q : Boxed w Q 63 (walkV P Q)
  ne : P ≠ Q
def WPost (P Q : Nat) (t : Tm) (d left : Int) (w : World) (e : Ending) (w' : World) : Prop := e = .returned (.tuple #[]) ∧ BG w' P Q (wk t d left) ∧ w.grownBy w' (some P)
def WInv (P Q : Nat) (ks : List Tm) (t : Tm) (A : Option Addr) (c : Nat) (d L2 : Int) (w : World) (k : Nat) (wr : World) : Prop :=
  ∃ left : Int, k ≤ ks.length ∧ BG wr P Q left ∧ wr.heap[w.heap.size]? = some (.cells (tcells t A c) 28 (0, 0)) ∧ w.grownBy wr (some P) ∧ wks ks (d - 1) L2 = wks (ks.drop k) (d - 1) left ∧ -1001 ≤ left ∧ left ≤ 1100
theorem bgrown_below {w w' : World} {P n : Nat} (h : w.grownBy w' (some P)) (hn : n ≤ P) (hs : n ≤ w.heap.size) : Below n w w' := (Below.refl n w).grown h hs (fun k e => by cases e; exact hn)
theorem bgrown_block {w1 w2 : World} {P : Nat} {o : Obj} {b : Nat} (h : w1.heap[b]? = some o) (hg : w1.grownBy w2 (some P)) (hP : b ≠ P) : w2.heap[b]? = some o :=
  (hg.block b (Array.getElem?_eq_some_iff.1 h).1 (fun e => hP (by injection e))).trans h
theorem BG.set {w : World} {P Q : Nat} {left : Int} (h : BG w P Q left) (l : Int) : BG (w.setCell ⟨P, 0, none⟩ (.int .i64 l)) P Q l := ⟨h.p.set _, h.q.other (fun e => h.ne e.symm) _, h.ne⟩
theorem BG.alloc {w : World} {P Q : Nat} {left : Int} (h : BG w P Q left) (o : Obj) : BG (w.alloc o) P Q left := ⟨h.p.alloc o, h.q.alloc o, h.ne⟩
theorem grown_set {w w' : World} {P : Nat} (h : w.grownBy w' (some P)) (v : Value) : w.grownBy (w'.setCell ⟨P, 0, none⟩ v) (some P) :=
  ⟨h.os, h.tape, h.output, by simpa using h.size, fun k hk hne => (Below.heap_setCell _ _ _ _ (fun e => hne (by rw [e]))).trans (h.block k hk hne)⟩

set_option maxHeartbeats 4000000 in
theorem walk_any (P Q : Nat) (t : Tm) : ∀ (A : Option Addr) (c n₀ : Nat) (d left : Int) (w : World), TRep n₀ w t A → n₀ ≤ P → okT maxLen t → BG w P Q left → 0 ≤ d → d ≤ 80 → -1000 ≤ left → left ≤ 1100 →
    Calls Tryz.prog 30 #[TV t A c, .int .i64 d, .pointer (some ⟨P, 0, none⟩), .pointer (some ⟨Q, 0, none⟩)] w (WPost P Q t d left w) := by
  induction t using Tm.ind with
  | h nm st ks ih =>
    intro A c n₀ d left w hrep hn hok hbg hd0 hd1 hl0 hl1
    have hln := hok.nm
    have hls := hok.st
    have hlk := hok.len
    unfold maxLen at hln hls hlk
    dsimp only [Tm.nm_mk, Tm.st_mk, Tm.ks_mk] at hln hls hlk
    have HIH := Lib.hid ih
    have HOK := Lib.hid hok
    have HREP := Lib.hid hrep
    have hPw := hbg.p.lt
    have hQw := hbg.q.lt
    have HNE := Lib.hid hbg.ne
    have c0 := hbg.p.cell
    have f0 := hbg.p.frozen
    have HBG := Lib.hid hbg
    have hw1 : IntKind.i64.wrap (left - 1) = left - 1 := IntWalk.i64_in _ (by omega)
    clear ih hok hrep hbg
    unfold TV
    dsimp only [Tm.nm_mk, Tm.st_mk, Tm.ks_mk]
    go_enter Tryz.func30, Tryz.ntmps30
    go_upto_region 2 with fail
    have hbg1 : BG ((w.setCell ⟨P, 0, none⟩ (.int .i64 (left - 1))).alloc (.cells #[.string nm, .string st, .slice A ks.length c] 28)) P Q (left - 1) := (HBG.out.set _).alloc _
    have hbx : ((w.setCell ⟨P, 0, none⟩ (.int .i64 (left - 1))).alloc (.cells #[.string nm, .string st, .slice A ks.length c] 28)).heap[w.heap.size]? = some (.cells #[.string nm, .string st, .slice A ks.length c] 28 (0, 0)) := by
      have := heap_alloc_new (w.setCell ⟨P, 0, none⟩ (.int .i64 (left - 1))) (.cells #[.string nm, .string st, .slice A ks.length c] 28)
      simpa using this
    have hg1 : w.grownBy ((w.setCell ⟨P, 0, none⟩ (.int .i64 (left - 1))).alloc (.cells #[.string nm, .string st, .slice A ks.length c] 28)) (some P) := only_alloc (grownBy_setCell' w P _) _
    generalize ((w.setCell ⟨P, 0, none⟩ (.int .i64 (left - 1))).alloc (.cells #[.string nm, .string st, .slice A ks.length c] 28)) = W1 at hbg1 hbx hg1 ⊢
    clear c0 f0
    have c0 := hbg1.p.cell
    have f0 := hbg1.p.frozen
    obtain ⟨⟨x0, x1, x2⟩, _⟩ := blk3 hbx
    have HBG1 := Lib.hid hbg1
    have HBX := Lib.hid hbx
    have HG1 := Lib.hid hg1
    have hs1 := hg1.size
    clear hbg1 hbx hg1
    by_cases h1 : d = 0
    · have e1 : (d == 0) = true := by rw [h1]; rfl
      have HT := Lib.hid (wk_bad (ks := ks) (left := left) (show d = 0 ∨ 100 < nm.size ∨ 100 < st.size ∨ 40 < ks.length from Or.inl h1))
      go_wp2_with fail
      go_loopw [6] (fun y wr => y = .int .i64 0 ∧ wr = W1.setCell ⟨P, 0, none⟩ (.int .i64 (-1))) (fun _ _ => 0)
      case atStart => exact ⟨rfl, rfl⟩
      case round =>
        obtain ⟨rfl, rfl⟩ := hrel
        have hb2 := HBG1.out.set (-1)
        have c1 := hb2.p.cell
        have HB2 := Lib.hid hb2
        have x2' := (blk3 ((Below.heap_setCell W1 ⟨P, 0, none⟩ (.int .i64 (-1)) _ (show w.heap.size ≠ P by omega)).trans HBX.out)).1.2.2
        clear hb2 x0 x1 x2
        by_cases hk0 : 0 < ks.length
        · have hI : decide ((0 : Int) < (ks.length : Int)) = true := decide_eq_true (by omega)
          go_wp2_with fail
          go_end0
          exact ⟨rfl, by rw [HT.out]; exact HB2.out, grown_set HG1.out _⟩
        · have hI : decide ((0 : Int) < (ks.length : Int)) = false := decide_eq_false (by omega)
          go_wp2_with fail
          go_end0
          exact ⟨rfl, by rw [HT.out]; exact HB2.out, grown_set HG1.out _⟩
    have e1 : (d == 0) = false := beq_eq_false_iff_ne.2 h1
    by_cases h2 : 100 < nm.size
    · have e2 : decide ((100 : Int) < (nm.size : Int)) = true := decide_eq_true (by omega)
      have HT := Lib.hid (wk_bad (ks := ks) (left := left) (show d = 0 ∨ 100 < nm.size ∨ 100 < st.size ∨ 40 < ks.length from Or.inr (Or.inl h2)))
      go_wp2_with fail
      go_loopw [6] (fun y wr => y = .int .i64 0 ∧ wr = W1.setCell ⟨P, 0, none⟩ (.int .i64 (-1))) (fun _ _ => 0)
      case atStart => exact ⟨rfl, rfl⟩
      case round =>
        obtain ⟨rfl, rfl⟩ := hrel
        have hb2 := HBG1.out.set (-1)
        have c1 := hb2.p.cell
        have HB2 := Lib.hid hb2
        have x2' := (blk3 ((Below.heap_setCell W1 ⟨P, 0, none⟩ (.int .i64 (-1)) _ (show w.heap.size ≠ P by omega)).trans HBX.out)).1.2.2
        clear hb2 x0 x1 x2
        by_cases hk0 : 0 < ks.length
        · have hI : decide ((0 : Int) < (ks.length : Int)) = true := decide_eq_true (by omega)
          go_wp2_with fail
          go_end0
          exact ⟨rfl, by rw [HT.out]; exact HB2.out, grown_set HG1.out _⟩
        · have hI : decide ((0 : Int) < (ks.length : Int)) = false := decide_eq_false (by omega)
          go_wp2_with fail
          go_end0
          exact ⟨rfl, by rw [HT.out]; exact HB2.out, grown_set HG1.out _⟩
    have e2 : decide ((100 : Int) < (nm.size : Int)) = false := decide_eq_false (by omega)
    by_cases h3 : 100 < st.size
    · have e3 : decide ((100 : Int) < (st.size : Int)) = true := decide_eq_true (by omega)
      have HT := Lib.hid (wk_bad (ks := ks) (left := left) (show d = 0 ∨ 100 < nm.size ∨ 100 < st.size ∨ 40 < ks.length from Or.inr (Or.inr (Or.inl h3))))
      go_wp2_with fail
      go_loopw [6] (fun y wr => y = .int .i64 0 ∧ wr = W1.setCell ⟨P, 0, none⟩ (.int .i64 (-1))) (fun _ _ => 0)
      case atStart => exact ⟨rfl, rfl⟩
      case round =>
        obtain ⟨rfl, rfl⟩ := hrel
        have hb2 := HBG1.out.set (-1)
        have c1 := hb2.p.cell
        have HB2 := Lib.hid hb2
        have x2' := (blk3 ((Below.heap_setCell W1 ⟨P, 0, none⟩ (.int .i64 (-1)) _ (show w.heap.size ≠ P by omega)).trans HBX.out)).1.2.2
        clear hb2 x0 x1 x2
        by_cases hk0 : 0 < ks.length
        · have hI : decide ((0 : Int) < (ks.length : Int)) = true := decide_eq_true (by omega)
          go_wp2_with fail
          go_end0
          exact ⟨rfl, by rw [HT.out]; exact HB2.out, grown_set HG1.out _⟩
        · have hI : decide ((0 : Int) < (ks.length : Int)) = false := decide_eq_false (by omega)
          go_wp2_with fail
          go_end0
          exact ⟨rfl, by rw [HT.out]; exact HB2.out, grown_set HG1.out _⟩
    have e3 : decide ((100 : Int) < (st.size : Int)) = false := decide_eq_false (by omega)
    by_cases h4 : 40 < ks.length
    · have e4 : decide ((40 : Int) < (ks.length : Int)) = true := decide_eq_true (by omega)
      have HT := Lib.hid (wk_bad (ks := ks) (left := left) (show d = 0 ∨ 100 < nm.size ∨ 100 < st.size ∨ 40 < ks.length from Or.inr (Or.inr (Or.inr h4))))
      go_wp2_with fail
      go_loopw [6] (fun y wr => y = .int .i64 0 ∧ wr = W1.setCell ⟨P, 0, none⟩ (.int .i64 (-1))) (fun _ _ => 0)
      case atStart => exact ⟨rfl, rfl⟩
      case round =>
        obtain ⟨rfl, rfl⟩ := hrel
        have hb2 := HBG1.out.set (-1)
        have c1 := hb2.p.cell
        have HB2 := Lib.hid hb2
        have x2' := (blk3 ((Below.heap_setCell W1 ⟨P, 0, none⟩ (.int .i64 (-1)) _ (show w.heap.size ≠ P by omega)).trans HBX.out)).1.2.2
        clear hb2 x0 x1 x2
        by_cases hk0 : 0 < ks.length
        · have hI : decide ((0 : Int) < (ks.length : Int)) = true := decide_eq_true (by omega)
          go_wp2_with fail
          go_end0
          exact ⟨rfl, by rw [HT.out]; exact HB2.out, grown_set HG1.out _⟩
        · exfalso; omega
    have e4 : decide ((40 : Int) < (ks.length : Int)) = false := decide_eq_false (by omega)
    have HT := Lib.hid (wk_good (ks := ks) (left := left) (show ¬ (d = 0 ∨ 100 < nm.size ∨ 100 < st.size ∨ 40 < ks.length) by omega))
    go_wp2_with fail
    clear x0 x1 x2 e1 e2 e3 e4 c0 f0 hw1
    go_loopw [6] (fun y wr => ∃ k : Nat, y = .int .i64 k ∧ WInv P Q ks (.mk nm st ks) A c d (left - 1) w k wr) (fun y _ => ks.length - (intOf y).toNat)
    case atStart => exact ⟨0, rfl, left - 1, Nat.zero_le _, HBG1.out, HBX.out, HG1.out, rfl, by omega, by omega⟩
    case round =>
      clear HBG1 HBX HG1 HBG
      obtain ⟨k, rfl, l2, hk, hbg, hbx, hgr, heq, hb0, hb1⟩ := hrel
      obtain ⟨⟨x0, x1, x2⟩, _⟩ := blk3 hbx
      dsimp only [Tm.nm_mk, Tm.st_mk, Tm.ks_mk] at x0 x1 x2
      have c0 := hbg.p.cell
      have q0 := hbg.q.cell
      have HBG := Lib.hid hbg
      have HBX := Lib.hid hbx
      have HG := Lib.hid hgr
      have HEQ := Lib.hid heq
      have hsr := hgr.size
      clear hbg hbx hgr heq
      by_cases hlt : k < ks.length
      · have hI : decide ((k : Int) < (ks.length : Int)) = true := decide_eq_true (by omega)
        by_cases hl : 0 ≤ l2
        · obtain ⟨x, hx⟩ : ∃ x, ks[k]? = some x := ⟨ks[k]'hlt, List.getElem?_eq_getElem _⟩
          have hmem : x ∈ ks := List.mem_of_getElem? hx
          obtain ⟨tb, tq, A', c', rfl, htb, u0, u1, u2, hrx⟩ := HREP.out.kid (i := k) hx
          have hbn : Below n₀ w wr := bgrown_below HG.out hn (by omega)
          replace u0 := (hbn.cell (p := ⟨tb, _, none⟩) htb).trans u0
          replace u1 := (hbn.cell (p := ⟨tb, _, none⟩) htb).trans u1
          replace u2 := (hbn.cell (p := ⟨tb, _, none⟩) htb).trans u2
          have hbd := wk_bd x (d - 1) l2 hl
          have hq2 : BG wr.drew P Q l2 := ⟨HBG.out.p, HBG.out.q, HBG.out.ne⟩
          have HC := Lib.hid (HIH.out x hmem A' c' n₀ (d - 1) l2 wr.drew (hrx.later hbn.drew) hn (HOK.out.kid hmem) hq2 (by omega) (by omega) (by omega) hb1)
          have HX := Lib.hid hx
          have hI2 : (k : Int) < (ks.length : Int) := by omega
          have hl2 : decide (0 ≤ l2) = true := decide_eq_true hl
          have hwd : IntKind.i64.wrap (d - 1) = d - 1 := IntWalk.i64_in _ (by omega)
          have HL := Lib.hid hl
          unfold walkV at q0
          clear hx hrx hbn hq2 hmem hl
          go_wp2_with fail
          go_still_tail 8, (by kernel_rfl)
          change wpList _ _ _ _ _ wr.drew
          go_wp2_with fail
          refine HC.out.mono ?_
          rintro e w5 ⟨rfl, hbg5, hg5⟩
          have HBG5 := Lib.hid hbg5
          have HG5 := Lib.hid hg5
          have hs5 := hg5.size
          simp at hs5
          clear hbg5 hg5 HC
          go_wp2
          go_roundw
          case rel =>
            refine ⟨k + 1, by go_num, wk x (d - 1) l2, by omega, HBG5.out, bgrown_block (o := .cells _ _ _) HBX.out (w1 := wr.drew) HG5.out (by omega), ?_, ?_, by omega, by omega⟩
            · have hgd : w.grownBy wr.drew (some P) := ⟨HG.out.os, HG.out.tape, HG.out.output, HG.out.size, HG.out.block⟩
              exact only_trans hgd HG5.out
            · rw [HEQ.out, wks_at HX.out, if_pos HL.out]
          case measure => simp [intOf]; omega
        · have hl2 : decide (0 ≤ l2) = false := decide_eq_false hl
          have HL := Lib.hid (wks_neg (ks.drop k) (d - 1) l2 (by omega))
          clear hl
          go_wp2_with fail
          go_end0
          exact ⟨rfl, by rw [HT.out, HEQ.out, HL.out]; exact HBG.out, HG.out⟩
      · have hI : decide ((k : Int) < (ks.length : Int)) = false := decide_eq_false (by omega)
        have HK : Hid (ks.drop k = []) := Lib.hid (by rw [show k = ks.length by omega, List.drop_length])
        go_wp2_with fail
        go_end0
        exact ⟨rfl, by rw [HT.out, HEQ.out, HK.out]; exact HBG.out, HG.out⟩

def bigN (L : List Tm) : Int := L.foldl (fun l t => wk t 80 l) 1100
theorem bigN_snoc (L : List Tm) (x : Tm) : bigN (L ++ [x]) = wk x 80 (bigN L) := by unfold bigN; rw [List.foldl_append]; rfl
theorem wk_low (t : Tm) (d left : Int) (h : left < 0) : left - 1 ≤ wk t d left ∧ wk t d left ≤ -1 := by
  cases t with
  | mk n s ks =>
    by_cases hc : d = 0 ∨ 100 < n.size ∨ 100 < s.size ∨ 40 < ks.length
    · rw [wk_bad hc]; omega
    · rw [wk_good hc, wks_neg _ _ _ (by omega)]; omega
theorem wk_all (t : Tm) (d left : Int) (h : left ≤ 1100) : (min left 0) - 1 ≤ wk t d left ∧ wk t d left ≤ 1100 := by
  by_cases hl : 0 ≤ left
  · have := wk_bd t d left hl; omega
  · have := wk_low t d left (by omega); omega
def bigL (L : List Tm) : Bool := decide (bigN L < 0)
def BInv (L : List Tm) (w : World) (k : Nat) (wr : World) : Prop :=
  ∃ left : Int, k ≤ L.length ∧ BG wr w.heap.size (w.heap.size + 1) left ∧ Below w.heap.size w wr ∧ left = bigN (L.take k) ∧ -(k : Int) - 1 ≤ left ∧ left ≤ 1100
set_option maxHeartbeats 4000000 in
theorem bigTerms_any (nm st : ByteArray) (L : List Tm) (A : Option Addr) (c : Nat) (w : World) (hrep : TRep w.heap.size w (.mk nm st L) A) (hok : okT maxLen (.mk nm st L)) (hlen : L.length ≤ 100) :
    Calls Tryz.prog 6 #[.slice A L.length c] w fun e w' => e = .returned (.bool (bigL L)) ∧ Below w.heap.size w w' := by
  have HREP := Lib.hid hrep
  have HOK := Lib.hid hok
  have hbg : BG ((w.alloc (.cells #[.int .i64 1100] 3)).alloc (.cells #[walkV w.heap.size (w.heap.size + 1)] 63)) w.heap.size (w.heap.size + 1) 1100 := by
    have h2 := Boxed.new (w.alloc (.cells #[.int .i64 1100] 3)) 63 (walkV w.heap.size (w.heap.size + 1))
    rw [World.size_alloc] at h2
    exact ⟨(Boxed.new w _ _).alloc _, h2, by omega⟩
  have hB : Below w.heap.size w ((w.alloc (.cells #[.int .i64 1100] 3)).alloc (.cells #[walkV w.heap.size (w.heap.size + 1)] 63)) := ((Below.refl _ _).alloc (Nat.le_refl _) _).alloc (by simp) _
  unfold walkV at hB
  have hbg' := hbg
  unfold walkV at hbg'
  have HBG := Lib.hid hbg'
  have HB := Lib.hid hB
  clear hrep hok hbg hB hbg'
  go_enter Tryz.func6, Tryz.ntmps6
  go_wp2_with fail
  go_loopw [10] (fun y wr => ∃ k : Nat, y = .int .i64 k ∧ BInv L w k wr) (fun y _ => L.length - (intOf y).toNat)
  case atStart => exact ⟨0, rfl, 1100, Nat.zero_le _, HBG.out, HB.out, rfl, by omega, by omega⟩
  case round =>
    clear HBG HB
    obtain ⟨k, rfl, left, hk, hbg, hbw, hl, hb0, hb1⟩ := hrel
    have HBG := Lib.hid hbg
    have HBW := Lib.hid hbw
    have HL := Lib.hid hl
    have hPw := hbg.p.lt
    have hws := hbw.size
    clear hbg hbw hl
    by_cases hlt : k < L.length
    · obtain ⟨x, hx⟩ : ∃ x, L[k]? = some x := ⟨L[k]'hlt, List.getElem?_eq_getElem _⟩
      have hmem : x ∈ L := List.mem_of_getElem? hx
      obtain ⟨tb, tq, A', c', rfl, htb, u0, u1, u2, hrx⟩ := HREP.out.kid (i := k) hx
      replace u0 := (HBW.out.cell (p := ⟨tb, _, none⟩) htb).trans u0
      replace u1 := (HBW.out.cell (p := ⟨tb, _, none⟩) htb).trans u1
      replace u2 := (HBW.out.cell (p := ⟨tb, _, none⟩) htb).trans u2
      have HX := Lib.hid hx
      have hI : (k : Int) < (L.length : Int) := by omega
      have hb2 := HBG.out.alloc (.cells (tcells x A' c') 28)
      have q0 := hb2.q.cell
      unfold walkV at q0
      have hbd := wk_all x 80 left hb1
      have HC := Lib.hid (walk_any w.heap.size (w.heap.size + 1) x A' c' w.heap.size 80 left (wr.alloc (.cells (tcells x A' c') 28)) (hrx.later (HBW.out.alloc hws _)) (Nat.le_refl _) (HOK.out.kid hmem) hb2 (by omega) (by omega) (by omega) hb1)
      clear hx hrx hb2 hmem
      go_wp2_with fail
      refine HC.out.mono ?_
      rintro e w5 ⟨rfl, hbg5, hg5⟩
      have HBG5 := Lib.hid hbg5
      have HG5 := Lib.hid hg5
      clear hbg5 hg5 HC
      go_wp2
      go_roundw
      case rel =>
        refine ⟨k + 1, by go_num, wk x 80 left, by omega, HBG5.out, ?_, ?_, by omega, by omega⟩
        · exact (HBW.out.alloc hws _).grown HG5.out (by simp; omega) (fun j e => by injection e with e; omega)
        · rw [List.take_add_one, HX.out]
          show _ = bigN (L.take k ++ [x])
          rw [bigN_snoc, HL.out]
      case measure => simp [intOf]; omega
    · have hkl : k = L.length := by omega
      have hI : ¬ (k : Int) < (L.length : Int) := by omega
      have c0 := HBG.out.p.cell
      have HR : Hid (bigL L = decide (left < 0)) := Lib.hid (by unfold bigL; rw [HL.out, hkl, List.take_length])
      clear hkl
      go_wp2_with fail
      go_ret
      exact ⟨by rw [HR.out]; rfl, HBW.out⟩
end Go.Proofs.YthbcfcbonmphfaaGreatDoor

/- Terms that are not big. -/
namespace Go.Proofs.YthbcfcbonmphfaaGreatDoor
open Go.RowKit Go.Shelf
set_option maxRecDepth 100000
mutual
theorem wk_ok : ∀ (t : Tm) (d left : Int), 0 ≤ d → 0 ≤ wk t d left → okT 100 t ∧ (t.depth : Int) ≤ d ∧ wk t d left = left - t.size
  | .mk n s ks, d, left, hd, h => by
    by_cases hc : d = 0 ∨ 100 < n.size ∨ 100 < s.size ∨ 40 < ks.length
    · rw [wk_bad hc] at h; omega
    · rw [wk_good hc] at h ⊢
      obtain ⟨h1, h2, h3⟩ := wks_ok ks (d - 1) (left - 1) (by omega) h
      refine ⟨.mk n s ks (by omega) (by omega) (by omega) h1, ?_, ?_⟩
      · rw [Tm.depth]; omega
      · rw [h3, Tm.size]; omega
theorem wks_ok : ∀ (ks : List Tm) (d left : Int), 0 ≤ d → 0 ≤ wks ks d left → (∀ k, k ∈ ks → okT 100 k) ∧ (depths ks : Int) ≤ d ∧ wks ks d left = left - sizes ks
  | [], d, left, hd, h => ⟨(fun k hk => by cases hk), by simp [depths]; omega, by simp [wks, sizes]⟩
  | k :: ks, d, left, hd, h => by
    rw [wks] at h ⊢
    by_cases hl : 0 ≤ left
    · rw [if_pos hl] at h ⊢
      by_cases hk : 0 ≤ wk k d left
      · obtain ⟨h1, h2, h3⟩ := wk_ok k d left hd hk
        obtain ⟨h4, h5, h6⟩ := wks_ok ks d (wk k d left) hd h
        refine ⟨fun y hy => ?_, ?_, ?_⟩
        · rcases List.mem_cons.1 hy with he | hy
          · rw [he]; exact h1
          · exact h4 y hy
        · rw [depths]; omega
        · rw [h6, h3, sizes]; omega
      · rw [wks_neg ks d (wk k d left) (by omega)] at h; omega
    · rw [if_neg hl] at h; omega
end
theorem fold_neg : ∀ (L : List Tm) (l : Int), l < 0 → L.foldl (fun l t => wk t 80 l) l < 0
  | [], _, h => h
  | t :: L, l, h => fold_neg L (wk t 80 l) (by have := wk_low t 80 l h; omega)
theorem fold_ok : ∀ (L : List Tm) (l : Int), 0 ≤ L.foldl (fun l t => wk t 80 l) l → ∀ t, t ∈ L → okT 100 t ∧ t.depth ≤ 80
  | [], _, _, t, h => by cases h
  | x :: L, l, h, t, ht => by
    rw [List.foldl_cons] at h
    have h0 : 0 ≤ wk x 80 l := by
      by_cases hn : wk x 80 l < 0
      · have := fold_neg L _ hn; omega
      · omega
    rcases List.mem_cons.1 ht with he | ht
    · obtain ⟨h1, h2, _⟩ := wk_ok x 80 l (by omega) h0
      rw [he]; exact ⟨h1, by omega⟩
    · exact fold_ok L _ h t ht
/-- Terms that are not big have short names and lists, and are not deep. -/
theorem bigL_false {L : List Tm} (h : bigL L = false) : ∀ t, t ∈ L → okT 100 t ∧ t.depth ≤ 80 := by
  unfold bigL at h
  exact fold_ok L 1100 (by have := of_decide_eq_false h; unfold bigN at this; omega)
end Go.Proofs.YthbcfcbonmphfaaGreatDoor
/- The reference's vars and Formed. -/
namespace Go.Proofs.YthbcfcbonmphfaaGreatDoor
open Go.RowKit Go.Shelf
set_option maxRecDepth 100000

theorem insF_len : ∀ (l : List FF) (f : FF), (insF l f).1.length ≤ l.length + 1
  | [], f => by simp [insF]
  | g :: l, f => by
    have ih := insF_len l f
    unfold insF
    split
    · simp only [List.length_cons]; omega
    · split
      · simp only [List.length_cons]; omega
      · simp only [List.length_cons]; omega
mutual
theorem varsT_len : ∀ (t : Tm) (l : List FF), (varsT t l).1.length ≤ l.length + t.size
  | .mk n s ks, l => by
    unfold varsT
    rw [Tm.size]
    split
    · have := varsL_len ks l; omega
    · have := insF_len l (n, s); omega
theorem varsL_len : ∀ (ks : List Tm) (l : List FF), (varsL ks l).1.length ≤ l.length + sizes ks
  | [], l => by simp [varsL]
  | k :: ks, l => by
    have h1 := varsT_len k l
    have h2 := varsL_len ks (varsT k l).1
    unfold varsL
    rw [sizes]
    split
    · omega
    · show l.length ≤ _; omega
end
theorem varsL_at {L : List Tm} {k : Nat} {x : Tm} (hx : L[k]? = some x) (l : List FF) : varsL (L.drop k) l = if (varsT x l).2 then varsL (L.drop (k + 1)) (varsT x l).1 else (l, false) := by
  obtain ⟨h1, e1⟩ := List.getElem?_eq_some_iff.1 hx
  rw [List.drop_eq_getElem_cons h1, e1, varsL]
theorem sizes_at {L : List Tm} {k : Nat} {x : Tm} (hx : L[k]? = some x) : sizes (L.drop k) = x.size + sizes (L.drop (k + 1)) := by
  obtain ⟨h1, e1⟩ := List.getElem?_eq_some_iff.1 hx
  rw [List.drop_eq_getElem_cons h1, e1, sizes]
def VaPost (r : List FF × Bool) (w : World) (e : Ending) (w' : World) : Prop :=
  (∃ v', e = .returned (.tuple #[v', .bool r.2]) ∧ (r.2 = true → FLv w' v' r.1)) ∧ Below w.heap.size w w'
def VaInv (ks : List Tm) (t : Tm) (A : Option Addr) (c : Nat) (l : List FF) (w : World) (k : Nat) (z : Value) (l2 : List FF) (wr : World) : Prop :=
  k ≤ ks.length ∧ wr.heap[w.heap.size]? = some (.cells (tcells t A c) 28 (0, 0)) ∧ Below w.heap.size w wr ∧ FLv wr z l2 ∧ varsL ks l = varsL (ks.drop k) l2 ∧ l2.length + sizes (ks.drop k) ≤ 100000
theorem FLv.next {w w' : World} {v : Value} {l : List FF} {n : Nat} (h : FLv w v l) (hb : Below n w w') (hn : w.heap.size ≤ n) : FLv w' v l := h.below (hb.mono hn)
set_option maxHeartbeats 4000000 in
theorem vars_any (t : Tm) : ∀ (A : Option Addr) (c n₀ : Nat) (l : List FF) (v : Value) (w : World), TRep n₀ w t A → n₀ ≤ w.heap.size → okT maxLen t → FLv w v l → l.length + t.size ≤ 100000 →
    Calls Tryz.prog 48 #[v, TV t A c] w (VaPost (varsT t l) w) := by
  induction t using Tm.ind with
  | h nm st ks ih =>
    intro A c n₀ l v w hrep hn hok hv hlen
    rw [Tm.size] at hlen
    have hlk := hok.len
    dsimp only [Tm.nm_mk, Tm.st_mk, Tm.ks_mk] at hlk
    unfold maxLen at hlk
    have HIH := Lib.hid ih
    have HOK := Lib.hid hok
    have HREP := Lib.hid hrep
    have hbx := heap_alloc_new w (.cells #[.string nm, .string st, .slice A ks.length c] 28)
    have HBX := Lib.hid hbx
    have HB0 := Lib.hid ((Below.refl w.heap.size w).alloc (Nat.le_refl _) (.cells #[.string nm, .string st, .slice A ks.length c] 28))
    have HV := Lib.hid (hv.below HB0.out)
    obtain ⟨⟨x0, x1, x2⟩, _⟩ := blk3 hbx
    clear ih hok hrep hbx hv
    unfold TV
    dsimp only [Tm.nm_mk, Tm.st_mk, Tm.ks_mk]
    by_cases h5 : st.toList.isEmpty = true
    · have e5 : (st.toList == []) = true := by rw [List.isEmpty_iff.1 h5]; rfl
      have HT : Hid (varsT (.mk nm st ks) l = varsL ks l) := Lib.hid (by unfold varsT; rw [if_pos h5])
      clear h5
      go_enter Tryz.func48, Tryz.ntmps48
      go_wp2_with fail
      clear x0 x1 x2
      go_loopw [6, 0] (fun y z wr => ∃ (k : Nat) (l2 : List FF), y = .int .i64 k ∧ VaInv ks (.mk nm st ks) A c l w k z l2 wr) (fun y _ _ => ks.length - (intOf y).toNat)
      case atStart => exact ⟨0, l, rfl, Nat.zero_le _, HBX.out, HB0.out, HV.out, rfl, by rw [List.drop_zero]; omega⟩
      case round =>
        clear HBX HB0 HV
        obtain ⟨k, l2, rfl, hk, hbx, hbw, hfl, heq, hl2⟩ := hrel
        obtain ⟨⟨x0, x1, x2⟩, _⟩ := blk3 hbx
        dsimp only [Tm.nm_mk, Tm.st_mk, Tm.ks_mk] at x0 x1 x2
        have HBX := Lib.hid hbx
        have HBW := Lib.hid hbw
        have HEQ := Lib.hid heq
        have HFL := Lib.hid hfl
        have HL2 := Lib.hid hl2
        have hws := hbw.size
        clear hbx hbw heq hfl hl2
        by_cases hlt : k < ks.length
        · obtain ⟨x, hx⟩ : ∃ x, ks[k]? = some x := ⟨ks[k]'hlt, List.getElem?_eq_getElem _⟩
          have hmem : x ∈ ks := List.mem_of_getElem? hx
          obtain ⟨tb, tq, A', c', rfl, htb, u0, u1, u2, hrx⟩ := HREP.out.kid (i := k) hx
          have hbn := HBW.out.mono hn
          replace u0 := (hbn.cell (p := ⟨tb, _, none⟩) htb).trans u0
          replace u1 := (hbn.cell (p := ⟨tb, _, none⟩) htb).trans u1
          replace u2 := (hbn.cell (p := ⟨tb, _, none⟩) htb).trans u2
          have hsz := sizes_at hx
          have HC := Lib.hid (HIH.out x hmem A' c' n₀ l2 _ _ (hrx.later hbn) (by omega) (HOK.out.kid hmem) HFL.out (by have := HL2.out; omega))
          have HS := Lib.hid hsz
          have HX := Lib.hid hx
          have hI : (k : Int) < (ks.length : Int) := by omega
          clear hx hrx hbn hmem hsz
          unfold TV at HC
          go_wp2_with fail
          refine HC.out.mono ?_
          rintro e w5 ⟨⟨v5, rfl, hf5⟩, hb5⟩
          have HB5 := Lib.hid hb5
          have HF5 := Lib.hid hf5
          clear hb5 hf5 HC x0 x1 x2 u0 u1 u2
          cases hok2 : (varsT x l2).2 with
          | false =>
            have HO := Lib.hid hok2
            clear hok2
            go_wp2_with fail
            go_ret2
            refine ⟨⟨u0, ?_, fun h => ?_⟩, HBW.out.trans (HB5.out.mono hws)⟩
            · rw [HT.out, HEQ.out, varsL_at HX.out, HO.out]; rfl
            · rw [HT.out, HEQ.out, varsL_at HX.out, HO.out] at h; cases h
          | true =>
            have HO := Lib.hid hok2
            clear hok2
            go_wp2_with fail
            go_roundw
            case rel =>
              refine ⟨k + 1, (varsT x l2).1, by go_num, by omega, cells_below HBX.out HB5.out, HBW.out.trans (HB5.out.mono hws), HF5.out HO.out, ?_, ?_⟩
              · rw [HEQ.out, varsL_at HX.out, if_pos HO.out]
              · have := HL2.out
                have := HS.out
                have := varsT_len x l2
                omega
            case measure => simp [intOf]; omega
        · have hI : ¬ (k : Int) < (ks.length : Int) := by omega
          have HK : Hid (ks.drop k = []) := Lib.hid (by rw [show k = ks.length by omega, List.drop_length])
          go_wp2_with fail
          go_ret2
          refine ⟨⟨u0, ?_, fun h => ?_⟩, HBW.out⟩
          · rw [HT.out, HEQ.out, HK.out]; rfl
          · rw [HT.out, HEQ.out, HK.out]; exact HFL.out
    · have e5 : (st.toList == []) = false := by
        cases hst : st.toList with
        | nil => rw [hst] at h5; exact absurd rfl h5
        | cons a b => rfl
      have HT : Hid (varsT (.mk nm st ks) l = insF l (nm, st)) := Lib.hid (by unfold varsT; rw [if_neg h5])
      clear h5
      go_enter Tryz.func48, Tryz.ntmps48
      go_wp2_with fail
      refine (add_any l (nm, st) _ _ HV.out (by omega)).mono ?_
      rintro e w1 ⟨⟨v1, rfl, hf1⟩, hb1⟩
      have HB1 := Lib.hid (HB0.out.trans (hb1.mono HB0.out.size))
      have HF1 := Lib.hid hf1
      clear hb1 hf1 x0 x1 x2
      go_wp2_with fail
      go_ret2
      refine ⟨⟨v1, ?_, fun h => ?_⟩, HB1.out⟩
      · rw [HT.out]; rfl
      · rw [HT.out] at h ⊢; exact HF1.out h

theorem formed_any (t : Tm) (A : Option Addr) (c n₀ : Nat) (w : World) (hrep : TRep n₀ w t A) (hn : n₀ ≤ w.heap.size) (hok : okT maxLen t) :
    Calls Tryz.prog 14 #[TV t A c] w fun e w' => e = .returned (.bool (formed t)) ∧ Below w.heap.size w w' := by
  have hbx := heap_alloc_new w (.cells (tcells t A c) 28)
  have HBX := Lib.hid hbx
  have HB0 := Lib.hid ((Below.refl w.heap.size w).alloc (Nat.le_refl _) (.cells (tcells t A c) 28))
  have HREP := Lib.hid hrep
  have HOK := Lib.hid hok
  have HS := Lib.hid (small_formed t)
  have hlk := hok.len
  unfold maxLen at hlk
  obtain ⟨⟨x0, x1, x2⟩, _⟩ := blk3 hbx
  clear hbx hrep hok
  unfold TV
  go_enter Tryz.func14, Tryz.ntmps14
  go_wp2_with fail
  refine (Small_any t A c n₀ 1 1000 _ (HREP.out.later (HB0.out.mono hn)) (by have := HB0.out.size; omega) HOK.out (by omega) (by omega) (by omega)).mono ?_
  rintro e w1 ⟨rfl, hb1⟩
  have HB1 := Lib.hid (HB0.out.trans (hb1.mono HB0.out.size))
  have HBX1 := Lib.hid (cells_below HBX.out hb1)
  clear hb1 x0 x1 x2 HBX
  obtain ⟨⟨x0, x1, x2⟩, _⟩ := blk3 HBX1.out
  by_cases hneg : small t 1 1000 < 0
  · have hnb : decide (small t 1 1000 < 0) = true := decide_eq_true hneg
    have HR : Hid (formed t = false) := Lib.hid (by
      have h := HS.out
      rw [hnb] at h
      unfold formed
      cases h1 : fitsL (t.pre 1) <;> cases h2 : (t.pre 1).all (fun x => namedT x.2) <;> simp [h1, h2] at h ⊢)
    go_wp2_with fail
    go_ret
    exact ⟨by rw [HR.out]; rfl, HB1.out⟩
  · have hnb : decide (small t 1 1000 < 0) = false := decide_eq_false hneg
    have h12 : fitsL (t.pre 1) = true ∧ (t.pre 1).all (fun x => namedT x.2) = true := by
      have h := HS.out
      rw [hnb] at h
      cases h1 : fitsL (t.pre 1) <;> cases h2 : (t.pre 1).all (fun x => namedT x.2) <;> simp [h1, h2] at h ⊢
    have HR : Hid (formed t = (varsT t []).2) := Lib.hid (by
      rw [vars_agree (okV_pre t 1 (by simpa [List.all_eq_true] using h12.2))]
      unfold formed
      rw [h12.1, h12.2]; rfl)
    have hsz := fitsL_size h12.1
    have HC := Lib.hid (vars_any t A c w1.heap.size [] (.slice none 0 0) w1 ((HREP.out.later (HB1.out.mono hn)).mono (by have := HB1.out.size; omega)) (Nat.le_refl _) HOK.out ⟨none, 0, rfl, by simp, by simp [maxLen], fun h => by simp at h⟩ (by simp; omega))
    unfold TV at HC
    clear h12 hsz
    go_wp2_with fail
    refine HC.out.mono ?_
    rintro e w2 ⟨⟨v2, rfl, _⟩, hb2⟩
    have HB2 := Lib.hid (HB1.out.trans (hb2.mono HB1.out.size))
    clear hb2 x0 x1 x2 HC
    go_wp2_with fail
    go_ret
    exact ⟨by rw [HR.out]; rfl, HB2.out⟩
end Go.Proofs.YthbcfcbonmphfaaGreatDoor
namespace Go.Proofs.YthbcfcbonmphfaaGreatDoor
open Go.RowKit Go.Shelf
set_option maxRecDepth 100000

set_option maxHeartbeats 4000000 in
theorem refSort_any (g : Sg) (A1 : Option Addr) (c1 : Nat) (A2 : Option Addr) (c2 : Nat) (t : Tm) (A : Option Addr) (c : Nat) (w : World) (hs : SlS w.heap.size w A1 g.sorts) (hd : SlD w.heap.size w A2 g.ops) (hog : okG g) (hcs : g.sorts.length ≤ c1) (hcm : c1 ≤ maxLen) (hrep : TRep w.heap.size w t A) (hok : okT maxLen t) :
    Calls Tryz.prog 8 #[GV g A1 c1 A2 c2, TV t A c] w fun e w' => e = .returned (.tuple #[.string (sortRes g t).1, .int .i64 (sortRes g t).2]) ∧ Below w.heap.size w w' := by
  have HS := Lib.hid hs
  have HD := Lib.hid hd
  have HOG := Lib.hid hog
  have HCS := Lib.hid hcs
  have HCM := Lib.hid hcm
  have HREP := Lib.hid hrep
  have HOK := Lib.hid hok
  have H0 := Lib.hid (RB.start g A1 c1 A2 c2 t A c w)
  have HQ := Lib.hid (fun (W : World) (h : RB g A1 c1 A2 c2 t A c w W) => (show (SlS W.heap.size W A1 g.sorts ∧ SlD W.heap.size W A2 g.ops) ∧ TRep W.heap.size W t A from ⟨⟨(HS.out.later h.below).mono h.below.size, (HD.out.later h.below).mono h.below.size⟩, (HREP.out.later h.below).mono h.below.size⟩))
  obtain ⟨⟨x0, x1⟩, _⟩ := blk2 H0.out.bs
  obtain ⟨⟨y0, y1, y2⟩, _⟩ := blk3 H0.out.bt
  clear hs hd hog hcs hcm hrep hok
  unfold GV TV
  go_enter Tryz.func8, Tryz.ntmps8
  go_upto_region 1 with fail
  generalize (w.alloc (.cells #[.slice A1 g.sorts.length c1, .slice A2 g.ops.length c2] 25)).alloc (.cells #[.string t.nm, .string t.st, .slice A t.ks.length c] 28) = W0 at H0 x0 x1 y0 y1 y2 ⊢
  have HC := Lib.hid (refValidSignature_any g A1 c1 A2 c2 W0 (HQ.out _ H0.out).1.1 (HQ.out _ H0.out).1.2 HOG.out HCS.out HCM.out)
  unfold GV at HC
  go_wp2_with fail
  refine HC.out.mono ?_
  rintro e w1 ⟨rfl, hb1⟩
  have H1 := Lib.hid (H0.out.next hb1)
  clear hb1 HC H0 x0 x1 y0 y1 y2
  obtain ⟨⟨x0, x1⟩, _⟩ := blk2 H1.out.bs
  obtain ⟨⟨y0, y1, y2⟩, _⟩ := blk3 H1.out.bt
  cases hv : validSg g
  · have HR := Lib.hid (sortRes_bad (t := t) (.inl hv))
    clear hv
    go_wp2_with fail
    go_ret2
    exact ⟨by rw [HR.out]; rfl, H1.out.below⟩
  have HV := Lib.hid hv
  clear hv
  have HC := Lib.hid (formed_any t A c w1.heap.size w1 (HQ.out _ H1.out).2 (Nat.le_refl _) HOK.out)
  unfold TV at HC
  go_wp2_with fail
  refine HC.out.mono ?_
  rintro e w2 ⟨rfl, hb2⟩
  have H2 := Lib.hid (H1.out.next hb2)
  clear hb2 HC H1 x0 x1 y0 y1 y2
  obtain ⟨⟨x0, x1⟩, _⟩ := blk2 H2.out.bs
  obtain ⟨⟨y0, y1, y2⟩, _⟩ := blk3 H2.out.bt
  cases hf : formed t
  · have HR := Lib.hid (sortRes_bad (g := g) (.inr hf))
    clear hf
    go_wp2_with fail
    go_ret2
    exact ⟨by rw [HR.out]; rfl, H2.out.below⟩
  have HW := Lib.hid (sortRes_wr HV.out hf)
  have HOV := Lib.hid (formed_okV hf)
  clear hf
  have HC := Lib.hid (wrong_any g A1 c1 A2 c2 HV.out t A c w2.heap.size w2 (HQ.out _ H2.out).2 (Nat.le_refl _) HOK.out HOV.out (HQ.out _ H2.out).1.1 (HQ.out _ H2.out).1.2)
  unfold GV TV at HC
  go_wp2_with fail
  refine HC.out.mono ?_
  rintro e w3 ⟨rfl, hb3⟩
  have H3 := Lib.hid (H2.out.next hb3)
  clear hb3 HC H2 x0 x1 y0 y1 y2
  obtain ⟨⟨x0, x1⟩, _⟩ := blk2 H3.out.bs
  obtain ⟨⟨y0, y1, y2⟩, _⟩ := blk3 H3.out.bt
  by_cases hz : wrT g t = 0
  · have HR : Hid (sortRes g t = ((ownS g.ops t).1, 0)) := Lib.hid (by rw [HW.out, if_neg (fun h => h hz)])
    rw [hz]
    clear hz
    have HC := Lib.hid (refOwn_any g A1 c1 A2 c2 t A c w3.heap.size w3 (HQ.out _ H3.out).1.2 (Nat.le_refl _) HV.out)
    unfold GV TV at HC
    go_wp2_with fail
    refine HC.out.mono ?_
    rintro e w4 ⟨rfl, hb4⟩
    have H4 := Lib.hid (H3.out.next hb4)
    clear hb4 HC x0 x1 y0 y1 y2
    go_wp2_with fail
    go_ret2
    exact ⟨by rw [HR.out]; rfl, H4.out.below⟩
  · have hzb : (wrT g t != 0) = true := by simp [hz]
    have HR : Hid (sortRes g t = (⟨#[]⟩, wrT g t)) := Lib.hid (by rw [HW.out, if_pos hz])
    clear hz
    go_wp2_with fail
    go_ret2
    exact ⟨by rw [HR.out]; rfl, H3.out.below⟩

/-- Whether a term is valid. -/
def validR (g : Sg) (t : Tm) : Bool := decide ((sortRes g t).2 = 0)

set_option maxHeartbeats 4000000 in
theorem refValid_any2 (g : Sg) (A1 : Option Addr) (c1 : Nat) (A2 : Option Addr) (c2 : Nat) (t : Tm) (A : Option Addr) (c : Nat) (w : World) (hs : SlS w.heap.size w A1 g.sorts) (hd : SlD w.heap.size w A2 g.ops) (hog : okG g) (hcs : g.sorts.length ≤ c1) (hcm : c1 ≤ maxLen) (hrep : TRep w.heap.size w t A) (hok : okT maxLen t) :
    Calls Tryz.prog 12 #[GV g A1 c1 A2 c2, TV t A c] w fun e w' => e = .returned (.bool (validR g t)) ∧ Below w.heap.size w w' := by
  have H0 := Lib.hid (RB.start g A1 c1 A2 c2 t A c w)
  have HC := Lib.hid (refSort_any g A1 c1 A2 c2 t A c _ ((hs.later H0.out.below).mono H0.out.below.size) ((hd.later H0.out.below).mono H0.out.below.size) hog hcs hcm ((hrep.later H0.out.below).mono H0.out.below.size) hok)
  obtain ⟨⟨x0, x1⟩, _⟩ := blk2 H0.out.bs
  obtain ⟨⟨y0, y1, y2⟩, _⟩ := blk3 H0.out.bt
  clear hs hd hog hcs hcm hrep hok
  unfold GV TV
  unfold GV TV at HC
  go_enter Tryz.func12, Tryz.ntmps12
  go_upto_region 1 with fail
  go_wp2_with fail
  refine HC.out.mono ?_
  rintro e w1 ⟨rfl, hb1⟩
  have H1 := Lib.hid (H0.out.next hb1)
  clear hb1 HC H0 x0 x1 y0 y1 y2
  generalize hr : (sortRes g t).2 = r
  have HR : Hid (validR g t = decide (r = 0)) := Lib.hid (by unfold validR; rw [hr])
  clear hr
  by_cases hz : r = 0
  · have e1 : (r == 0) = true := beq_iff_eq.2 hz
    have HZ := Lib.hid hz
    clear hz
    go_wp2_with fail
    go_ret
    exact ⟨ret_bool (by rw [HR.out, HZ.out]; rfl), H1.out.below⟩
  · have e1 : (r == 0) = false := beq_eq_false_iff_ne.2 hz
    have HZ := Lib.hid hz
    clear hz
    go_wp2_with fail
    go_ret
    exact ⟨ret_bool (by rw [HR.out, decide_eq_false HZ.out]), H1.out.below⟩

set_option maxHeartbeats 4000000 in
theorem valid_any2 (g : Sg) (A1 : Option Addr) (c1 : Nat) (A2 : Option Addr) (c2 : Nat) (t : Tm) (A : Option Addr) (c : Nat) (w : World) (hs : SlS w.heap.size w A1 g.sorts) (hd : SlD w.heap.size w A2 g.ops) (hog : okG g) (hrep : TRep w.heap.size w t A) (hok : okT maxLen t) (hdp : t.depth ≤ 140737488355326) :
    Calls Tryz.prog 11 #[GV g A1 c1 A2 c2, TV t A c] w fun e w' => e = .returned (.bool (validR g t)) ∧ Below w.heap.size w w' := by
  have H0 := Lib.hid (RB.start g A1 c1 A2 c2 t A c w)
  have HC := Lib.hid (Sort_any g A1 c1 A2 c2 t A c _ ((hs.later H0.out.below).mono H0.out.below.size) ((hd.later H0.out.below).mono H0.out.below.size) hog ((hrep.later H0.out.below).mono H0.out.below.size) hok hdp)
  obtain ⟨⟨x0, x1⟩, _⟩ := blk2 H0.out.bs
  obtain ⟨⟨y0, y1, y2⟩, _⟩ := blk3 H0.out.bt
  clear hs hd hog hrep hok hdp
  unfold GV TV
  unfold GV TV at HC
  go_enter Tryz.func11, Tryz.ntmps11
  go_upto_region 1 with fail
  go_wp2_with fail
  refine HC.out.mono ?_
  rintro e w1 ⟨rfl, hb1⟩
  have H1 := Lib.hid (H0.out.next hb1)
  clear hb1 HC H0 x0 x1 y0 y1 y2
  generalize hr : (sortRes g t).2 = r
  have HR : Hid (validR g t = decide (r = 0)) := Lib.hid (by unfold validR; rw [hr])
  clear hr
  by_cases hz : r = 0
  · have e1 : (r == 0) = true := beq_iff_eq.2 hz
    have HZ := Lib.hid hz
    clear hz
    go_wp2_with fail
    go_ret
    exact ⟨ret_bool (by rw [HR.out, HZ.out]; rfl), H1.out.below⟩
  · have e1 : (r == 0) = false := beq_eq_false_iff_ne.2 hz
    have HZ := Lib.hid hz
    clear hz
    go_wp2_with fail
    go_ret
    exact ⟨ret_bool (by rw [HR.out, decide_eq_false HZ.out]), H1.out.below⟩
end Go.Proofs.YthbcfcbonmphfaaGreatDoor
