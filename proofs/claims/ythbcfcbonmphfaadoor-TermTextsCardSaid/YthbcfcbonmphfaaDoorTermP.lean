/- The parser's methods on tokens. -/
import Derived.Test.YthbcfcbonmphfaaDoorTermL
import Derived.Test.YthbcfcbonmphfaaDoorJoinB
namespace Go.Proofs.YthbcfcbonmphfaaDoor
open Go.RowKit Go.Shelf
set_option maxRecDepth 100000

def TkAt (w : World) (b off : Nat) (l : List Tk) : Prop :=
  ∀ (i : Nat) (t : Tk), l[i]? = some t → w.cell? ⟨b, off + i * 5, none⟩ = some (.int .i64 t.k) ∧ w.cell? ⟨b, off + i * 5 + 1, none⟩ = some (.string ⟨t.t.toArray⟩) ∧
    w.cell? ⟨b, off + i * 5 + 2, none⟩ = some (.int .i64 t.n) ∧ w.cell? ⟨b, off + i * 5 + 3, none⟩ = some (.int .i64 t.a) ∧ w.cell? ⟨b, off + i * 5 + 4, none⟩ = some (.int .i64 t.b)
/-- The parser in block P reads l. -/
def PB (w : World) (P : Nat) (l : List Tk) : Prop :=
  ∃ b off c, w.heap[P]? = some (.cells #[.slice (some ⟨b, off, none⟩) l.length c] 127 (0, 0)) ∧ l.length ≤ c ∧ c ≤ maxLen ∧ b < P ∧ TkAt w b off l
theorem PB.lt {w : World} {P : Nat} {l : List Tk} (h : PB w P l) : P < w.heap.size := by
  obtain ⟨b, off, c, h1, _⟩ := h
  exact (Array.getElem?_eq_some_iff.1 h1).1
theorem PB.below {w w' : World} {P : Nat} {l : List Tk} (h : PB w P l) (hb : Below w.heap.size w w') : PB w' P l := by
  have hP := h.lt
  obtain ⟨b, off, c, h1, h2, h3, h4, h6⟩ := h
  have h5 : b < w.heap.size := by omega
  exact ⟨b, off, c, cells_below h1 hb, h2, h3, h4, fun i t ht => by
    obtain ⟨c0, c1, c2, c3, c4⟩ := h6 i t ht
    exact ⟨(hb.cell (p := ⟨b, _, none⟩) h5).trans c0, (hb.cell (p := ⟨b, _, none⟩) h5).trans c1, (hb.cell (p := ⟨b, _, none⟩) h5).trans c2, (hb.cell (p := ⟨b, _, none⟩) h5).trans c3, (hb.cell (p := ⟨b, _, none⟩) h5).trans c4⟩⟩
/-- One token is read. -/
theorem PB.next {w : World} {P b off c : Nat} {t : Tk} {r : List Tk} (h1 : w.heap[P]? = some (.cells #[.slice (some ⟨b, off, none⟩) (t :: r).length c] 127 (0, 0))) (h2 : (t :: r).length ≤ c) (h3 : c ≤ maxLen) (h4 : b < P) (h6 : TkAt w b off (t :: r)) :
    PB (w.setCell ⟨P, 0, none⟩ (.slice (some ⟨b, off + 5, none⟩) r.length (c - 1))) P r ∧ w.grownBy (w.setCell ⟨P, 0, none⟩ (.slice (some ⟨b, off + 5, none⟩) r.length (c - 1))) (some P) := by
  refine ⟨⟨b, off + 5, c - 1, heap_setCell_same w P 0 _ _ _ h1, by simp at h2; omega, by omega, h4, fun i u hu => ?_⟩, grownBy_setCell' w P _⟩
  obtain ⟨c0, c1, c2, c3, c4⟩ := h6 (i + 1) u (by simpa using hu)
  have hk : ∀ o, (w.setCell ⟨P, 0, none⟩ (.slice (some ⟨b, off + 5, none⟩) r.length (c - 1))).cell? ⟨b, o, none⟩ = w.cell? ⟨b, o, none⟩ := fun o => World.cell?_of_block (Below.heap_setCell _ _ _ _ (show b ≠ P by omega))
  have e : off + 5 + i * 5 = off + (i + 1) * 5 := by omega
  rw [e]
  exact ⟨(hk _).trans c0, (hk _).trans c1, (hk _).trans c2, (hk _).trans c3, (hk _).trans c4⟩

set_option maxHeartbeats 1000000 in
theorem text_no (P : Nat) (t : Tk) (r : List Tk) (k : Int) (s : ByteArray) (w : World) (h : PB w P (t :: r)) (hn : t.k ≠ k ∨ t.t ≠ s.toList) :
    Calls Tryd.prog 145 #[.pointer (some ⟨P, 0, none⟩), .int .i64 k, .string s] w fun e w' => e = .returned (.bool false) ∧ w' = w := by
  obtain ⟨b, off, c, h1, h2, h3, h4, h6⟩ := h
  obtain ⟨x0, _⟩ := blk1 h1
  obtain ⟨c0, c1, c2, c3, c4⟩ := h6 0 t rfl
  simp only [Nat.zero_mul, Nat.add_zero, List.length_cons] at c0 c1 c2 c3 c4 x0
  clear h1 h2 h3 h4 h6
  by_cases hk : t.k = k
  · have hs : (t.t == s.toList) = false := beq_eq_false_iff_ne.2 (by rcases hn with h | h; exact absurd hk h; exact h)
    have hb : (t.k == k) = true := by rw [hk]; exact beq_self_eq_true _
    have hb2 : (t.k != k) = false := by rw [hk]; exact bne_self_eq_false _
    clear hn hk
    go_enter Tryd.func145, Tryd.ntmps145
    go_wp2_with fail
    go_ret
    exact ⟨rfl, rfl⟩
  · have hb : (t.k == k) = false := beq_eq_false_iff_ne.2 hk
    have hb2 : (t.k != k) = true := bne_iff_ne.2 hk
    clear hn hk
    go_enter Tryd.func145, Tryd.ntmps145
    go_wp2_with fail
    go_ret
    exact ⟨rfl, rfl⟩
set_option maxHeartbeats 1000000 in
theorem text_yes (P : Nat) (t u : Tk) (r : List Tk) (k : Int) (s : ByteArray) (w : World) (h : PB w P (t :: u :: r)) (hk : t.k = k) (ht : t.t = s.toList) :
    Calls Tryd.prog 145 #[.pointer (some ⟨P, 0, none⟩), .int .i64 k, .string s] w fun e w' => e = .returned (.bool true) ∧ PB w' P (u :: r) ∧ w.grownBy w' (some P) := by
  obtain ⟨b, off, c, h1, h2, h3, h4, h6⟩ := h
  obtain ⟨x0, xf⟩ := blk1 h1
  obtain ⟨c0, c1, c2, c3, c4⟩ := h6 0 t rfl
  have HN := Lib.hid (PB.next h1 h2 h3 h4 h6)
  have hs : (t.t == s.toList) = true := by rw [ht]; exact beq_self_eq_true _
  have hb : (t.k == k) = true := by rw [hk]; exact beq_self_eq_true _
  have hb2 : (t.k != k) = false := by rw [hk]; exact bne_self_eq_false _
  simp only [Nat.zero_mul, Nat.add_zero] at c0 c1 c2 c3 c4
  simp only [List.length_cons] at x0 h2
  have hc1 : ¬ c = 1 := by omega
  have hc2 : 1 ≤ c := by omega
  clear h1 h4 h6 hk ht
  go_enter Tryd.func145, Tryd.ntmps145
  go_wp2_with fail
  go_ret
  exact ⟨rfl, HN.out.1, HN.out.2⟩

set_option maxHeartbeats 1000000 in
theorem symbol_no (P : Nat) (t : Tk) (r : List Tk) (s : ByteArray) (w : World) (h : PB w P (t :: r)) (hn : t.k ≠ 4 ∨ t.t ≠ s.toList) :
    Calls Tryd.prog 127 #[.pointer (some ⟨P, 0, none⟩), .string s] w fun e w' => e = .returned (.bool false) ∧ w' = w := by
  have H := Lib.hid (text_no P t r 4 s w h hn)
  clear h hn
  go_enter Tryd.func127, Tryd.ntmps127
  go_wp2_with fail
  refine H.out.mono ?_
  rintro e w' ⟨rfl, rfl⟩
  go_wp2_with fail
  go_ret
  exact ⟨rfl, rfl⟩
set_option maxHeartbeats 1000000 in
theorem symbol_yes (P : Nat) (t u : Tk) (r : List Tk) (s : ByteArray) (w : World) (h : PB w P (t :: u :: r)) (hk : t.k = 4) (ht : t.t = s.toList) :
    Calls Tryd.prog 127 #[.pointer (some ⟨P, 0, none⟩), .string s] w fun e w' => e = .returned (.bool true) ∧ PB w' P (u :: r) ∧ w.grownBy w' (some P) := by
  have H := Lib.hid (text_yes P t u r 4 s w h hk ht)
  clear h hk ht
  go_enter Tryd.func127, Tryd.ntmps127
  go_wp2_with fail
  refine H.out.mono ?_
  rintro e w' ⟨rfl, h1, h2⟩
  have H1 := Lib.hid h1
  have H2 := Lib.hid h2
  clear h1 h2
  go_wp2_with fail
  go_ret
  exact ⟨rfl, H1.out, H2.out⟩
set_option maxHeartbeats 1000000 in
theorem name_no (P : Nat) (t : Tk) (r : List Tk) (w : World) (h : PB w P (t :: r)) (hn : t.k ≠ 1) :
    Calls Tryd.prog 126 #[.pointer (some ⟨P, 0, none⟩)] w fun e w' => e = .returned (.tuple #[.string ⟨#[]⟩, .bool false]) ∧ w' = w := by
  obtain ⟨b, off, c, h1, h2, h3, h4, h6⟩ := h
  obtain ⟨x0, _⟩ := blk1 h1
  obtain ⟨c0, c1, c2, c3, c4⟩ := h6 0 t rfl
  simp only [Nat.zero_mul, Nat.add_zero, List.length_cons] at c0 c1 c2 c3 c4 x0
  have hb : (t.k == 1) = false := beq_eq_false_iff_ne.2 hn
  have hb2 : (t.k != 1) = true := bne_iff_ne.2 hn
  clear h1 h2 h3 h4 h6 hn
  go_enter Tryd.func126, Tryd.ntmps126
  go_wp2_with fail
  go_ret2
  exact ⟨rfl, rfl⟩
set_option maxHeartbeats 1000000 in
theorem name_yes (P : Nat) (t u : Tk) (r : List Tk) (w : World) (h : PB w P (t :: u :: r)) (hk : t.k = 1) :
    Calls Tryd.prog 126 #[.pointer (some ⟨P, 0, none⟩)] w fun e w' => e = .returned (.tuple #[.string ⟨t.t.toArray⟩, .bool true]) ∧ PB w' P (u :: r) ∧ w.grownBy w' (some P) := by
  obtain ⟨b, off, c, h1, h2, h3, h4, h6⟩ := h
  obtain ⟨x0, xf⟩ := blk1 h1
  obtain ⟨c0, c1, c2, c3, c4⟩ := h6 0 t rfl
  have HN := Lib.hid (PB.next h1 h2 h3 h4 h6)
  have hb : (t.k == 1) = true := by rw [hk]; rfl
  have hb2 : (t.k != 1) = false := by rw [hk]; rfl
  simp only [Nat.zero_mul, Nat.add_zero] at c0 c1 c2 c3 c4
  simp only [List.length_cons] at x0 h2
  have hc1 : ¬ c = 1 := by omega
  have hc2 : 1 ≤ c := by omega
  clear h1 h4 h6 hk
  go_enter Tryd.func126, Tryd.ntmps126
  go_wp2_with fail
  go_ret2
  exact ⟨rfl, HN.out.1, HN.out.2⟩
set_option maxHeartbeats 1000000 in
theorem atEnd_any (P : Nat) (t : Tk) (r : List Tk) (w : World) (h : PB w P (t :: r)) :
    Calls Tryd.prog 87 #[.pointer (some ⟨P, 0, none⟩)] w fun e w' => e = .returned (.bool (t.k == 5)) ∧ w' = w := by
  obtain ⟨b, off, c, h1, h2, h3, h4, h6⟩ := h
  obtain ⟨x0, _⟩ := blk1 h1
  obtain ⟨c0, c1, c2, c3, c4⟩ := h6 0 t rfl
  simp only [Nat.zero_mul, Nat.add_zero, List.length_cons] at c0 c1 c2 c3 c4 x0
  clear h1 h2 h3 h4 h6
  go_enter Tryd.func87, Tryd.ntmps87
  go_wp2_with fail
  go_ret
  exact ⟨rfl, rfl⟩
/-- The error of a token that cannot stand where it stands. -/
def fE (t : Tk) : Int := if t.k = 5 then 8 else 7
set_option maxHeartbeats 1000000 in
theorem fault_any (P : Nat) (t : Tk) (r : List Tk) (w : World) (h : PB w P (t :: r)) :
    Calls Tryd.prog 88 #[.pointer (some ⟨P, 0, none⟩)] w fun e w' => e = .returned (.tuple #[.agg #[.int .i64 t.a, .int .i64 t.b], .int .i64 (fE t)]) ∧ Below w.heap.size w w' := by
  unfold fE
  have HB0 := Lib.hid ((Below.refl w.heap.size w).alloc (Nat.le_refl _) (.cells #[.int .i64 0, .int .i64 0] 23))
  have hp := h.below HB0.out
  have HE := Lib.hid (atEnd_any P t r _ hp)
  obtain ⟨b, off, c, h1, h2, h3, h4, h6⟩ := hp
  obtain ⟨x0, _⟩ := blk1 h1
  obtain ⟨c0, c1, c2, c3, c4⟩ := h6 0 t rfl
  simp only [Nat.zero_mul, Nat.add_zero, List.length_cons] at c0 c1 c2 c3 c4 x0
  clear h1 h2 h3 h4 h6 h
  by_cases hk : t.k = 5
  · have hb : (t.k == 5) = true := by rw [hk]; rfl
    rw [if_pos hk]
    clear hk
    go_enter Tryd.func88, Tryd.ntmps88
    go_wp2_with fail
    refine HE.out.mono ?_
    rintro e w' ⟨rfl, rfl⟩
    go_wp2_with fail
    refine bodyPost_ret (v := .tuple #[.agg #[.int .i64 t.a, .int .i64 t.b], .int .i64 8]) (by simp [results, Tryd.results88, go_sem]) rfl ?_
    exact ⟨rfl, (Below.refl _ _).alloc (Nat.le_refl _) _⟩
  · have hb : (t.k == 5) = false := beq_eq_false_iff_ne.2 hk
    rw [if_neg hk]
    clear hk
    go_enter Tryd.func88, Tryd.ntmps88
    go_wp2_with fail
    refine HE.out.mono ?_
    rintro e w' ⟨rfl, rfl⟩
    go_wp2_with fail
    refine bodyPost_ret (v := .tuple #[.agg #[.int .i64 t.a, .int .i64 t.b], .int .i64 7]) (by simp [results, Tryd.results88, go_sem]) rfl ?_
    exact ⟨rfl, (Below.refl _ _).alloc (Nat.le_refl _) _⟩
end Go.Proofs.YthbcfcbonmphfaaDoor
