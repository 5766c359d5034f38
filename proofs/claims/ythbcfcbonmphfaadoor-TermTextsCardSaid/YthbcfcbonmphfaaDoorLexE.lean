/- Walks: the reader's methods. -/
import Derived.Test.YthbcfcbonmphfaaDoorLexC
import Derived.Deep.Draws
import Derived.Laws.OwnMore
import Derived.Lib.ConvBytes
import Derived.Lib.SlBytesRow
namespace Go.Proofs.YthbcfcbonmphfaaDoor
open Go.RowKit

set_option maxHeartbeats 400000 in
theorem copied_any (s : ByteArray) (w : World) (hs : s.size ≤ maxLen) : Calls Tryd.prog 115 #[.string s] w fun e w' => e = .returned (.string s) ∧ Below w.heap.size w w' := by
  have hc := Lib.run_convert_string_bytes (P := Tryd.prog) w 9 43 5 s Tryd.underlying9 Tryd.underlying43 Tryd.underlying5
  have hB : Lib.Bytes (Lib.bytesWorld w 5 s) w.heap.size 0 s := by
    intro i hi
    rw [Nat.zero_add, Lib.bytesWorld_cell w 5 s i hi]
    have : s.data.toList.getD i 0 = s[i] := by rw [List.getD_eq_getElem?_getD, List.getElem?_eq_getElem (by simpa using hi)]; rfl
    rw [this]
  have hc2 := Lib.run_convert_whole (P := Tryd.prog) (Lib.bytesWorld w 5 s) 43 5 9 Tryd.underlying43 Tryd.underlying5 Tryd.underlying9 w.heap.size 0 s hB (grownCap w s.size 0 5)
  have HB : Hid (Below w.heap.size w (Lib.bytesWorld w 5 s)) := ⟨rfl, rfl, rfl, by rw [Lib.bytesWorld_size]; omega, fun k hk => Lib.bytesWorld_at_old w 5 s k hk⟩
  clear hB
  generalize Lib.bytesWorld w 5 s = W1 at *
  go_enter Tryd.func115, Tryd.ntmps115
  go_wp2
  go_ret
  exact ⟨rfl, HB.out⟩

/-- The reader's block. -/
def Rd (w : World) (b : Nat) (s : ByteArray) (line col : Int) : Prop := w.heap[b]? = some (.cells #[.string s, .int .i64 line, .int .i64 col] 101 (0, 0))
section
variable {w w' : World} {b : Nat} {s : ByteArray} {x y : Int}
theorem Rd.lt (h : Rd w b s x y) : b < w.heap.size := by
  rcases Nat.lt_or_ge b w.heap.size with hlt | hge
  · exact hlt
  · unfold Rd at h; rw [Array.getElem?_eq_none hge] at h; cases h
theorem Rd.c0 (h : Rd w b s x y) : w.cell? ⟨b, 0, none⟩ = some (.string s) := cell_of_row w b 0 _ _ (0, 0) h
theorem Rd.c1 (h : Rd w b s x y) : w.cell? ⟨b, 1, none⟩ = some (.int .i64 x) := cell_of_row w b 1 _ _ (0, 0) h
theorem Rd.c2 (h : Rd w b s x y) : w.cell? ⟨b, 2, none⟩ = some (.int .i64 y) := cell_of_row w b 2 _ _ (0, 0) h
theorem Rd.frozen (h : Rd w b s x y) (i : Nat) : w.frozen? ⟨b, i, none⟩ = false := by
  unfold Rd at h
  simp [World.frozen?, h]
theorem Rd.drewN (h : Rd w b s x y) (n : Nat) : Rd (w.drewN n) b s x y := h
theorem Rd.alloc (h : Rd w b s x y) (o : Obj) : Rd (w.alloc o) b s x y := (Below.heap_alloc w o b h.lt).trans h
theorem Rd.far (h : Rd w b s x y) {p : Addr} (hp : b ≠ p.block) (u : Value) : Rd (w.setCell p u) b s x y := (Below.heap_setCell w p u b hp).trans h
theorem Rd.below {B : Nat} (h : Rd w b s x y) (hb : Below B w w') (hg : b < B) : Rd w' b s x y := (hb.block b hg).trans h
theorem Rd.set0 (h : Rd w b s x y) (u : ByteArray) : Rd (w.setCell ⟨b, 0, none⟩ (.string u)) b u x y := by
  unfold Rd at h ⊢
  simp [World.setCell, Array.getElem?_modify, h]
theorem Rd.set1 (h : Rd w b s x y) (u : Int) : Rd (w.setCell ⟨b, 1, none⟩ (.int .i64 u)) b s u y := by
  unfold Rd at h ⊢
  simp [World.setCell, Array.getElem?_modify, h]
theorem Rd.set2 (h : Rd w b s x y) (u : Int) : Rd (w.setCell ⟨b, 2, none⟩ (.int .i64 u)) b s x u := by
  unfold Rd at h ⊢
  simp [World.setCell, Array.getElem?_modify, h]
theorem only_setCell {a w : World} {g : Nat} (h : a.grownBy w (some g)) {p : Addr} (hp : p.block = g ∨ a.heap.size ≤ p.block) (u : Value) : a.grownBy (w.setCell p u) (some g) :=
  ⟨h.os, h.tape, h.output, by simpa [World.setCell] using h.size, fun i hi hne => (Below.heap_setCell w p u i (by
    rintro rfl
    rcases hp with hp | hp
    · exact hne (by rw [hp])
    · omega)).trans (h.block i hi hne)⟩
theorem only_alloc {a w : World} {row : Option Nat} (h : a.grownBy w row) (o : Obj) : a.grownBy (w.alloc o) row :=
  ⟨h.os, h.tape, h.output, Nat.le_trans h.size (by simp), fun i hi hne => (Below.heap_alloc w o i (Nat.lt_of_lt_of_le hi h.size)).trans (h.block i hi hne)⟩
theorem only_below {a w w1 : World} {row : Option Nat} (h : a.grownBy w row) (hb : Below w.heap.size w w1) : a.grownBy w1 row :=
  ⟨hb.os.trans h.os, hb.tape.trans h.tape, hb.output.trans h.output, Nat.le_trans h.size hb.size, fun i hi hn => (hb.block i (Nat.lt_of_lt_of_le hi h.size)).trans (h.block i hi hn)⟩
theorem only_trans {a b c : World} {row : Option Nat} (h : a.grownBy b row) (k : b.grownBy c row) : a.grownBy c row :=
  ⟨k.os.trans h.os, k.tape.trans h.tape, k.output.trans h.output, Nat.le_trans h.size k.size, fun i hi hn => (k.block i (Nat.lt_of_lt_of_le hi h.size) hn).trans (h.block i hi hn)⟩
end

set_option maxHeartbeats 400000 in
theorem take_any (b n : Nat) (s : ByteArray) (x y : Int) (w : World) (hs : s.size ≤ maxLen) (hn : n ≤ s.size) (hr : Rd w b s x y) (hy0 : 0 ≤ y) (hy : y ≤ 4000000000000000000) (hb : n ≤ 4000000000000000000) :
    Calls Tryd.prog 111 #[.pointer (some ⟨b, 0, none⟩), .int .i64 n] w fun e w' => e = .returned (.string (s.extract 0 n)) ∧ Rd w' b (s.extract n s.size) x (y + n) ∧ w.grownBy w' (some b) := by
  unfold maxLen at hs
  have h0 := hr.c0
  have h2 := hr.c2
  have f0 := hr.frozen 0
  have f2 := hr.frozen 2
  have HR := Lib.hid hr
  clear hr
  have hnI : (n : Int) ≤ (s.size : Int) := by omega
  go_enter Tryd.func111, Tryd.ntmps111
  go_wp2
  go_ret
  refine ⟨rfl, ?_, ?_⟩
  · exact Rd.set2 (Rd.set0 HR.out _) _
  · exact only_setCell (p := ⟨b, 2, none⟩) (only_setCell (p := ⟨b, 0, none⟩) (World.grownBy.refl w _) (.inl rfl) _) (.inl rfl) _

set_option maxHeartbeats 400000 in
theorem nextLine_any (b : Nat) (s : ByteArray) (x y : Int) (w : World) (hs : s.size ≤ maxLen) (hn : 1 ≤ s.size) (hr : Rd w b s x y) (hx0 : 0 ≤ x) (hx : x ≤ 4000000000000000000) :
    Calls Tryd.prog 112 #[.pointer (some ⟨b, 0, none⟩)] w fun e w' => e = .returned (.tuple #[]) ∧ Rd w' b (s.extract 1 s.size) (x + 1) 1 ∧ w.grownBy w' (some b) := by
  unfold maxLen at hs
  have h0 := hr.c0
  have h1 := hr.c1
  have h2 := hr.c2
  have f0 := hr.frozen 0
  have f1 := hr.frozen 1
  have f2 := hr.frozen 2
  have HR := Lib.hid hr
  clear hr
  have hnI : (1 : Int) ≤ (s.size : Int) := by omega
  go_enter Tryd.func112, Tryd.ntmps112
  go_wp2
  go_end0
  refine ⟨rfl, ?_, ?_⟩
  · exact Rd.set2 (Rd.set1 (Rd.set0 HR.out _) _) _
  · exact only_setCell (p := ⟨b, 2, none⟩) (only_setCell (p := ⟨b, 1, none⟩) (only_setCell (p := ⟨b, 0, none⟩) (World.grownBy.refl w _) (.inl rfl) _) (.inl rfl) _) (.inl rfl) _
end Go.Proofs.YthbcfcbonmphfaaDoor
