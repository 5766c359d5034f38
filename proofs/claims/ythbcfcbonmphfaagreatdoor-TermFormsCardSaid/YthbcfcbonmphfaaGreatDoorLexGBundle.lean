/- Walks: token. -/
import Derived.Test.YthbcfcbonmphfaaGreatDoorLexEBundle
import Derived.Test.YthbcfcbonmphfaaGreatDoorTermSBundle
import Derived.Deep.LoopGhost
import Derived.Lib.IndexBytes
/- Walks: skip, wordToken, token. -/
namespace Go.Proofs.YthbcfcbonmphfaaGreatDoor
open Go.RowKit

theorem take_int (b : Nat) (n : Int) (s : ByteArray) (x y : Int) (w : World) (hs : s.size ≤ maxLen) (hr : Rd w b s x y) (hn0 : 0 ≤ n) (hn : n ≤ s.size) (hy0 : 0 ≤ y) (hy : y + s.size ≤ 4000000000000000000) :
    Calls Tryz.prog 105 #[.pointer (some ⟨b, 0, none⟩), .int .i64 n] w fun e w' => e = .returned (.string (s.extract 0 n.toNat)) ∧ Rd w' b (s.extract n.toNat s.size) x (y + n) ∧ w.grownBy w' (some b) := by
  obtain ⟨m, rfl⟩ := Int.eq_ofNat_of_zero_le hn0
  have h := take_any b m s x y w hs (by omega) hr hy0 (by omega) (by omega)
  rw [Int.toNat_natCast]
  exact h

def SkipAt (b : Nat) (s : ByteArray) (x y : Int) (w0 : World) (k : Nat) (w : World) (s' : ByteArray) (x' y' : Int) : Prop :=
  Rd w b s' x' y' ∧ w0.grownBy w (some b) ∧ s'.size ≤ k ∧ skip s.data.toList x y = skip s'.data.toList x' y' ∧ 0 ≤ x' ∧ 1 ≤ y' ∧ x' + s'.size ≤ x + s.size ∧ y' + s'.size ≤ y + s.size ∧ s'.size ≤ s.size
theorem cons_of (s : ByteArray) (h : 0 < s.size) : s.data.toList = s[0] :: (s.extract 1 s.size).data.toList := by
  rw [Lib.extract_to_end]
  exact drop_cons s 0 h
theorem size_ext (s : ByteArray) (n : Nat) : (s.extract n s.size).size = s.size - n := by simp [ByteArray.size_extract]

theorem skipAt_blank {b : Nat} {s : ByteArray} {x y : Int} {w0 w w1 : World} {k : Nat} {s' : ByteArray} {x' y' : Int} (h : SkipAt b s x y w0 k w s' x' y') (h0 : 0 < s'.size) (hc : (cls (s'[0].toNat : Int) == 1) = true)
    (hr : Rd w1 b (s'.extract 1 s'.size) x' (y' + 1)) (hg : w.grownBy w1 (some b)) : SkipAt b s x y w0 (s'.size - 1) w1 (s'.extract 1 s'.size) x' (y' + 1) := by
  obtain ⟨_, g, hk, hsk, a1, a2, a3, a4, a5⟩ := h
  refine ⟨hr, only_trans g hg, by rw [size_ext]; omega, ?_, a1, by omega, by rw [size_ext]; omega, by rw [size_ext]; omega, by rw [size_ext]; omega⟩
  rw [hsk, cons_of s' h0, skip_1 _ _ _ _ (by simpa using hc)]
theorem skipAt_line {b : Nat} {s : ByteArray} {x y : Int} {w0 w w1 : World} {k : Nat} {s' : ByteArray} {x' y' : Int} (h : SkipAt b s x y w0 k w s' x' y') (h0 : 0 < s'.size) (hc : (cls (s'[0].toNat : Int) == 2) = true)
    (hr : Rd w1 b (s'.extract 1 s'.size) (x' + 1) 1) (hg : w.grownBy w1 (some b)) : SkipAt b s x y w0 (s'.size - 1) w1 (s'.extract 1 s'.size) (x' + 1) 1 := by
  obtain ⟨_, g, hk, hsk, a1, a2, a3, a4, a5⟩ := h
  refine ⟨hr, only_trans g hg, by rw [size_ext]; omega, ?_, by omega, by omega, by rw [size_ext]; omega, by rw [size_ext]; omega, by rw [size_ext]; omega⟩
  rw [hsk, cons_of s' h0, skip_2 _ _ _ _ (by simpa using hc)]
theorem skipAt_hash {b : Nat} {s : ByteArray} {x y : Int} {w0 w w1 : World} {k : Nat} {s' : ByteArray} {x' y' : Int} (h : SkipAt b s x y w0 k w s' x' y') (h0 : 0 < s'.size) (hc : (cls (s'[0].toNat : Int) == 3) = true)
    (hr : Rd w1 b (s'.extract (cl s'.data.toList : Int).toNat s'.size) x' (y' + cl s'.data.toList)) (hg : w.grownBy w1 (some b)) : SkipAt b s x y w0 (s'.size - 1) w1 (s'.extract (cl s'.data.toList) s'.size) x' (y' + cl s'.data.toList) := by
  obtain ⟨_, g, hk, hsk, a1, a2, a3, a4, a5⟩ := h
  rw [Int.toNat_natCast] at hr
  have e := cons_of s' h0
  have hp : 0 < cl s'.data.toList := by rw [e]; exact cl_pos _ _ (by simpa using hc)
  have hl := cl_le s'.data.toList
  rw [size_toList] at hl
  refine ⟨hr, only_trans g hg, by rw [size_ext]; omega, ?_, a1, by omega, by rw [size_ext]; omega, by rw [size_ext]; omega, by rw [size_ext]; omega⟩
  rw [hsk, Lib.extract_to_end]
  have := skip_3 s'[0] (s'.extract 1 s'.size).data.toList x' y' (by simpa using hc)
  rw [← e] at this
  exact this
/-- Past blanks and comments: what is left, and where. -/
def Skipped (b : Nat) (s : ByteArray) (x y : Int) (w0 w : World) : Prop :=
  ∃ s' x' y', Rd w b s' x' y' ∧ w0.grownBy w (some b) ∧ skip s.data.toList x y = (s'.data.toList, x', y') ∧ 0 ≤ x' ∧ 1 ≤ y' ∧ x' + s'.size ≤ x + s.size ∧ y' + s'.size ≤ y + s.size ∧ s'.size ≤ s.size
theorem skipAt_end {b : Nat} {s : ByteArray} {x y : Int} {w0 w : World} {k : Nat} {s' : ByteArray} {x' y' : Int} (h : SkipAt b s x y w0 k w s' x' y') (h0 : s'.size = 0) : Skipped b s x y w0 w := by
  obtain ⟨r, g, hk, hsk, a1, a2, a3, a4, a5⟩ := h
  have e : s'.data.toList = [] := List.eq_nil_of_length_eq_zero (by rw [size_toList]; exact h0)
  exact ⟨s', x', y', r, g, by rw [hsk, e, skip_nil], a1, a2, a3, a4, a5⟩
theorem skipAt_stop {b : Nat} {s : ByteArray} {x y : Int} {w0 w : World} {k : Nat} {s' : ByteArray} {x' y' : Int} (h : SkipAt b s x y w0 k w s' x' y') (h0 : 0 < s'.size)
    (h1 : (cls (s'[0].toNat : Int) == 1) = false) (h2 : (cls (s'[0].toNat : Int) == 2) = false) (h3 : (cls (s'[0].toNat : Int) == 3) = false) : Skipped b s x y w0 w := by
  obtain ⟨r, g, hk, hsk, a1, a2, a3, a4, a5⟩ := h
  have e := cons_of s' h0
  have := skip_0 s'[0] (s'.extract 1 s'.size).data.toList x' y' (by simpa using h1) (by simpa using h2) (by simpa using h3)
  rw [← e] at this
  exact ⟨s', x', y', r, g, by rw [hsk, this], a1, a2, a3, a4, a5⟩

set_option maxHeartbeats 1000000 in
theorem skip_any (b : Nat) (s : ByteArray) (x y : Int) (w : World) (hs : s.size ≤ 100000) (hr : Rd w b s x y) (hx0 : 0 ≤ x) (hx : x + s.size ≤ 100000000) (hy0 : 1 ≤ y) (hy : y + s.size ≤ 100000000) :
    Calls Tryz.prog 79 #[.pointer (some ⟨b, 0, none⟩)] w fun e w' => e = .returned (.tuple #[]) ∧ Skipped b s x y w w' := by
  have H0 : SkipAt b s x y w s.size w s x y := ⟨hr, World.grownBy.refl w _, Nat.le_refl _, rfl, hx0, hy0, by omega, by omega, by omega⟩
  clear hr
  go_enter Tryz.func79, Tryz.ntmps79
  go_wp2_with fail
  go_loopg [] s.size (fun k wr => ∃ s' x' y', SkipAt b s x y w k wr s' x' y')
  case atStart => exact ⟨s, x, y, H0⟩
  case round =>
    clear H0
    obtain ⟨s', x', y', hat⟩ := hrel
    have hc0 := hat.1.c0
    have hR := hat.1
    have b1 := hat.2.2.2.2
    have b2 : s'.size ≤ gk := hat.2.2.1
    have HR := Lib.hid hR
    have HB := Lib.hid b1
    have HA := Lib.hid hat
    have hx0 := b1.1
    clear hR b1 hat
    by_cases h0 : s'.size = 0
    · have he : s'.toList.isEmpty = true := by
        rw [Lib.toList_data, List.isEmpty_iff]; exact List.eq_nil_of_length_eq_zero (by rw [size_toList]; exact h0)
      go_wp2
      go_end0
      exact ⟨rfl, skipAt_end HA.out h0⟩
    · have he : s'.toList.isEmpty = false := by
        rw [Lib.toList_data, List.isEmpty_eq_false_iff]; intro e; have := congrArg List.length e; rw [size_toList] at this; exact h0 this
      have h0' : 0 < s'.size := by omega
      clear h0
      go_wp2_with (first | (go_at_call 86; refine (classify_any _ _).mono ?_; rintro e w' ⟨rfl, rfl⟩) | (go_at_call 106; refine (nextLine_any b s' x' y' _ (by have := HB.out; unfold maxLen; omega) (by omega) HR.out (by omega) (by have := HB.out; omega)).mono ?_; rintro e w1 ⟨rfl, hr1, hg1⟩) | (go_at_call 107; refine (commentLength_any _ _ (by have := HB.out; unfold maxLen; omega)).mono ?_; rintro e w' ⟨rfl, rfl⟩) | (go_at_call 105; refine (take_int b _ s' x' y' _ (by have := HB.out; unfold maxLen; omega) HR.out (by omega) (by have := cl_le s'.data.toList; rw [size_toList] at this; omega) (by have := HB.out; omega) (by have := HB.out; omega)).mono ?_; rintro e w1 ⟨rfl, hr1, hg1⟩))
      · have h1 : (cls (s'[0].toNat : Int) == 1) = true := by assumption
        have S := Lib.hid (skipAt_blank HA.out h0' h1 hr1 hg1)
        go_roundg (s'.size - 1)
        case measure => omega
        case rel => exact ⟨_, _, _, S.out⟩
      · have h1 : (cls (s'[0].toNat : Int) == 2) = true := by assumption
        have S := Lib.hid (skipAt_line HA.out h0' h1 hr1 hg1)
        go_roundg (s'.size - 1)
        case measure => omega
        case rel => exact ⟨_, _, _, S.out⟩
      · have h1 : (cls (s'[0].toNat : Int) == 3) = true := by assumption
        have S := Lib.hid (skipAt_hash HA.out h0' h1 hr1 hg1)
        go_roundg (s'.size - 1)
        case measure => omega
        case rel => exact ⟨_, _, _, S.out⟩
      · have h1 : (cls (s'[0].toNat : Int) == 1) = false := by assumption
        have h2 : (cls (s'[0].toNat : Int) == 2) = false := by assumption
        have h3 : (cls (s'[0].toNat : Int) == 3) = false := by assumption
        have S := Lib.hid (skipAt_stop HA.out h0' h1 h2 h3)
        refine bodyPost_ret (results_none rfl _ _ _) rfl ?_
        exact ⟨rfl, S.out⟩

/-- The token of a word as the program hands it back. -/
def tkV (k : Int) (t : List UInt8) (n a b : Int) : Value := .agg #[.int .i64 k, .string ⟨t.toArray⟩, .int .i64 n, .int .i64 a, .int .i64 b]
def wtV (l : List UInt8) : Value := match wordTok l with
  | some x => .tuple #[.agg #[.int .i64 x.1, .string ⟨x.2.1.toArray⟩, .int .i64 x.2.2, .int .i64 0, .int .i64 0], .bool true]
  | none => .tuple #[.agg #[.int .i64 0, .string ⟨#[]⟩, .int .i64 0, .int .i64 0, .int .i64 0], .bool false]
theorem wtV_kw (s : ByteArray) (h : isKw s.toList = true) : wtV s.data.toList = .tuple #[.agg #[.int .i64 3, .string s, .int .i64 0, .int .i64 0, .int .i64 0], .bool true] := by
  rw [Lib.toList_data] at h; unfold wtV wordTok; rw [if_pos h]; (try simp only); (try rw [Lib.mk_data])
theorem wtV_name (s : ByteArray) (h : isKw s.toList = false) (h2 : isName s.toList = true) : wtV s.data.toList = .tuple #[.agg #[.int .i64 1, .string s, .int .i64 0, .int .i64 0, .int .i64 0], .bool true] := by
  rw [Lib.toList_data] at h h2; unfold wtV wordTok; rw [if_neg (by rw [h]; exact Bool.false_ne_true), if_pos h2]; (try simp only); (try rw [Lib.mk_data])
theorem wtV_num (s : ByteArray) (m : Nat) (h : isKw s.toList = false) (h2 : isName s.toList = false) (h3 : number s.data.toList = some m) : wtV s.data.toList = .tuple #[.agg #[.int .i64 2, .string ⟨#[]⟩, .int .i64 m, .int .i64 0, .int .i64 0], .bool true] := by
  rw [Lib.toList_data] at h h2; unfold wtV wordTok; rw [if_neg (by rw [h]; exact Bool.false_ne_true), if_neg (by rw [h2]; exact Bool.false_ne_true), h3]; try rfl
theorem wtV_none (s : ByteArray) (h : isKw s.toList = false) (h2 : isName s.toList = false) (h3 : number s.data.toList = none) : wtV s.data.toList = .tuple #[.agg #[.int .i64 0, .string ⟨#[]⟩, .int .i64 0, .int .i64 0, .int .i64 0], .bool false] := by
  rw [Lib.toList_data] at h h2; unfold wtV wordTok; rw [if_neg (by rw [h]; exact Bool.false_ne_true), if_neg (by rw [h2]; exact Bool.false_ne_true), h3]; try rfl

theorem integer_some (s : ByteArray) (m : Nat) (w : World) (hs : s.size ≤ maxLen) (h : number s.data.toList = some m) : Calls Tryz.prog 118 #[.string s] w fun e w' => e = .returned (.tuple #[.int .i64 m, .bool true]) ∧ w = w' :=
  (integer_any s w hs).mono fun _ _ ⟨he, hw⟩ => ⟨by rw [he]; unfold numVal; rw [h]; rfl, hw⟩
theorem integer_none (s : ByteArray) (w : World) (hs : s.size ≤ maxLen) (h : number s.data.toList = none) : Calls Tryz.prog 118 #[.string s] w fun e w' => e = .returned (.tuple #[.int .i64 0, .bool false]) ∧ w = w' :=
  (integer_any s w hs).mono fun _ _ ⟨he, hw⟩ => ⟨by rw [he]; unfold numVal; rw [h]; rfl, hw⟩

theorem blk5 {w : World} {b : Nat} {t : TypeId} {c0 c1 c2 c3 c4 : Value} (h : w.heap[b]? = some (.cells #[c0, c1, c2, c3, c4] t (0, 0))) :
    (w.cell? ⟨b, 0, none⟩ = some c0 ∧ w.cell? ⟨b, 1, none⟩ = some c1 ∧ w.cell? ⟨b, 2, none⟩ = some c2 ∧ w.cell? ⟨b, 3, none⟩ = some c3 ∧ w.cell? ⟨b, 4, none⟩ = some c4) ∧
    (w.frozen? ⟨b, 0, none⟩ = false ∧ w.frozen? ⟨b, 1, none⟩ = false ∧ w.frozen? ⟨b, 2, none⟩ = false ∧ w.frozen? ⟨b, 3, none⟩ = false ∧ w.frozen? ⟨b, 4, none⟩ = false) := by
  refine ⟨⟨cell_of_row w b 0 _ _ (0, 0) h, cell_of_row w b 1 _ _ (0, 0) h, cell_of_row w b 2 _ _ (0, 0) h, cell_of_row w b 3 _ _ (0, 0) h, cell_of_row w b 4 _ _ (0, 0) h⟩, ?_, ?_, ?_, ?_, ?_⟩ <;> simp [World.frozen?, h]
/-- The zero token's cells, and that a call that made memory has kept them. -/
def zTok : Array Value := #[.int .i64 0, .string ⟨#[]⟩, .int .i64 0, .int .i64 0, .int .i64 0]
theorem zTok_kept {w w1 : World} {t : TypeId} (hb : Below (w.alloc (.cells #[.int .i64 0, .string ⟨#[]⟩, .int .i64 0, .int .i64 0, .int .i64 0] t)).heap.size (w.alloc (.cells #[.int .i64 0, .string ⟨#[]⟩, .int .i64 0, .int .i64 0, .int .i64 0] t)) w1) :
    w1.heap[w.heap.size]? = some (.cells #[.int .i64 0, .string ⟨#[]⟩, .int .i64 0, .int .i64 0, .int .i64 0] t (0, 0)) ∧ Below w.heap.size w w1 :=
  ⟨(hb.block w.heap.size (by simp)).trans (heap_alloc_new w _), ((Below.refl _ _).alloc (Nat.le_refl _) _).trans (hb.mono (by simp))⟩
theorem below_set5 {B : Nat} {a w : World} (h : Below B a w) {n : Nat} (hn : B ≤ n) (u0 u1 u2 u3 u4 : Value) : Below B a (((((w.setCell ⟨n, 0, none⟩ u0).setCell ⟨n, 1, none⟩ u1).setCell ⟨n, 2, none⟩ u2).setCell ⟨n, 3, none⟩ u3).setCell ⟨n, 4, none⟩ u4) :=
  ((((h.setCell hn _).setCell hn _).setCell hn _).setCell hn _).setCell hn _
set_option maxHeartbeats 1000000 in
theorem wordToken_any (s : ByteArray) (w : World) (hs : s.size ≤ maxLen) : Calls Tryz.prog 108 #[.string s] w fun e w' => e = .returned (wtV s.data.toList) ∧ Below w.heap.size w w' := by
  have HS := Lib.hid hs
  clear hs
  cases hk : isKw s.toList
  · cases hn : isName s.toList
    · cases hm : number s.data.toList with
      | none =>
        have E := Lib.hid (wtV_none s hk hn hm)
        have HM := Lib.hid hm
        clear hm
        go_enter Tryz.func108, Tryz.ntmps108
        go_wp2_with (first | (go_at_call 88; refine (iskw_any _ _).mono ?_; rintro e w' ⟨rfl, rfl⟩) | (go_at_call 67; refine (isName_any _ _ HS.out).mono ?_; rintro e w' ⟨rfl, rfl⟩) | (go_at_call 118; refine (integer_none _ _ HS.out HM.out).mono ?_; rintro e w' ⟨rfl, rfl⟩))
        exact bodyPost_ret (v := .tuple #[.agg #[.int .i64 0, .string ⟨#[]⟩, .int .i64 0, .int .i64 0, .int .i64 0], .bool false]) (by simp [results, Tryz.results108, go_sem]) rfl ⟨by rw [E.out], (Below.refl _ _).alloc (Nat.le_refl _) _⟩
      | some m =>
        have E := Lib.hid (wtV_num s m hk hn hm)
        have HM := Lib.hid hm
        clear hm
        go_enter Tryz.func108, Tryz.ntmps108
        go_wp2_with (first | (go_at_call 88; refine (iskw_any _ _).mono ?_; rintro e w' ⟨rfl, rfl⟩) | (go_at_call 67; refine (isName_any _ _ HS.out).mono ?_; rintro e w' ⟨rfl, rfl⟩) | (go_at_call 118; refine (integer_some _ m _ HS.out HM.out).mono ?_; rintro e w' ⟨rfl, rfl⟩))
        exact bodyPost_ret (v := .tuple #[.agg #[.int .i64 2, .string ⟨#[]⟩, .int .i64 m, .int .i64 0, .int .i64 0], .bool true]) (by simp [results, Tryz.results108, go_sem]) rfl ⟨by rw [E.out], (Below.refl _ _).alloc (Nat.le_refl _) _⟩
    · have E := Lib.hid (wtV_name s hk hn)
      go_enter Tryz.func108, Tryz.ntmps108
      go_wp2_with (first | (go_at_call 88; refine (iskw_any _ _).mono ?_; rintro e w' ⟨rfl, rfl⟩) | (go_at_call 67; refine (isName_any _ _ HS.out).mono ?_; rintro e w' ⟨rfl, rfl⟩) | (go_at_call 110; refine (copied_any _ _ HS.out).mono ?_; rintro e w1 ⟨rfl, hb1⟩; obtain ⟨hz, hbw⟩ := zTok_kept hb1; obtain ⟨⟨z0, z1, z2, z3, z4⟩, f0, f1, f2, f3, f4⟩ := blk5 hz; have HZ := Lib.hid hz; clear hz))
      exact bodyPost_ret (v := .tuple #[.agg #[.int .i64 1, .string s, .int .i64 0, .int .i64 0, .int .i64 0], .bool true]) (by simp [results, Tryz.results108, go_sem, z0, z1, z2, z3, z4]) rfl ⟨by rw [E.out], below_set5 hbw (Nat.le_refl _) _ _ _ _ _⟩
  · have E := Lib.hid (wtV_kw s hk)
    go_enter Tryz.func108, Tryz.ntmps108
    go_wp2_with (first | (go_at_call 88; refine (iskw_any _ _).mono ?_; rintro e w' ⟨rfl, rfl⟩) | (go_at_call 110; refine (copied_any _ _ HS.out).mono ?_; rintro e w1 ⟨rfl, hb1⟩; obtain ⟨hz, hbw⟩ := zTok_kept hb1; obtain ⟨⟨z0, z1, z2, z3, z4⟩, f0, f1, f2, f3, f4⟩ := blk5 hz; have HZ := Lib.hid hz; clear hz))
    exact bodyPost_ret (v := .tuple #[.agg #[.int .i64 3, .string s, .int .i64 0, .int .i64 0, .int .i64 0], .bool true]) (by simp [results, Tryz.results108, go_sem, z0, z1, z2, z3, z4]) rfl ⟨by rw [E.out], below_set5 hbw (Nat.le_refl _) _ _ _ _ _⟩
end Go.Proofs.YthbcfcbonmphfaaGreatDoor
namespace Go.Proofs.YthbcfcbonmphfaaGreatDoor
open Go.RowKit

theorem wordToken_some (s : ByteArray) (w : World) (hs : s.size ≤ maxLen) (k : Int) (t : List UInt8) (n : Int) (h : wordTok s.data.toList = some (k, t, n)) :
    Calls Tryz.prog 108 #[.string s] w fun e w' => e = .returned (.tuple #[.agg #[.int .i64 k, .string ⟨t.toArray⟩, .int .i64 n, .int .i64 0, .int .i64 0], .bool true]) ∧ Below w.heap.size w w' :=
  (wordToken_any s w hs).mono fun _ _ ⟨he, hw⟩ => ⟨by rw [he]; unfold wtV; rw [h], hw⟩
theorem wordToken_none (s : ByteArray) (w : World) (hs : s.size ≤ maxLen) (h : wordTok s.data.toList = none) :
    Calls Tryz.prog 108 #[.string s] w fun e w' => e = .returned (.tuple #[.agg #[.int .i64 0, .string ⟨#[]⟩, .int .i64 0, .int .i64 0, .int .i64 0], .bool false]) ∧ Below w.heap.size w w' :=
  (wordToken_any s w hs).mono fun _ _ ⟨he, hw⟩ => ⟨by rw [he]; unfold wtV; rw [h], hw⟩

/-- What token hands back, and what it leaves. -/
def TokPost (b : Nat) (s : ByteArray) (x y : Int) (w : World) (e : Ending) (w' : World) : Prop :=
  w.grownBy w' (some b) ∧ match tokOf s.data.toList with
    | some (k, t, n, len) => e = .returned (.tuple #[tkV k t n 0 0, .bool true]) ∧ Rd w' b (s.extract len s.size) x (y + len)
    | none => e = .returned (.tuple #[tkV 0 [] 0 0 0, .bool false])
theorem tokPost_some {b : Nat} {s : ByteArray} {x y : Int} {w w' : World} {e : Ending} {k : Int} {t : List UInt8} {n : Int} {len : Nat} (h : tokOf s.data.toList = some (k, t, n, len)) (hg : w.grownBy w' (some b))
    (he : e = .returned (.tuple #[tkV k t n 0 0, .bool true])) (hr : Rd w' b (s.extract len s.size) x (y + len)) : TokPost b s x y w e w' := by
  unfold TokPost; rw [h]; exact ⟨hg, he, hr⟩
theorem tokPost_none {b : Nat} {s : ByteArray} {x y : Int} {w w' : World} {e : Ending} (h : tokOf s.data.toList = none) (hg : w.grownBy w' (some b))
    (he : e = .returned (.tuple #[tkV 0 [] 0 0 0, .bool false])) : TokPost b s x y w e w' := by
  unfold TokPost; rw [h]; exact ⟨hg, he⟩

/-- The block of a token's cells that the call made, and the reader, behind a call that changed the reader alone and one that made memory. -/
theorem tok_kept {w wa w1 w2 : World} {b : Nat} {s' : ByteArray} {x' y' : Int} {o : Obj} (hb : b < w.heap.size) (ha : Below (w.alloc o).heap.size (w.alloc o) wa) (g : wa.grownBy w1 (some b)) (hr : Rd w1 b s' x' y') (h2 : Below w1.heap.size w1 w2) :
    w2.heap[w.heap.size]? = some o ∧ Rd w2 b s' x' y' ∧ w.grownBy w2 (some b) := by
  have hs : w.heap.size < (w.alloc o).heap.size := by simp
  have hs1 := ha.size
  have hs2 := g.size
  refine ⟨?_, hr.below h2 hr.lt, ?_⟩
  · rw [h2.block _ (by omega), g.block _ (by omega) (by intro e; injection e with e; omega), ha.block _ hs]
    exact heap_alloc_new w o
  · refine only_below (only_trans (only_below (only_alloc (World.grownBy.refl w _) o) ha) g) h2
theorem rd_set5 {w : World} {b n : Nat} {s : ByteArray} {x y : Int} (h : Rd w b s x y) (hn : b ≠ n) (u0 u1 u2 u3 u4 : Value) : Rd (((((w.setCell ⟨n, 0, none⟩ u0).setCell ⟨n, 1, none⟩ u1).setCell ⟨n, 2, none⟩ u2).setCell ⟨n, 3, none⟩ u3).setCell ⟨n, 4, none⟩ u4) b s x y :=
  ((((h.far hn _).far hn _).far hn _).far hn _).far hn _
theorem only_set5 {a w : World} {g : Nat} (h : a.grownBy w (some g)) {n : Nat} (hn : a.heap.size ≤ n) (u0 u1 u2 u3 u4 : Value) : a.grownBy (((((w.setCell ⟨n, 0, none⟩ u0).setCell ⟨n, 1, none⟩ u1).setCell ⟨n, 2, none⟩ u2).setCell ⟨n, 3, none⟩ u3).setCell ⟨n, 4, none⟩ u4) (some g) :=
  only_setCell (p := ⟨n, 4, none⟩) (only_setCell (p := ⟨n, 3, none⟩) (only_setCell (p := ⟨n, 2, none⟩) (only_setCell (p := ⟨n, 1, none⟩) (only_setCell (p := ⟨n, 0, none⟩) h (.inr hn) _) (.inr hn) _) (.inr hn) _) (.inr hn) _) (.inr hn) _

theorem extract_all (s : ByteArray) : s.extract 0 s.size = s := by
  rw [Lib.extract_eq, List.drop_zero, List.take_of_length_le (by rw [size_toList]; omega), Lib.mk_data]
set_option maxHeartbeats 1000000 in
theorem token_end (b : Nat) (s : ByteArray) (x y : Int) (w : World) (hr : Rd w b s x y) (h0 : s.size = 0) :
    Calls Tryz.prog 80 #[.pointer (some ⟨b, 0, none⟩)] w (TokPost b s x y w) := by
  have hl : s.data.toList = [] := List.eq_nil_of_length_eq_zero (by rw [size_toList]; exact h0)
  have he : s.toList = [] := by rw [Lib.toList_data]; exact hl
  have c0 := hr.c0
  have HR := Lib.hid hr
  have hlt := hr.lt
  have hT := Lib.hid (show tokOf s.data.toList = some (5, [], 0, 0) from by rw [hl]; rfl)
  have HE := Lib.hid (extract_all s)
  clear hr hl
  go_enter Tryz.func80, Tryz.ntmps80
  go_wp2
  refine bodyPost_ret (v := .tuple #[.agg #[.int .i64 5, .string ⟨#[]⟩, .int .i64 0, .int .i64 0, .int .i64 0], .bool true]) (by simp [results, Tryz.results80, go_sem]) rfl ?_
  refine tokPost_some hT.out (only_alloc (World.grownBy.refl w _) _) rfl ?_
  rw [HE.out]
  have := HR.out.alloc (.cells #[.int .i64 5, .string ⟨#[]⟩, .int .i64 0, .int .i64 0, .int .i64 0] 130)
  simpa using this

theorem tokOf_word (s : ByteArray) (h : 0 < wl s.data.toList) : tokOf s.data.toList = (wordTok (s.data.toList.take (wl s.data.toList))).map fun x => (x.1, x.2.1, x.2.2, wl s.data.toList) := by
  unfold tokOf
  rw [if_neg, if_pos h]
  intro e; rw [e] at h; exact absurd h (by decide)
theorem extract_take (s : ByteArray) (n : Nat) : (s.extract 0 n).data.toList = s.data.toList.take n := by rw [Lib.extract_data]; rfl
theorem ext_size_le (s : ByteArray) (n : Nat) : (s.extract 0 n).size ≤ s.size := by rw [ByteArray.size_extract]; omega

set_option maxHeartbeats 1000000 in
theorem token_word (b : Nat) (s : ByteArray) (x y : Int) (w : World) (hs : s.size ≤ 100000) (hr : Rd w b s x y) (hy0 : 0 ≤ y) (hy : y + s.size ≤ 100000000) (h0 : 0 < wl s.data.toList) :
    Calls Tryz.prog 80 #[.pointer (some ⟨b, 0, none⟩)] w (TokPost b s x y w) := by
  have hle := wl_le s.data.toList
  rw [size_toList] at hle
  have he : s.toList.isEmpty = false := by
    rw [Lib.toList_data, List.isEmpty_eq_false_iff]; intro e; rw [e] at h0; exact absurd h0 (by decide)
  have hW := tokOf_word s h0
  have hx := extract_take s (wl s.data.toList)
  have hxs := ext_size_le s (wl s.data.toList)
  have hm : s.size ≤ maxLen := by unfold maxLen; omega
  have hm2 : (s.extract 0 (wl s.data.toList)).size ≤ maxLen := by unfold maxLen; omega
  cases hwt : wordTok (s.data.toList.take (wl s.data.toList)) with
  | none =>
    rw [hwt] at hW
    rw [← hx] at hwt
    have hT := Lib.hid (show tokOf s.data.toList = none from hW)
    have c0 := hr.c0
    have HRA := Lib.hid (hr.alloc (.cells #[.int .i64 0, .string ⟨#[]⟩, .int .i64 0, .int .i64 0, .int .i64 0] 130))
    have hlt := hr.lt
    have HL := Lib.hid hr.lt
    have HM := Lib.hid hm
    have HM2 := Lib.hid hm2
    have HW := Lib.hid hwt
    have HLE := Lib.hid hle
    have HY := Lib.hid hy
    clear hr hW hx hxs hm hm2 hwt hle hy
    go_enter Tryz.func80, Tryz.ntmps80
    go_wp2_with (first | (go_at_call 87; refine (wordLength_any _ _ HM.out).mono ?_; rintro e w' ⟨rfl, rfl⟩) | (go_at_call 105; refine (take_int b _ s x y _ HM.out HRA.out (by omega) (by have := HLE.out; omega) hy0 (by have := HY.out; omega)).mono ?_; rintro e w1 ⟨rfl, hr1, hg1⟩; simp only [Int.toNat_natCast] at hr1 ⊢; have HR1 := Lib.hid hr1; clear hr1) | (go_at_call 108; refine (wordToken_none _ _ HM2.out HW.out).mono ?_; rintro e w2 ⟨rfl, hb2⟩; obtain ⟨hz, hr2, hg2⟩ := tok_kept HL.out (Below.refl _ _) hg1 HR1.out hb2; obtain ⟨⟨z0, z1, z2, z3, z4⟩, f0, f1, f2, f3, f4⟩ := blk5 hz; have HZ := Lib.hid hz; have HR2 := Lib.hid hr2; clear hz hr2 hb2))
    exact bodyPost_ret (v := .tuple #[tkV 0 [] 0 0 0, .bool false]) (by simp [results, Tryz.results80, go_sem, tkV, z0, z1, z2, z3, z4]) rfl (tokPost_none hT.out (only_set5 hg2 (Nat.le_refl _) _ _ _ _ _) rfl)
  | some v =>
    obtain ⟨k, t, n⟩ := v
    rw [hwt] at hW
    rw [← hx] at hwt
    have hT := Lib.hid (show tokOf s.data.toList = some (k, t, n, wl s.data.toList) from hW)
    have c0 := hr.c0
    have HRA := Lib.hid (hr.alloc (.cells #[.int .i64 0, .string ⟨#[]⟩, .int .i64 0, .int .i64 0, .int .i64 0] 130))
    have hlt := hr.lt
    have HL := Lib.hid hr.lt
    have HM := Lib.hid hm
    have HM2 := Lib.hid hm2
    have HW := Lib.hid hwt
    have HLE := Lib.hid hle
    have HY := Lib.hid hy
    clear hr hW hx hxs hm hm2 hwt hle hy
    go_enter Tryz.func80, Tryz.ntmps80
    go_wp2_with (first | (go_at_call 87; refine (wordLength_any _ _ HM.out).mono ?_; rintro e w' ⟨rfl, rfl⟩) | (go_at_call 105; refine (take_int b _ s x y _ HM.out HRA.out (by omega) (by have := HLE.out; omega) hy0 (by have := HY.out; omega)).mono ?_; rintro e w1 ⟨rfl, hr1, hg1⟩; simp only [Int.toNat_natCast] at hr1 ⊢; have HR1 := Lib.hid hr1; clear hr1) | (go_at_call 108; refine (wordToken_some _ _ HM2.out k t n HW.out).mono ?_; rintro e w2 ⟨rfl, hb2⟩; obtain ⟨hz, hr2, hg2⟩ := tok_kept HL.out (Below.refl _ _) hg1 HR1.out hb2; obtain ⟨⟨z0, z1, z2, z3, z4⟩, f0, f1, f2, f3, f4⟩ := blk5 hz; have HZ := Lib.hid hz; have HR2 := Lib.hid hr2; clear hz hr2 hb2))
    exact bodyPost_ret (v := .tuple #[tkV k t n 0 0, .bool true]) (by simp [results, Tryz.results80, go_sem, tkV, z0, z1, z2, z3, z4]) rfl (tokPost_some hT.out (only_set5 hg2 (Nat.le_refl _) _ _ _ _ _) rfl (rd_set5 HR2.out (Nat.ne_of_lt HL.out) _ _ _ _ _))

theorem wordLength_zero (s : ByteArray) (w : World) (hs : s.size ≤ maxLen) (h : wl s.data.toList = 0) : Calls Tryz.prog 87 #[.string s] w fun e w' => e = .returned (.int .i64 0) ∧ w = w' :=
  (wordLength_any s w hs).mono fun _ _ ⟨he, hw⟩ => ⟨by rw [he, h]; rfl, hw⟩
theorem symbolLength_zero (s : ByteArray) (w : World) (hs : s.size ≤ maxLen) (hp : Pairs w) (h : symLen s.data.toList = 0) : Calls Tryz.prog 109 #[.string s] w fun e w' => e = .returned (.int .i64 0) ∧ ∃ n, w' = w.drewN n :=
  (symbolLength_any s w hs hp).mono fun _ _ ⟨he, hw⟩ => ⟨by rw [he, h]; rfl, hw⟩
theorem tokOf_sym (s : ByteArray) (h : wl s.data.toList = 0) (h0 : 0 < s.size) (h2 : 0 < symLen s.data.toList) : tokOf s.data.toList = some (4, s.data.toList.take (symLen s.data.toList), 0, symLen s.data.toList) := by
  unfold tokOf
  rw [if_neg, if_neg (by omega), if_pos h2]
  intro e; have := congrArg List.length e; rw [size_toList, List.length_nil] at this; omega
theorem tokOf_bad (s : ByteArray) (h : wl s.data.toList = 0) (h0 : 0 < s.size) (h2 : symLen s.data.toList = 0) : tokOf s.data.toList = none := by
  unfold tokOf
  rw [if_neg, if_neg (by omega), if_neg (by omega)]
  intro e; have := congrArg List.length e; rw [size_toList, List.length_nil] at this; omega
theorem only_drewN {a w : World} {row : Option Nat} (h : a.grownBy w row) (n : Nat) : a.grownBy (w.drewN n) row := ⟨h.os, h.tape, h.output, h.size, h.block⟩
theorem mk_take (s : ByteArray) (n : Nat) : (⟨(s.data.toList.take n).toArray⟩ : ByteArray) = s.extract 0 n := by rw [Lib.extract_eq]; rfl

set_option maxHeartbeats 1000000 in
theorem token_rest (b : Nat) (s : ByteArray) (x y : Int) (w : World) (hs : s.size ≤ 100000) (hp : Pairs w) (hr : Rd w b s x y) (hy0 : 0 ≤ y) (hy : y + s.size ≤ 100000000) (h0 : wl s.data.toList = 0) (h00 : 0 < s.size) :
    Calls Tryz.prog 80 #[.pointer (some ⟨b, 0, none⟩)] w (TokPost b s x y w) := by
  have he : s.toList.isEmpty = false := by
    rw [Lib.toList_data, List.isEmpty_eq_false_iff]; intro e; have := congrArg List.length e; rw [size_toList, List.length_nil] at this; omega
  have hle := symLen_le s.data.toList
  rw [size_toList] at hle
  have hm : s.size ≤ maxLen := by unfold maxLen; omega
  have hm2 : (s.extract 0 (symLen s.data.toList)).size ≤ maxLen := by have := ext_size_le s (symLen s.data.toList); unfold maxLen; omega
  have c0 := hr.c0
  have HP := Lib.hid (hp.alloc (.cells #[.int .i64 0, .string ⟨#[]⟩, .int .i64 0, .int .i64 0, .int .i64 0] 130))
  have HRA := Lib.hid (hr.alloc (.cells #[.int .i64 0, .string ⟨#[]⟩, .int .i64 0, .int .i64 0, .int .i64 0] 130))
  have hlt := hr.lt
  have HL := Lib.hid hr.lt
  have HM := Lib.hid hm
  have HM2 := Lib.hid hm2
  have HLE := Lib.hid hle
  have HY := Lib.hid hy
  have H0 := Lib.hid h0
  rcases Nat.eq_zero_or_pos (symLen s.data.toList) with h2 | h2
  · have hT := Lib.hid (tokOf_bad s h0 h00 h2)
    have H2 := Lib.hid h2
    clear hr hm hm2 hle hy hp h0 h2
    go_enter Tryz.func80, Tryz.ntmps80
    go_wp2_with (first | (go_at_call 87; refine (wordLength_zero _ _ HM.out H0.out).mono ?_; rintro e w' ⟨rfl, rfl⟩) | (go_at_call 109; refine (symbolLength_zero _ _ HM.out HP.out H2.out).mono ?_; rintro e w' ⟨rfl, nq, rfl⟩))
    exact bodyPost_ret (v := .tuple #[tkV 0 [] 0 0 0, .bool false]) (by simp [results, Tryz.results80, go_sem, tkV]) rfl (tokPost_none hT.out (only_set5 (n := w.heap.size) (only_drewN (only_alloc (World.grownBy.refl w _) _) _) (Nat.le_refl _) _ _ _ _ _) rfl)
  · have hT := Lib.hid (tokOf_sym s h0 h00 h2)
    have h2I : (0 : Int) < (symLen s.data.toList : Int) := by omega
    clear hr hm hm2 hle hy hp h0 h2
    go_enter Tryz.func80, Tryz.ntmps80
    go_wp2_with (first | (go_at_call 87; refine (wordLength_zero _ _ HM.out H0.out).mono ?_; rintro e w' ⟨rfl, rfl⟩) | (go_at_call 109; refine (symbolLength_any _ _ HM.out HP.out).mono ?_; rintro e w' ⟨rfl, nq, rfl⟩) | (go_at_call 105; refine (take_int b _ s x y _ HM.out (HRA.out.drewN nq) (by omega) (by have := HLE.out; omega) hy0 (by have := HY.out; omega)).mono ?_; rintro e w1 ⟨rfl, hr1, hg1⟩; simp only [Int.toNat_natCast] at hr1 ⊢; have HR1 := Lib.hid hr1; clear hr1) | (go_at_call 110; refine (copied_any _ _ HM2.out).mono ?_; rintro e w2 ⟨rfl, hb2⟩; obtain ⟨hz, hr2, hg2⟩ := tok_kept HL.out (below_drewN (Below.refl _ _) nq) hg1 HR1.out hb2; obtain ⟨⟨z0, z1, z2, z3, z4⟩, f0, f1, f2, f3, f4⟩ := blk5 hz; have HZ := Lib.hid hz; have HR2 := Lib.hid hr2; clear hz hr2 hb2))
    refine bodyPost_ret (v := .tuple #[.agg #[.int .i64 4, .string (s.extract 0 (symLen s.data.toList)), .int .i64 0, .int .i64 0, .int .i64 0], .bool true]) ?_ rfl ?_
    · simp [results, Tryz.results80, go_sem, z0, z1, z2, z3, z4]
    · refine tokPost_some hT.out ?_ ?_ ?_
      · exact only_set5 hg2 (Nat.le_refl _) _ _ _ _ _
      · unfold tkV; rw [mk_take]
      · exact rd_set5 HR2.out (Nat.ne_of_lt HL.out) _ _ _ _ _

theorem token_any (b : Nat) (s : ByteArray) (x y : Int) (w : World) (hs : s.size ≤ 100000) (hp : Pairs w) (hr : Rd w b s x y) (hy0 : 0 ≤ y) (hy : y + s.size ≤ 100000000) :
    Calls Tryz.prog 80 #[.pointer (some ⟨b, 0, none⟩)] w (TokPost b s x y w) := by
  by_cases h0 : s.size = 0
  · exact token_end b s x y w hr h0
  · rcases Nat.eq_zero_or_pos (wl s.data.toList) with h | h
    · exact token_rest b s x y w hs hp hr hy0 hy h (by omega)
    · exact token_word b s x y w hs hr hy0 hy h
end Go.Proofs.YthbcfcbonmphfaaGreatDoor
