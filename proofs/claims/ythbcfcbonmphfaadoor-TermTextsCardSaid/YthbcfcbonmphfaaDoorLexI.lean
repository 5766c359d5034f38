/- Walks: awake. -/
import Derived.Test.YthbcfcbonmphfaaDoorLexH
namespace Go.Proofs.YthbcfcbonmphfaaDoor
open Go.RowKit

theorem toks_c1 : toks [120, 46, 108, 101, 102, 116, 60, 61, 51, 32, 35, 32, 110, 111] 1 1 = .ok [⟨1, [120], 0, 1, 1⟩, ⟨4, [46], 0, 1, 2⟩, ⟨1, [108, 101, 102, 116], 0, 1, 3⟩, ⟨4, [60, 61], 0, 1, 7⟩, ⟨2, [], 3, 1, 9⟩, ⟨5, [], 0, 1, 15⟩] := by rfl
theorem toks_c2 : toks [97, 32, 61, 32, 48, 49] 1 1 = .error (1, 5) := by rfl

theorem tokens_c1 (w : World) (hp : Pairs w) : Calls Tryd.prog 20 #[.string ⟨#[120, 46, 108, 101, 102, 116, 60, 61, 51, 32, 35, 32, 110, 111]⟩] w fun e w' => ∃ g cap, e = .returned (.tuple #[.slice (some ⟨g, 0, none⟩) 6 cap, .agg #[.int .i64 0, .int .i64 0], .int .i64 0]) ∧
    w'.cell? ⟨g, 16, none⟩ = some (.string ⟨#[60, 61]⟩) ∧ w'.cell? ⟨g, 22, none⟩ = some (.int .i64 3) ∧ g < w'.heap.size ∧ Below w.heap.size w w' := by
  refine (tokens_any _ w (by decide) hp).mono ?_
  rintro e w' ⟨hb, hT⟩
  have e1 : toks (ByteArray.mk #[120, 46, 108, 101, 102, 116, 60, 61, 51, 32, 35, 32, 110, 111]).data.toList 1 1 = _ := toks_c1
  rw [e1] at hT
  simp only at hT
  obtain ⟨v, he, ho⟩ := hT
  obtain ⟨g, cap, hv, _, hlt⟩ := ho.form (by decide)
  subst hv
  have h16 := ho.cellAt 16 (by decide)
  have h22 := ho.cellAt 22 (by decide)
  exact ⟨g, cap, he, h16, h22, hlt, hb⟩
theorem tokens_c2 (w : World) (hp : Pairs w) : Calls Tryd.prog 20 #[.string ⟨#[97, 32, 61, 32, 48, 49]⟩] w fun e w' => e = .returned (.tuple #[.slice none 0 0, .agg #[.int .i64 1, .int .i64 5], .int .i64 7]) ∧ Below w.heap.size w w' := by
  refine (tokens_any _ w (by decide) hp).mono ?_
  rintro e w' ⟨hb, hT⟩
  have e1 : toks (ByteArray.mk #[97, 32, 61, 32, 48, 49]).data.toList 1 1 = _ := toks_c2
  rw [e1] at hT
  exact ⟨hT, hb⟩

set_option maxHeartbeats 1000000 in
theorem awake_any (w : World) (hp : Pairs w) : Calls Tryd.prog 13 #[] w fun e w' => e = .returned (.bool true) ∧ Below w.heap.size w w' := by
  have HP := Lib.hid hp
  clear hp
  go_enter Tryd.func13, Tryd.ntmps13
  go_wp2_with fail
  refine (tokens_c1 _ HP.out).mono ?_
  rintro e w1 ⟨g, cap, rfl, h16, h22, hlt, hb1⟩
  have HP1 := Lib.hid ((HP.out.below hb1 HP.out.lt).alloc (.cells #[.int .i64 0, .int .i64 0] 23))
  have HB1 := Lib.hid hb1
  have H16 := Lib.hid h16
  have H22 := Lib.hid h22
  clear hb1 h16 h22
  go_wp2_with fail
  refine (tokens_c2 _ HP1.out).mono ?_
  rintro e w2 ⟨rfl, hb2⟩
  have h16 : w2.cell? ⟨g, 16, none⟩ = some (.string ⟨#[60, 61]⟩) := (hb2.cell (p := ⟨g, 16, none⟩) (by simp; omega)).trans ((World.cell?_alloc_lt w1 _ _ hlt).trans H16.out)
  have h22 : w2.cell? ⟨g, 22, none⟩ = some (.int .i64 3) := (hb2.cell (p := ⟨g, 22, none⟩) (by simp; omega)).trans ((World.cell?_alloc_lt w1 _ _ hlt).trans H22.out)
  have HB2 := Lib.hid (((HB1.out.alloc HB1.out.size _).trans (hb2.mono (by have := HB1.out.size; simp; omega))))
  have hlt2 : g < w2.heap.size := by have := hb2.size; simp at this; omega
  clear hb2
  go_wp2
  go_ret
  exact ⟨rfl, HB2.out.alloc HB2.out.size _⟩

/-- What the law keeps across its calls. -/
theorem held5 {W W' : World} {B : Nat} {c0 c1 c2 c3 c4 : Value} (h : (W.cell? ⟨B, 0, none⟩ = some c0 ∧ W.cell? ⟨B, 1, none⟩ = some c1 ∧ W.cell? ⟨B, 2, none⟩ = some c2 ∧ W.cell? ⟨B, 3, none⟩ = some c3 ∧ W.cell? ⟨B, 4, none⟩ = some c4) ∧ B < W.heap.size ∧ Pairs W)
    (hb : Below W.heap.size W W') : (W'.cell? ⟨B, 0, none⟩ = some c0 ∧ W'.cell? ⟨B, 1, none⟩ = some c1 ∧ W'.cell? ⟨B, 2, none⟩ = some c2 ∧ W'.cell? ⟨B, 3, none⟩ = some c3 ∧ W'.cell? ⟨B, 4, none⟩ = some c4) ∧ B < W'.heap.size ∧ Pairs W' := by
  obtain ⟨⟨h0, h1, h2, h3, h4⟩, hl, hp⟩ := h
  have hs := hb.size
  exact ⟨⟨(hb.cell (p := ⟨B, 0, none⟩) hl).trans h0, (hb.cell (p := ⟨B, 1, none⟩) hl).trans h1, (hb.cell (p := ⟨B, 2, none⟩) hl).trans h2, (hb.cell (p := ⟨B, 3, none⟩) hl).trans h3, (hb.cell (p := ⟨B, 4, none⟩) hl).trans h4⟩, by omega, hp.below hb hp.lt⟩

theorem held5S {w W W' : World} {B : Nat} {c0 c1 c2 c3 c4 : Value} (hb : Below W.heap.size W W') (h : ((W.cell? ⟨B, 0, none⟩ = some c0 ∧ W.cell? ⟨B, 1, none⟩ = some c1 ∧ W.cell? ⟨B, 2, none⟩ = some c2 ∧ W.cell? ⟨B, 3, none⟩ = some c3 ∧ W.cell? ⟨B, 4, none⟩ = some c4) ∧ B < W.heap.size ∧ Pairs W) ∧ Below B w W) :
    ((W'.cell? ⟨B, 0, none⟩ = some c0 ∧ W'.cell? ⟨B, 1, none⟩ = some c1 ∧ W'.cell? ⟨B, 2, none⟩ = some c2 ∧ W'.cell? ⟨B, 3, none⟩ = some c3 ∧ W'.cell? ⟨B, 4, none⟩ = some c4) ∧ B < W'.heap.size ∧ Pairs W') ∧ Below B w W' :=
  ⟨held5 h.1 hb, h.2.trans (hb.mono (Nat.le_of_lt h.1.2.1))⟩
theorem pairs_held {w W : World} {B : Nat} {c0 c1 c2 c3 c4 : Value} (h : ((W.cell? ⟨B, 0, none⟩ = some c0 ∧ W.cell? ⟨B, 1, none⟩ = some c1 ∧ W.cell? ⟨B, 2, none⟩ = some c2 ∧ W.cell? ⟨B, 3, none⟩ = some c3 ∧ W.cell? ⟨B, 4, none⟩ = some c4) ∧ B < W.heap.size ∧ Pairs W) ∧ Below B w W) : Pairs W := h.1.2.2
theorem below_held {w W : World} {B : Nat} {c0 c1 c2 c3 c4 : Value} (h : ((W.cell? ⟨B, 0, none⟩ = some c0 ∧ W.cell? ⟨B, 1, none⟩ = some c1 ∧ W.cell? ⟨B, 2, none⟩ = some c2 ∧ W.cell? ⟨B, 3, none⟩ = some c3 ∧ W.cell? ⟨B, 4, none⟩ = some c4) ∧ B < W.heap.size ∧ Pairs W) ∧ Below B w W) : Below B w W := h.2
theorem pairs_box {w : World} (hp : Pairs w) (o : Obj) : Pairs (w.alloc o) := hp.alloc o

set_option maxHeartbeats 2000000 in
theorem lexNames_small (s ts : ByteArray) (k n a b : Int) (w : World) (hs : s.size ≤ 100) (ht : ts.size ≤ 100) (hp : Pairs w) :
    Calls Tryd.prog 3 #[.string s, .agg #[.int .i64 k, .string ts, .int .i64 n, .int .i64 a, .int .i64 b]] w fun e w' => e = .returned (.bool true) ∧ Below w.heap.size w w' := by
  have HP := Lib.hid (hp.alloc (.cells #[.int .i64 k, .string ts, .int .i64 n, .int .i64 a, .int .i64 b] 25))
  have HS := Lib.hid (show s.size ≤ maxLen by unfold maxLen; omega)
  have HT := Lib.hid (show ts.size ≤ maxLen by unfold maxLen; omega)
  have hsI : decide ((100 : Int) < (s.size : Int)) = false := by simp; omega
  have htI : decide ((100 : Int) < (ts.size : Int)) = false := by simp; omega
  clear hp
  go_enter Tryd.func3, Tryd.ntmps3
  go_wp2_with fail
  refine (awake_any _ HP.out).mono ?_
  rintro e w1 ⟨rfl, hb1⟩
  have HB1 := Lib.hid (((Below.refl _ _).alloc (Nat.le_refl _) _).trans (hb1.mono (by simp)))
  have HH : Hid ((w1.cell? ⟨w.heap.size, 0, none⟩ = some (.int .i64 k) ∧ w1.cell? ⟨w.heap.size, 1, none⟩ = some (.string ts) ∧ w1.cell? ⟨w.heap.size, 2, none⟩ = some (.int .i64 n) ∧ w1.cell? ⟨w.heap.size, 3, none⟩ = some (.int .i64 a) ∧ w1.cell? ⟨w.heap.size, 4, none⟩ = some (.int .i64 b)) ∧ w.heap.size < w1.heap.size ∧ Pairs w1) :=
    held5 ⟨(blk5 (heap_alloc_new w _)).1, by simp, HP.out⟩ hb1
  have c1 := HH.out.1.2.1
  clear hb1
  have hS1 := And.intro HH.out HB1.out
  have HS1 := Lib.hid hS1
  clear hS1
  go_wp2_with fail
  go_region_held3 (fun w' => ((w'.cell? ⟨w.heap.size, 0, none⟩ = some (.int .i64 k) ∧ w'.cell? ⟨w.heap.size, 1, none⟩ = some (.string ts) ∧ w'.cell? ⟨w.heap.size, 2, none⟩ = some (.int .i64 n) ∧ w'.cell? ⟨w.heap.size, 3, none⟩ = some (.int .i64 a) ∧ w'.cell? ⟨w.heap.size, 4, none⟩ = some (.int .i64 b)) ∧ w.heap.size < w'.heap.size ∧ Pairs w') ∧ Below w.heap.size w w')
        (first | exact ⟨HS1.out.1, HS1.out.2.drew⟩ | assumption | exact held5S hbx (by assumption))
        (first
          | (go_at_call 14; refine (isName_any _ _ HS.out).mono ?_; rintro e wx ⟨rfl, rfl⟩)
          | (go_at_call 15; refine (refIsName_any _ _ HS.out).mono ?_; rintro e wx ⟨rfl, hbx⟩)
          | (go_at_call 16; refine (iskw_any _ _).mono ?_; rintro e wx ⟨rfl, rfl⟩)
          | (go_at_call 17; refine (refIsKw_any _ _).mono ?_; rintro e wx ⟨rfl, hbx⟩)
          | (go_at_call 18; refine (valid_any k ts n a b _ HT.out (pairs_held (by assumption))).mono ?_; rintro e wx ⟨rfl, hbx⟩)
          | (go_at_call 19; refine (refValid_any k ts n a b _ HT.out).mono ?_; rintro e wx ⟨rfl, hbx⟩))
  go_wp2
  go_ret
  exact ⟨rfl, below_held (by assumption)⟩

set_option maxHeartbeats 1000000 in
theorem lexNames_big (s ts : ByteArray) (k n a b : Int) (w : World) (hb : 100 < s.size ∨ (s.size ≤ 100 ∧ 100 < ts.size)) (hp : Pairs w) :
    Calls Tryd.prog 3 #[.string s, .agg #[.int .i64 k, .string ts, .int .i64 n, .int .i64 a, .int .i64 b]] w fun e w' => e = .returned (.bool true) ∧ Below w.heap.size w w' := by
  have HP := Lib.hid (hp.alloc (.cells #[.int .i64 k, .string ts, .int .i64 n, .int .i64 a, .int .i64 b] 25))
  clear hp
  rcases hb with h | ⟨h, h2⟩
  · have hsI : decide ((100 : Int) < (s.size : Int)) = true := by simp; omega
    clear h
    go_enter Tryd.func3, Tryd.ntmps3
    go_wp2_with fail
    refine (awake_any _ HP.out).mono ?_
    rintro e w1 ⟨rfl, hb1⟩
    have HB1 := Lib.hid (((Below.refl _ _).alloc (Nat.le_refl _) _).trans (hb1.mono (by simp)))
    clear hb1
    go_wp2
    go_ret
    exact ⟨rfl, HB1.out⟩
  · have hsI : decide ((100 : Int) < (s.size : Int)) = false := by simp; omega
    have htI : decide ((100 : Int) < (ts.size : Int)) = true := by simp; omega
    clear h h2
    go_enter Tryd.func3, Tryd.ntmps3
    go_wp2_with fail
    refine (awake_any _ HP.out).mono ?_
    rintro e w1 ⟨rfl, hb1⟩
    have HB1 := Lib.hid (((Below.refl _ _).alloc (Nat.le_refl _) _).trans (hb1.mono (by simp)))
    have c1 : w1.cell? ⟨w.heap.size, 1, none⟩ = some (.string ts) := (held5 ⟨(blk5 (heap_alloc_new w _)).1, by simp, HP.out⟩ hb1).1.2.1
    clear hb1
    go_wp2
    go_ret
    exact ⟨rfl, HB1.out⟩

theorem lexNames_any (s ts : ByteArray) (k n a b : Int) (w : World) (hp : Pairs w) :
    Calls Tryd.prog 3 #[.string s, .agg #[.int .i64 k, .string ts, .int .i64 n, .int .i64 a, .int .i64 b]] w fun e w' => e = .returned (.bool true) ∧ Below w.heap.size w w' := by
  by_cases h : 100 < s.size
  · exact lexNames_big s ts k n a b w (.inl h) hp
  · by_cases h2 : 100 < ts.size
    · exact lexNames_big s ts k n a b w (.inr ⟨by omega, h2⟩) hp
    · exact lexNames_small s ts k n a b w (by omega) (by omega) hp
end Go.Proofs.YthbcfcbonmphfaaDoor
