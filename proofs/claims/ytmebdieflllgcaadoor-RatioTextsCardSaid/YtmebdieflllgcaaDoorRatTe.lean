/- The library's Atoi and Cut as Parse meets them; the program's Parse. -/
import Derived.Test.YtmebdieflllgcaaDoorRatTc
import Derived.Test.YtmebdieflllgcaaDoorHeld
namespace Go.Proofs.YtmebdieflllgcaaDoor
open Go.RowKit
set_option maxRecDepth 100000

/-! ### what the library's variables hold -/
theorem gSyn : Tryd.prog.globalNamed "strconv.ErrSyntax" = some 1 := by kernel_rfl
theorem gRan : Tryd.prog.globalNamed "strconv.ErrRange" = some 2 := by kernel_rfl
structure Gl (w : World) : Prop where
  pw : Pw w
  ml : ∃ m : Int, w.cell? ⟨0, 0, none⟩ = some (.int .i64 m)
  es : ∃ tp p, w.var? Tryd.prog "strconv.ErrSyntax" = some #[.iface tp p]
  er : ∃ tp p, w.var? Tryd.prog "strconv.ErrRange" = some #[.iface tp p]
theorem var_on {w w' : World} {name : String} {g : Nat} {v : Array Value} (hg : Tryd.prog.globalNamed name = some g) (h : w.var? Tryd.prog name = some v) (hb : Below w.heap.size w w') : w'.var? Tryd.prog name = some v := by
  unfold World.var? at h ⊢
  rw [hg] at h ⊢
  simp only [Option.bind_some] at h ⊢
  have hlt : g < w.heap.size := by
    rcases Nat.lt_or_ge g w.heap.size with h' | h'
    · exact h'
    · rw [Array.getElem?_eq_none h'] at h; cases h
  rw [hb.block g hlt]
  exact h
theorem Gl.on {w w' : World} (h : Gl w) (hb : Below w.heap.size w w') : Gl w' := by
  obtain ⟨m, hm⟩ := h.ml
  obtain ⟨a, b, he⟩ := h.es
  obtain ⟨c, d, hr⟩ := h.er
  have hlt := World.block_lt_of_cell? w _ hm
  exact ⟨h.pw.on hb, ⟨m, (hb.cell hlt).trans hm⟩, ⟨a, b, var_on gSyn he hb⟩, ⟨c, d, var_on gRan hr hb⟩⟩

/-- What Cut gives, with its slash. -/
theorem cut_any (s : ByteArray) (w : World) (hs : s.size ≤ 300) (h : Gl w) : Calls Tryd.prog 46 #[.string s, .string ⟨#[47]⟩] w fun e w' => e = .returned (.tuple #[.string ⟨(Lib.cut s.data.toList [47]).1.toArray⟩, .string ⟨(Lib.cut s.data.toList [47]).2.1.toArray⟩, .bool (Lib.cut s.data.toList [47]).2.2]) ∧ ∃ n, w' = w.drewN n := by
  obtain ⟨m, hm⟩ := h.ml
  exact Any.strings_Cut Tryd.lays145 s ⟨#[47]⟩ m w (by omega) hm
theorem atoi_good (s : ByteArray) (v : Int) (w : World) (hs : s.size ≤ 300) (h : Lib.atoiAll s.data.toList = .ok v) : Calls Tryd.prog 47 #[.string s] w fun e w' => e = .returned (.tuple #[.int .i64 v, .nilIface]) ∧ Below w.heap.size w w' := by
  refine (Any.strconv_Atoi_ok Tryd.laysC172 s (by omega) v h w).mono ?_
  rintro e w' ⟨he, hw⟩
  refine ⟨he, ?_⟩
  rcases hw with rfl | ⟨t, rfl⟩
  · exact Below.refl _ _
  · exact ⟨rfl, rfl, rfl, by rw [Lib.bytesWorld_size]; omega, fun k hk => Lib.bytesWorld_at_old w 5 t k hk⟩
def AtoiBad (w : World) (e : Ending) (w' : World) : Prop := ∃ (x : Int) (N : Nat), e = .returned (.tuple #[.int .i64 x, .iface 75 (.pointer (some ⟨N, 0, none⟩))]) ∧ Below w.heap.size w w'
theorem atoi_bad (s : ByteArray) (w : World) (hs : s.size ≤ 300) (hg : Gl w) (h : ∀ v, Lib.atoiAll s.data.toList ≠ .ok v) : Calls Tryd.prog 47 #[.string s] w (AtoiBad w) := by
  cases hc : Lib.atoiAll s.data.toList with
  | ok v => exact absurd hc (h v)
  | «syntax» =>
    obtain ⟨a, b, he⟩ := hg.es
    refine (Any.strconv_Atoi_syntax_var Tryd.laysC172 s (by omega) hc a b w he).mono ?_
    rintro e w' ⟨N, he, _, _, hb⟩
    exact ⟨_, N, he, hb⟩
  | range =>
    obtain ⟨a, b, he⟩ := hg.er
    refine (Any.strconv_Atoi_range_var Tryd.laysC172 s (by omega) hc a b w he).mono ?_
    rintro e w' ⟨N, he, _, _, hb⟩
    exact ⟨_, N, he, hb⟩

set_option maxHeartbeats 8000000 in
theorem parse_y_bad1 (s BE AF X : ByteArray) (n d : Int) (w : World) (hg : Gl w)
    (kc : ∀ W, Gl W → Calls Tryd.prog 46 #[.string s, .string ⟨#[47]⟩] W fun e w' => e = .returned (.tuple #[.string BE, .string AF, .bool true]) ∧ ∃ q, w' = W.drewN q) (k1 : ∀ W, Gl W → Calls Tryd.prog 47 #[.string BE] W (AtoiBad W)) :
    Calls Tryd.prog 31 #[.string s] w fun e w' => e = .returned (.tuple #[.agg #[.int .i64 0, .int .i64 0], .int .i64 7]) ∧ Below w.heap.size w w' := by
  have CC := Lib.hid kc
  have C1 := Lib.hid k1
  have HG := Lib.hid hg
  clear kc k1 hg
  have H0 := Lib.hid ((Hd.nil w).add (.cells #[.int .i64 0, .int .i64 0] 24))
  go_enter Tryd.func31, Tryd.ntmps31
  go_wp2_with fail
  refine (CC.out _ (HG.out.on H0.out.below)).mono ?_
  rintro r wx ⟨rfl, q, rfl⟩
  have G0 := Lib.hid (H0.out.dN q)
  go_wp2_with fail
  refine (C1.out _ (HG.out.on G0.out.below)).mono ?_
  rintro r w1 ⟨x1, N1, rfl, hb⟩
  have G1 := Lib.hid (G0.out.on hb)
  clear hb
  obtain ⟨⟨z0, z1⟩, y0, y1⟩ := bk2 G1.out.h0
  have lz := bdLt G1.out.h0
  go_wp2_with fail
  exact bodyPost_ret (v := .tuple #[.agg #[.int .i64 0, .int .i64 0], .int .i64 7]) (by simp [results, Tryd.results31, go_sem, z0, z1]) rfl ⟨rfl, (G1.out.below.setCell (by simp) _).setCell (by simp) _⟩

set_option maxHeartbeats 8000000 in
theorem parse_y_bad2 (s BE AF X : ByteArray) (n d : Int) (w : World) (hg : Gl w)
    (kc : ∀ W, Gl W → Calls Tryd.prog 46 #[.string s, .string ⟨#[47]⟩] W fun e w' => e = .returned (.tuple #[.string BE, .string AF, .bool true]) ∧ ∃ q, w' = W.drewN q) (k1 : ∀ W, Calls Tryd.prog 47 #[.string BE] W fun e w' => e = .returned (.tuple #[.int .i64 n, .nilIface]) ∧ Below W.heap.size W w') (k2 : ∀ W, Gl W → Calls Tryd.prog 47 #[.string AF] W (AtoiBad W)) :
    Calls Tryd.prog 31 #[.string s] w fun e w' => e = .returned (.tuple #[.agg #[.int .i64 0, .int .i64 0], .int .i64 7]) ∧ Below w.heap.size w w' := by
  have CC := Lib.hid kc
  have C1 := Lib.hid k1
  have C2 := Lib.hid k2
  have HG := Lib.hid hg
  clear kc k1 k2 hg
  have H0 := Lib.hid ((Hd.nil w).add (.cells #[.int .i64 0, .int .i64 0] 24))
  go_enter Tryd.func31, Tryd.ntmps31
  go_wp2_with fail
  refine (CC.out _ (HG.out.on H0.out.below)).mono ?_
  rintro r wx ⟨rfl, q, rfl⟩
  have G0 := Lib.hid (H0.out.dN q)
  go_wp2_with fail
  refine (C1.out _).mono ?_
  rintro r w1 ⟨rfl, hb⟩
  have G1 := Lib.hid (G0.out.on hb)
  clear hb
  go_wp2_with fail
  refine (C2.out _ (HG.out.on G1.out.below)).mono ?_
  rintro r w2 ⟨x1, N1, rfl, hb⟩
  have G2 := Lib.hid (G1.out.on hb)
  clear hb
  obtain ⟨⟨z0, z1⟩, y0, y1⟩ := bk2 G2.out.h0
  have lz := bdLt G2.out.h0
  go_wp2_with fail
  exact bodyPost_ret (v := .tuple #[.agg #[.int .i64 0, .int .i64 0], .int .i64 7]) (by simp [results, Tryd.results31, go_sem, z0, z1]) rfl ⟨rfl, (G2.out.below.setCell (by simp) _).setCell (by simp) _⟩

set_option maxHeartbeats 8000000 in
theorem parse_y_inv (s BE AF X : ByteArray) (n d : Int) (w : World) (hg : Gl w)
    (kc : ∀ W, Gl W → Calls Tryd.prog 46 #[.string s, .string ⟨#[47]⟩] W fun e w' => e = .returned (.tuple #[.string BE, .string AF, .bool true]) ∧ ∃ q, w' = W.drewN q) (k1 : ∀ W, Calls Tryd.prog 47 #[.string BE] W fun e w' => e = .returned (.tuple #[.int .i64 n, .nilIface]) ∧ Below W.heap.size W w') (k2 : ∀ W, Calls Tryd.prog 47 #[.string AF] W fun e w' => e = .returned (.tuple #[.int .i64 d, .nilIface]) ∧ Below W.heap.size W w') (k3 : ∀ W, Gl W → Calls Tryd.prog 33 #[.agg #[.int .i64 n, .int .i64 d]] W fun e w' => e = .returned (.tuple #[.string ⟨#[]⟩, .int .i64 1]) ∧ Below W.heap.size W w') :
    Calls Tryd.prog 31 #[.string s] w fun e w' => e = .returned (.tuple #[.agg #[.int .i64 0, .int .i64 0], .int .i64 7]) ∧ Below w.heap.size w w' := by
  have CC := Lib.hid kc
  have C1 := Lib.hid k1
  have C2 := Lib.hid k2
  have C3 := Lib.hid k3
  have HG := Lib.hid hg
  clear kc k1 k2 k3 hg
  have H0 := Lib.hid ((Hd.nil w).add (.cells #[.int .i64 0, .int .i64 0] 24))
  go_enter Tryd.func31, Tryd.ntmps31
  go_wp2_with fail
  refine (CC.out _ (HG.out.on H0.out.below)).mono ?_
  rintro r wx ⟨rfl, q, rfl⟩
  have G0 := Lib.hid (H0.out.dN q)
  go_wp2_with fail
  refine (C1.out _).mono ?_
  rintro r w1 ⟨rfl, hb⟩
  have G1 := Lib.hid (G0.out.on hb)
  clear hb
  go_wp2_with fail
  refine (C2.out _).mono ?_
  rintro r w2 ⟨rfl, hb⟩
  have G2 := Lib.hid (G1.out.on hb)
  clear hb
  have G3 := Lib.hid (G2.out.add (.cells #[.int .i64 n, .int .i64 d] 24))
  go_wp2_with fail
  refine (C3.out _ (HG.out.on G3.out.below)).mono ?_
  rintro r w4 ⟨rfl, hb⟩
  have G4 := Lib.hid (G3.out.on hb)
  clear hb
  obtain ⟨⟨z0, z1⟩, y0, y1⟩ := bk2 G4.out.tl.h0
  have lz := bdLt G4.out.tl.h0
  obtain ⟨⟨v0, v1⟩, _⟩ := bk2 G4.out.h0
  have lv := bdLt G4.out.h0
  go_wp2_with fail
  exact bodyPost_ret (v := .tuple #[.agg #[.int .i64 0, .int .i64 0], .int .i64 7]) (by simp [results, Tryd.results31, go_sem, z0, z1]) rfl ⟨rfl, (G4.out.below.setCell (by simp) _).setCell (by simp) _⟩

set_option maxHeartbeats 8000000 in
theorem parse_y_dif (s BE AF X : ByteArray) (n d : Int) (w : World) (hg : Gl w)
    (kc : ∀ W, Gl W → Calls Tryd.prog 46 #[.string s, .string ⟨#[47]⟩] W fun e w' => e = .returned (.tuple #[.string BE, .string AF, .bool true]) ∧ ∃ q, w' = W.drewN q) (k1 : ∀ W, Calls Tryd.prog 47 #[.string BE] W fun e w' => e = .returned (.tuple #[.int .i64 n, .nilIface]) ∧ Below W.heap.size W w') (k2 : ∀ W, Calls Tryd.prog 47 #[.string AF] W fun e w' => e = .returned (.tuple #[.int .i64 d, .nilIface]) ∧ Below W.heap.size W w') (k3 : ∀ W, Gl W → Calls Tryd.prog 33 #[.agg #[.int .i64 n, .int .i64 d]] W fun e w' => e = .returned (.tuple #[.string X, .int .i64 0]) ∧ Below W.heap.size W w') (hx : (X.toList != s.toList) = true) :
    Calls Tryd.prog 31 #[.string s] w fun e w' => e = .returned (.tuple #[.agg #[.int .i64 0, .int .i64 0], .int .i64 7]) ∧ Below w.heap.size w w' := by
  have CC := Lib.hid kc
  have C1 := Lib.hid k1
  have C2 := Lib.hid k2
  have C3 := Lib.hid k3
  have HX := Lib.hid hx
  have HG := Lib.hid hg
  clear kc k1 k2 k3 hx hg
  have H0 := Lib.hid ((Hd.nil w).add (.cells #[.int .i64 0, .int .i64 0] 24))
  go_enter Tryd.func31, Tryd.ntmps31
  go_wp2_with fail
  refine (CC.out _ (HG.out.on H0.out.below)).mono ?_
  rintro r wx ⟨rfl, q, rfl⟩
  have G0 := Lib.hid (H0.out.dN q)
  go_wp2_with fail
  refine (C1.out _).mono ?_
  rintro r w1 ⟨rfl, hb⟩
  have G1 := Lib.hid (G0.out.on hb)
  clear hb
  go_wp2_with fail
  refine (C2.out _).mono ?_
  rintro r w2 ⟨rfl, hb⟩
  have G2 := Lib.hid (G1.out.on hb)
  clear hb
  have G3 := Lib.hid (G2.out.add (.cells #[.int .i64 n, .int .i64 d] 24))
  go_wp2_with fail
  refine (C3.out _ (HG.out.on G3.out.below)).mono ?_
  rintro r w4 ⟨rfl, hb⟩
  have G4 := Lib.hid (G3.out.on hb)
  clear hb
  have hx : (X.toList == s.toList) = false := by have := HX.out; simpa [bne] using this
  obtain ⟨⟨z0, z1⟩, y0, y1⟩ := bk2 G4.out.tl.h0
  have lz := bdLt G4.out.tl.h0
  obtain ⟨⟨v0, v1⟩, _⟩ := bk2 G4.out.h0
  have lv := bdLt G4.out.h0
  go_wp2_with fail
  exact bodyPost_ret (v := .tuple #[.agg #[.int .i64 0, .int .i64 0], .int .i64 7]) (by simp [results, Tryd.results31, go_sem, z0, z1]) rfl ⟨rfl, (G4.out.below.setCell (by simp) _).setCell (by simp) _⟩

set_option maxHeartbeats 8000000 in
theorem parse_y_ok (s BE AF X : ByteArray) (n d : Int) (w : World) (hg : Gl w)
    (kc : ∀ W, Gl W → Calls Tryd.prog 46 #[.string s, .string ⟨#[47]⟩] W fun e w' => e = .returned (.tuple #[.string BE, .string AF, .bool true]) ∧ ∃ q, w' = W.drewN q) (k1 : ∀ W, Calls Tryd.prog 47 #[.string BE] W fun e w' => e = .returned (.tuple #[.int .i64 n, .nilIface]) ∧ Below W.heap.size W w') (k2 : ∀ W, Calls Tryd.prog 47 #[.string AF] W fun e w' => e = .returned (.tuple #[.int .i64 d, .nilIface]) ∧ Below W.heap.size W w') (k3 : ∀ W, Gl W → Calls Tryd.prog 33 #[.agg #[.int .i64 n, .int .i64 d]] W fun e w' => e = .returned (.tuple #[.string s, .int .i64 0]) ∧ Below W.heap.size W w') :
    Calls Tryd.prog 31 #[.string s] w fun e w' => e = .returned (.tuple #[.agg #[.int .i64 n, .int .i64 d], .int .i64 0]) ∧ Below w.heap.size w w' := by
  have CC := Lib.hid kc
  have C1 := Lib.hid k1
  have C2 := Lib.hid k2
  have C3 := Lib.hid k3
  have HG := Lib.hid hg
  clear kc k1 k2 k3 hg
  have H0 := Lib.hid ((Hd.nil w).add (.cells #[.int .i64 0, .int .i64 0] 24))
  go_enter Tryd.func31, Tryd.ntmps31
  go_wp2_with fail
  refine (CC.out _ (HG.out.on H0.out.below)).mono ?_
  rintro r wx ⟨rfl, q, rfl⟩
  have G0 := Lib.hid (H0.out.dN q)
  go_wp2_with fail
  refine (C1.out _).mono ?_
  rintro r w1 ⟨rfl, hb⟩
  have G1 := Lib.hid (G0.out.on hb)
  clear hb
  go_wp2_with fail
  refine (C2.out _).mono ?_
  rintro r w2 ⟨rfl, hb⟩
  have G2 := Lib.hid (G1.out.on hb)
  clear hb
  have G3 := Lib.hid (G2.out.add (.cells #[.int .i64 n, .int .i64 d] 24))
  go_wp2_with fail
  refine (C3.out _ (HG.out.on G3.out.below)).mono ?_
  rintro r w4 ⟨rfl, hb⟩
  have G4 := Lib.hid (G3.out.on hb)
  clear hb
  obtain ⟨⟨z0, z1⟩, y0, y1⟩ := bk2 G4.out.tl.h0
  have lz := bdLt G4.out.tl.h0
  obtain ⟨⟨v0, v1⟩, _⟩ := bk2 G4.out.h0
  have lv := bdLt G4.out.h0
  go_wp2_with fail
  exact bodyPost_ret (v := .tuple #[.agg #[.int .i64 n, .int .i64 d], .int .i64 0]) (by simp [results, Tryd.results31, go_sem, z0, z1]) rfl ⟨rfl, (G4.out.below.setCell (by simp) _).setCell (by simp) _⟩

set_option maxHeartbeats 8000000 in
theorem parse_n_bad1 (s BE AF X : ByteArray) (n d : Int) (w : World) (hg : Gl w)
    (kc : ∀ W, Gl W → Calls Tryd.prog 46 #[.string s, .string ⟨#[47]⟩] W fun e w' => e = .returned (.tuple #[.string BE, .string AF, .bool false]) ∧ ∃ q, w' = W.drewN q) (k1 : ∀ W, Gl W → Calls Tryd.prog 47 #[.string BE] W (AtoiBad W)) :
    Calls Tryd.prog 31 #[.string s] w fun e w' => e = .returned (.tuple #[.agg #[.int .i64 0, .int .i64 0], .int .i64 7]) ∧ Below w.heap.size w w' := by
  have CC := Lib.hid kc
  have C1 := Lib.hid k1
  have HG := Lib.hid hg
  clear kc k1 hg
  have H0 := Lib.hid ((Hd.nil w).add (.cells #[.int .i64 0, .int .i64 0] 24))
  go_enter Tryd.func31, Tryd.ntmps31
  go_wp2_with fail
  refine (CC.out _ (HG.out.on H0.out.below)).mono ?_
  rintro r wx ⟨rfl, q, rfl⟩
  have G0 := Lib.hid (H0.out.dN q)
  go_wp2_with fail
  refine (C1.out _ (HG.out.on G0.out.below)).mono ?_
  rintro r w1 ⟨x1, N1, rfl, hb⟩
  have G1 := Lib.hid (G0.out.on hb)
  clear hb
  obtain ⟨⟨z0, z1⟩, y0, y1⟩ := bk2 G1.out.h0
  have lz := bdLt G1.out.h0
  go_wp2_with fail
  exact bodyPost_ret (v := .tuple #[.agg #[.int .i64 0, .int .i64 0], .int .i64 7]) (by simp [results, Tryd.results31, go_sem, z0, z1]) rfl ⟨rfl, (G1.out.below.setCell (by simp) _).setCell (by simp) _⟩

set_option maxHeartbeats 8000000 in
theorem parse_n_inv (s BE AF X : ByteArray) (n d : Int) (w : World) (hg : Gl w)
    (kc : ∀ W, Gl W → Calls Tryd.prog 46 #[.string s, .string ⟨#[47]⟩] W fun e w' => e = .returned (.tuple #[.string BE, .string AF, .bool false]) ∧ ∃ q, w' = W.drewN q) (k1 : ∀ W, Calls Tryd.prog 47 #[.string BE] W fun e w' => e = .returned (.tuple #[.int .i64 n, .nilIface]) ∧ Below W.heap.size W w') (k2 : ∀ W, Calls Tryd.prog 47 #[.string ⟨#[49]⟩] W fun e w' => e = .returned (.tuple #[.int .i64 d, .nilIface]) ∧ Below W.heap.size W w') (k3 : ∀ W, Gl W → Calls Tryd.prog 33 #[.agg #[.int .i64 n, .int .i64 d]] W fun e w' => e = .returned (.tuple #[.string ⟨#[]⟩, .int .i64 1]) ∧ Below W.heap.size W w') :
    Calls Tryd.prog 31 #[.string s] w fun e w' => e = .returned (.tuple #[.agg #[.int .i64 0, .int .i64 0], .int .i64 7]) ∧ Below w.heap.size w w' := by
  have CC := Lib.hid kc
  have C1 := Lib.hid k1
  have C2 := Lib.hid k2
  have C3 := Lib.hid k3
  have HG := Lib.hid hg
  clear kc k1 k2 k3 hg
  have H0 := Lib.hid ((Hd.nil w).add (.cells #[.int .i64 0, .int .i64 0] 24))
  go_enter Tryd.func31, Tryd.ntmps31
  go_wp2_with fail
  refine (CC.out _ (HG.out.on H0.out.below)).mono ?_
  rintro r wx ⟨rfl, q, rfl⟩
  have G0 := Lib.hid (H0.out.dN q)
  go_wp2_with fail
  refine (C1.out _).mono ?_
  rintro r w1 ⟨rfl, hb⟩
  have G1 := Lib.hid (G0.out.on hb)
  clear hb
  go_wp2_with fail
  refine (C2.out _).mono ?_
  rintro r w2 ⟨rfl, hb⟩
  have G2 := Lib.hid (G1.out.on hb)
  clear hb
  have G3 := Lib.hid (G2.out.add (.cells #[.int .i64 n, .int .i64 d] 24))
  go_wp2_with fail
  refine (C3.out _ (HG.out.on G3.out.below)).mono ?_
  rintro r w4 ⟨rfl, hb⟩
  have G4 := Lib.hid (G3.out.on hb)
  clear hb
  obtain ⟨⟨z0, z1⟩, y0, y1⟩ := bk2 G4.out.tl.h0
  have lz := bdLt G4.out.tl.h0
  obtain ⟨⟨v0, v1⟩, _⟩ := bk2 G4.out.h0
  have lv := bdLt G4.out.h0
  go_wp2_with fail
  exact bodyPost_ret (v := .tuple #[.agg #[.int .i64 0, .int .i64 0], .int .i64 7]) (by simp [results, Tryd.results31, go_sem, z0, z1]) rfl ⟨rfl, (G4.out.below.setCell (by simp) _).setCell (by simp) _⟩

set_option maxHeartbeats 8000000 in
theorem parse_n_dif (s BE AF X : ByteArray) (n d : Int) (w : World) (hg : Gl w)
    (kc : ∀ W, Gl W → Calls Tryd.prog 46 #[.string s, .string ⟨#[47]⟩] W fun e w' => e = .returned (.tuple #[.string BE, .string AF, .bool false]) ∧ ∃ q, w' = W.drewN q) (k1 : ∀ W, Calls Tryd.prog 47 #[.string BE] W fun e w' => e = .returned (.tuple #[.int .i64 n, .nilIface]) ∧ Below W.heap.size W w') (k2 : ∀ W, Calls Tryd.prog 47 #[.string ⟨#[49]⟩] W fun e w' => e = .returned (.tuple #[.int .i64 d, .nilIface]) ∧ Below W.heap.size W w') (k3 : ∀ W, Gl W → Calls Tryd.prog 33 #[.agg #[.int .i64 n, .int .i64 d]] W fun e w' => e = .returned (.tuple #[.string X, .int .i64 0]) ∧ Below W.heap.size W w') (hx : (X.toList != s.toList) = true) :
    Calls Tryd.prog 31 #[.string s] w fun e w' => e = .returned (.tuple #[.agg #[.int .i64 0, .int .i64 0], .int .i64 7]) ∧ Below w.heap.size w w' := by
  have CC := Lib.hid kc
  have C1 := Lib.hid k1
  have C2 := Lib.hid k2
  have C3 := Lib.hid k3
  have HX := Lib.hid hx
  have HG := Lib.hid hg
  clear kc k1 k2 k3 hx hg
  have H0 := Lib.hid ((Hd.nil w).add (.cells #[.int .i64 0, .int .i64 0] 24))
  go_enter Tryd.func31, Tryd.ntmps31
  go_wp2_with fail
  refine (CC.out _ (HG.out.on H0.out.below)).mono ?_
  rintro r wx ⟨rfl, q, rfl⟩
  have G0 := Lib.hid (H0.out.dN q)
  go_wp2_with fail
  refine (C1.out _).mono ?_
  rintro r w1 ⟨rfl, hb⟩
  have G1 := Lib.hid (G0.out.on hb)
  clear hb
  go_wp2_with fail
  refine (C2.out _).mono ?_
  rintro r w2 ⟨rfl, hb⟩
  have G2 := Lib.hid (G1.out.on hb)
  clear hb
  have G3 := Lib.hid (G2.out.add (.cells #[.int .i64 n, .int .i64 d] 24))
  go_wp2_with fail
  refine (C3.out _ (HG.out.on G3.out.below)).mono ?_
  rintro r w4 ⟨rfl, hb⟩
  have G4 := Lib.hid (G3.out.on hb)
  clear hb
  have hx : (X.toList == s.toList) = false := by have := HX.out; simpa [bne] using this
  obtain ⟨⟨z0, z1⟩, y0, y1⟩ := bk2 G4.out.tl.h0
  have lz := bdLt G4.out.tl.h0
  obtain ⟨⟨v0, v1⟩, _⟩ := bk2 G4.out.h0
  have lv := bdLt G4.out.h0
  go_wp2_with fail
  exact bodyPost_ret (v := .tuple #[.agg #[.int .i64 0, .int .i64 0], .int .i64 7]) (by simp [results, Tryd.results31, go_sem, z0, z1]) rfl ⟨rfl, (G4.out.below.setCell (by simp) _).setCell (by simp) _⟩

set_option maxHeartbeats 8000000 in
theorem parse_n_ok (s BE AF X : ByteArray) (n d : Int) (w : World) (hg : Gl w)
    (kc : ∀ W, Gl W → Calls Tryd.prog 46 #[.string s, .string ⟨#[47]⟩] W fun e w' => e = .returned (.tuple #[.string BE, .string AF, .bool false]) ∧ ∃ q, w' = W.drewN q) (k1 : ∀ W, Calls Tryd.prog 47 #[.string BE] W fun e w' => e = .returned (.tuple #[.int .i64 n, .nilIface]) ∧ Below W.heap.size W w') (k2 : ∀ W, Calls Tryd.prog 47 #[.string ⟨#[49]⟩] W fun e w' => e = .returned (.tuple #[.int .i64 d, .nilIface]) ∧ Below W.heap.size W w') (k3 : ∀ W, Gl W → Calls Tryd.prog 33 #[.agg #[.int .i64 n, .int .i64 d]] W fun e w' => e = .returned (.tuple #[.string s, .int .i64 0]) ∧ Below W.heap.size W w') :
    Calls Tryd.prog 31 #[.string s] w fun e w' => e = .returned (.tuple #[.agg #[.int .i64 n, .int .i64 d], .int .i64 0]) ∧ Below w.heap.size w w' := by
  have CC := Lib.hid kc
  have C1 := Lib.hid k1
  have C2 := Lib.hid k2
  have C3 := Lib.hid k3
  have HG := Lib.hid hg
  clear kc k1 k2 k3 hg
  have H0 := Lib.hid ((Hd.nil w).add (.cells #[.int .i64 0, .int .i64 0] 24))
  go_enter Tryd.func31, Tryd.ntmps31
  go_wp2_with fail
  refine (CC.out _ (HG.out.on H0.out.below)).mono ?_
  rintro r wx ⟨rfl, q, rfl⟩
  have G0 := Lib.hid (H0.out.dN q)
  go_wp2_with fail
  refine (C1.out _).mono ?_
  rintro r w1 ⟨rfl, hb⟩
  have G1 := Lib.hid (G0.out.on hb)
  clear hb
  go_wp2_with fail
  refine (C2.out _).mono ?_
  rintro r w2 ⟨rfl, hb⟩
  have G2 := Lib.hid (G1.out.on hb)
  clear hb
  have G3 := Lib.hid (G2.out.add (.cells #[.int .i64 n, .int .i64 d] 24))
  go_wp2_with fail
  refine (C3.out _ (HG.out.on G3.out.below)).mono ?_
  rintro r w4 ⟨rfl, hb⟩
  have G4 := Lib.hid (G3.out.on hb)
  clear hb
  obtain ⟨⟨z0, z1⟩, y0, y1⟩ := bk2 G4.out.tl.h0
  have lz := bdLt G4.out.tl.h0
  obtain ⟨⟨v0, v1⟩, _⟩ := bk2 G4.out.h0
  have lv := bdLt G4.out.h0
  go_wp2_with fail
  exact bodyPost_ret (v := .tuple #[.agg #[.int .i64 n, .int .i64 d], .int .i64 0]) (by simp [results, Tryd.results31, go_sem, z0, z1]) rfl ⟨rfl, (G4.out.below.setCell (by simp) _).setCell (by simp) _⟩
end Go.Proofs.YtmebdieflllgcaaDoor
