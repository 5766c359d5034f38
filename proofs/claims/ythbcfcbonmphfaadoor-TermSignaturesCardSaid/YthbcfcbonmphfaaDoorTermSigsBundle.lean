/- TermSignatures: whatever the signature and the text, the law answers true and leaves them as they were. -/
import Derived.Test.YthbcfcbonmphfaaDoorTermWideBundle
import Derived.Shelf.Strings.Builder2
import Derived.Test.YthbcfcbonmphfaaDoorTermUBundle
import Derived.StillTailTactics
import Derived.Deep.RegionWith
import Derived.Test.YthbcfcbonmphfaaDoorLawFrameBundle
import Derived.Test.YthbcfcbonmphfaaDoorTermYBundle
/- A signature that came in, with its capacities. -/
namespace Go.Proofs.YthbcfcbonmphfaaDoor
set_option maxRecDepth 100000
open Go.ChangeShapes Go.WideShapes Go.ChangeAt Go.WideMaps Go.WideElems Go.RowKit Go.Deep
section
variable {H : Type} {enc : TypeId × Value → H}
theorem strs_cells2 {w : World} {spare : Nat → Bool} {held : Bool} {n : Nat} {c : Value} {x : DataW H × List MemPlace} (h : DataW.trod enc Tryd.prog w 0 spare held n 51 [c] = some x) :
    ∃ (A : Option Addr) (cap : Nat) (L : List ByteArray), c = .slice A L.length cap ∧ okS L ∧ SlS w.heap.size w A L ∧ L.length ≤ cap ∧ cap ≤ maxLen := by
  have hC : Tryd.prog.cellsOf 9 = 1 := by kernel_rfl
  rcases open_slice1 Tryd.underlying51 hC h with ⟨hcs, _⟩ | ⟨a, len, cap, m, k, V, D, Pl, hcs, _, hl, hm, hmm, _, hi⟩
  · injection hcs with hcs
    exact ⟨none, 0, [], hcs, ⟨Nat.zero_le _, fun s hs => by cases hs⟩, fun h => absurd h (by simp), Nat.le_refl _, Nat.zero_le _⟩
  · injection hcs with hcs
    have hlm : len ≤ m := by rw [hmm]; split <;> omega
    obtain ⟨L, hL, hP⟩ := some_list len (fun i t => w.cell? (a.add i) = some (.string t) ∧ t.size ≤ maxLen) (fun i hi' => by
      obtain ⟨h1, h2⟩ := hi i (by omega)
      obtain ⟨s, e0, _, hs⟩ := DataW.trod_string Tryd.underlying9 h2
      injection e0 with e0
      rw [e0] at h1
      exact ⟨s, h1, hs⟩)
    refine ⟨some a, cap, L, by rw [hL]; exact hcs, ⟨by omega, fun s hs => ?_⟩, fun hpos => ?_, by omega, hm⟩
    · obtain ⟨i, hi'⟩ := List.getElem?_of_mem hs
      exact (hP i s hi').2
    · obtain ⟨b, off, spot⟩ := a
      have h0 : L[0]? = some L[0] := List.getElem?_eq_getElem hpos
      have hspot := spot_none rfl (hP 0 _ h0).1
      subst hspot
      have ad : ∀ n, (⟨b, off, none⟩ : Addr).add n = ⟨b, off + n, none⟩ := fun n => Go.WideShapes.add_plain ..
      refine ⟨b, off, rfl, ?_, fun i t ht => ?_⟩
      · have := (hP 0 _ h0).1
        rw [ad] at this
        exact World.block_lt_of_cell? w _ this
      · have c0 := (hP i t ht).1
        rw [ad] at c0
        exact c0
theorem decl_cells2 {w : World} {spare : Nat → Bool} {held : Bool} {n : Nat} {cs : List Value} {x : DataW H × List MemPlace} (h : DataW.trod enc Tryd.prog w 0 spare held n 140 cs = some x) :
    ∃ k : Dk, cs = dkW k ∧ okD k.1 ∧ SlS w.heap.size w k.2.1 k.1.args ∧ k.1.args.length ≤ k.2.2 := by
  have hC : Tryd.prog.cellsOf 140 = 3 := by kernel_rfl
  have hC9 : Tryd.prog.cellsOf 9 = 1 := by kernel_rfl
  have hC51 : Tryd.prog.cellsOf 51 = 1 := by kernel_rfl
  obtain ⟨xs, m, rfl, hx, hl3, hlen, hg⟩ := DataW.trod_struct Tryd.underlying140 h
  match cs, hl3.trans hC with
  | [c0, c1, c2], _ =>
    match xs, hlen with
    | [y0, y1, y2], _ =>
      have t0 : DataW.trod enc Tryd.prog w 0 spare held m 9 [c0] = some y0 := by simpa [hC9] using hg 0 _ rfl
      have t1 : DataW.trod enc Tryd.prog w 0 spare held m 51 [c1] = some y1 := by simpa [hC9, hC51] using hg 1 _ rfl
      have t2 : DataW.trod enc Tryd.prog w 0 spare held m 9 [c2] = some y2 := by simpa [hC9, hC51] using hg 2 _ rfl
      obtain ⟨nm, e0, _, hnm⟩ := DataW.trod_string Tryd.underlying9 t0
      obtain ⟨A, cap, L, rfl, hok, hs, hcl, _⟩ := strs_cells2 t1
      obtain ⟨res, e2, _, hres⟩ := DataW.trod_string Tryd.underlying9 t2
      simp at e0 e2
      subst e0 e2
      exact ⟨⟨⟨nm, L, res⟩, A, cap⟩, rfl, ⟨hnm, hres, hok⟩, hs, hcl⟩
theorem decls_cells2 {w : World} {spare : Nat → Bool} {held : Bool} {n : Nat} {c : Value} {x : DataW H × List MemPlace} (h : DataW.trod enc Tryd.prog w 0 spare held n 80 [c] = some x) :
    ∃ (A : Option Addr) (cap : Nat) (L : List Dc), c = .slice A L.length cap ∧ L.length ≤ maxLen ∧ (∀ d, d ∈ L → okD d) ∧ SlD w.heap.size w A L ∧ ∀ (i : Nat) (d : Dc) (b off : Nat) (A' : Option Addr) (c' : Nat), L[i]? = some d → A = some ⟨b, off, none⟩ → w.cell? ⟨b, off + i * 3 + 1, none⟩ = some (.slice A' d.args.length c') → d.args.length ≤ c' := by
  have hC : Tryd.prog.cellsOf 140 = 3 := by kernel_rfl
  rcases open_slice Tryd.underlying80 h with ⟨hcs, _⟩ | ⟨a, len, cap, m, k, D, Pl, hcs, _, hl, hm, hmm, _, hi⟩
  · injection hcs with hcs
    exact ⟨none, 0, [], hcs, Nat.zero_le _, (fun s hs => by cases hs), fun h => absurd h (by simp), fun i d b off A' c' h => by simp at h⟩
  · injection hcs with hcs
    have hlm : len ≤ m := by rw [hmm]; split <;> omega
    obtain ⟨L, hL, hP⟩ := some_list len (fun i (k : Dk) => w.cells? 0 (a.add (i * 3)) 3 = some (dkW k) ∧ okD k.1 ∧ SlS w.heap.size w k.2.1 k.1.args ∧ k.1.args.length ≤ k.2.2) (fun i hi' => by
      obtain ⟨cs', h1, h2⟩ := hi i (by omega)
      rw [hC] at h1
      obtain ⟨k, rfl, h3, h4, h5⟩ := decl_cells2 h2
      exact ⟨k, h1, h3, h4, h5⟩)
    have cell : ∀ (i : Nat) (k : Dk), L[i]? = some k → ∀ j, j < 3 → w.cell? (a.add (i * 3 + j)) = (dkW k)[j]? := fun i k hk j hj => by
      obtain ⟨_, _, hat⟩ := World.cells?_some (hP i k hk).1
      rw [← add_add]
      exact hat j hj
    have hget : ∀ (i : Nat) (t : Dc), (L.map (·.1))[i]? = some t → ∃ k, L[i]? = some k ∧ k.1 = t := fun i t ht => by
      rw [List.getElem?_map] at ht
      cases hk : L[i]? with
      | none => rw [hk] at ht; cases ht
      | some k => rw [hk] at ht; injection ht with ht; exact ⟨k, rfl, ht⟩
    refine ⟨some a, cap, L.map (·.1), by rw [List.length_map, hL]; exact hcs, by rw [List.length_map, hL]; omega, fun d hd => ?_, fun hpos => ?_, fun i t b off A' c' ht hab hc => ?_⟩
    · obtain ⟨y, hy, rfl⟩ := List.mem_map.1 hd
      obtain ⟨i, hi'⟩ := List.getElem?_of_mem hy
      exact (hP i y hi').2.1
    · rw [List.length_map] at hpos
      obtain ⟨b, off, spot⟩ := a
      have h0 : L[0]? = some L[0] := List.getElem?_eq_getElem hpos
      have hspot := spot_none rfl (cell 0 _ h0 0 (by omega))
      subst hspot
      have ad : ∀ n, (⟨b, off, none⟩ : Addr).add n = ⟨b, off + n, none⟩ := fun n => Go.WideShapes.add_plain ..
      refine ⟨b, off, rfl, ?_, fun i t ht => ?_⟩
      · have := cell 0 _ h0 0 (by omega)
        rw [ad] at this
        exact World.block_lt_of_cell? w _ this
      · obtain ⟨k, hk, rfl⟩ := hget i t ht
        have c0 := cell i k hk 0 (by omega)
        have c1 := cell i k hk 1 (by omega)
        have c2 := cell i k hk 2 (by omega)
        rw [ad] at c0 c1 c2
        exact ⟨k.2.1, k.2.2, c0, c1, c2, (hP i k hk).2.2.1⟩
    · obtain ⟨k, hk, rfl⟩ := hget i t ht
      injection hab with hab
      subst hab
      have c1 := cell i k hk 1 (by omega)
      rw [show (⟨b, off, none⟩ : Addr).add (i * 3 + 1) = ⟨b, off + (i * 3 + 1), none⟩ from Go.WideShapes.add_plain .., ← Nat.add_assoc, hc] at c1
      simp [dkW] at c1
      rw [c1.2]
      exact (hP i k hk).2.2.2
/-- A signature that came in. -/
theorem open_sig2 {w : World} {spare : Nat → Bool} {held : Bool} {r : Reach} {b0 : Nat} {v : Value} {d : DataW H} {p : List MemPlace}
    (hv : Value.okWide Tryd.prog w r b0 82 v) (h : DataW.Trod enc Tryd.prog w 0 spare held 82 v d p) :
    ∃ (g : Sg) (A1 : Option Addr) (c1 : Nat) (A2 : Option Addr) (c2 : Nat), v = GV g A1 c1 A2 c2 ∧ okG g ∧ SlS w.heap.size w A1 g.sorts ∧ SlD w.heap.size w A2 g.ops ∧ g.sorts.length ≤ c1 ∧ c1 ≤ maxLen ∧ ∀ (i : Nat) (d : Dc) (b off : Nat) (A' : Option Addr) (c' : Nat), g.ops[i]? = some d → A2 = some ⟨b, off, none⟩ → w.cell? ⟨b, off + i * 3 + 1, none⟩ = some (.slice A' d.args.length c') → d.args.length ≤ c' := by
  obtain ⟨cs, rfl, hsz⟩ := okWide_struct Tryd.underlying82 hv
  obtain ⟨fuel, hf⟩ := h
  have hC : Tryd.prog.cellsOf 82 = 2 := by kernel_rfl
  have hC51 : Tryd.prog.cellsOf 51 = 1 := by kernel_rfl
  have hC80 : Tryd.prog.cellsOf 80 = 1 := by kernel_rfl
  obtain ⟨xs, m, rfl, hx, hl2, hlen, hg⟩ := DataW.trod_struct Tryd.underlying82 hf
  obtain ⟨cs⟩ := cs
  simp [Value.cells] at hl2 hg
  match cs, hl2.trans hC with
  | [c0, c1], _ =>
    match xs, hlen with
    | [y0, y1], _ =>
      have t0 : DataW.trod enc Tryd.prog w 0 spare held m 51 [c0] = some y0 := by simpa [hC51] using hg 0 _ rfl
      have t1 : DataW.trod enc Tryd.prog w 0 spare held m 80 [c1] = some y1 := by simpa [hC51, hC80] using hg 1 _ rfl
      obtain ⟨A1, n1, L1, rfl, h1, h2, h6, h7⟩ := strs_cells2 t0
      obtain ⟨A2, n2, L2, rfl, h3, h4, h5, h8⟩ := decls_cells2 t1
      exact ⟨⟨L1, L2⟩, A1, n1, A2, n2, rfl, ⟨h1, h3, h4⟩, h2, h5, h6, h7, h8⟩
end
end Go.Proofs.YthbcfcbonmphfaaDoor
/- strings.Join of some short strings. -/
namespace Go.Proofs.YthbcfcbonmphfaaDoor
open Go.RowKit Go.Shelf
set_option maxRecDepth 100000

def Tryd.lays241_ren : Go.Shelf.Ren := ⟨fun | 241 => 148 | 277 => 151 | n => n, fun | 70 => 44 | 9 => 9 | 0 => 0 | 72 => 46 | 37 => 43 | 127 => 110 | 3 => 3 | 5 => 5 | n => n, fun | n => n⟩
theorem Tryd.lays241 : Go.Proofs.Lays.n241 Tryd.prog Tryd.lays241_ren := {
  mixed := by kernel_rfl
  f241 := Tryd.func148.trans (congrArg some (by kernel_rfl))
  f277 := Tryd.func151.trans (congrArg some (by kernel_rfl))
  t0 := Tryd.underlying0
  a0 := Tryd.isAgg0
  z0 := Tryd.sizeOf0
  v0 := Tryd.zeroValue0
  t3 := Tryd.underlying3
  a3 := Tryd.isAgg3
  z3 := Tryd.sizeOf3
  v3 := Tryd.zeroValue3
  t37 := Tryd.underlying43
  a37 := Tryd.isAgg43
  z37 := Tryd.sizeOf43
  v37 := Tryd.zeroValue43
  t70 := Tryd.underlying44
  a70 := Tryd.isAgg44
  z70 := Tryd.sizeOf44
  v70 := Tryd.zeroValue44
  t72 := Tryd.underlying46
  a72 := Tryd.isAgg46
  z72 := Tryd.sizeOf46
  v72 := Tryd.zeroValue46 }
theorem Tryd.Builder_Extra_241 : Builder.Extra Tryd.prog Tryd.lays241_ren := {
  sizeBuilder := by kernel_rfl
  liesBuilder := by kernel_rfl
  t5 := Tryd.underlying5
  a5 := Tryd.isAgg5
  z5 := Tryd.sizeOf5
  v5 := Tryd.zeroValue5
  infoByte := by kernel_rfl
  cellsByte := by kernel_rfl
  sizeByte := by kernel_rfl
  neB5 := by decide }
theorem grow_any (b n : Nat) (w : World) (h : w.heap[b]? = some (.cells #[.pointer (some ⟨b, 0, none⟩), .slice none 0 0] 46 (0, 0))) (hn : n ≤ 1000000) :
    Calls Tryd.prog 148 #[.pointer (some ⟨b, 0, none⟩), .int .i64 n] w fun e w' => e = .returned (.tuple #[]) ∧ Bld w' b [] ∧ Below b w w' := by
  have hlt : b < w.heap.size := (Array.getElem?_eq_some_iff.1 h).1
  refine (Any.Builder_grow_fresh Tryd.lays241 Tryd.Builder_Extra_241 b b n w (Nat.le_refl _) h (Nat.le_of_lt hlt) (by omega)).mono ?_
  rintro e w' ⟨rfl, ⟨_, v, hb, ho, hne⟩, hB⟩
  refine ⟨rfl, ⟨_, v, .inr rfl, hb, ?_⟩, hB⟩
  refine ⟨ho.1, ?_⟩
  rcases ho.2 with h0 | ⟨g, cap, cur, rfl, hg, hr⟩
  · exact .inl h0
  · exact .inr ⟨g, cap, cur, rfl, by have : g ≠ b := fun e => hne (by rw [e]; rfl); omega, hr⟩
set_option maxHeartbeats 1000000 in
theorem Grow_any (b n : Nat) (w : World) (h : w.heap[b]? = some (.cells #[.pointer none, .slice none 0 0] 46 (0, 0))) (h0 : 0 < n) (hn : n ≤ 1000000) :
    Calls Tryd.prog 138 #[.pointer (some ⟨b, 0, none⟩), .int .i64 n] w fun e w' => e = .returned (.tuple #[]) ∧ Bld w' b [] ∧ Below b w w' := by
  have HC := Lib.hid (copyCheck_any b (.pointer none) (.slice none 0 0) 0 [] w (.inl rfl) h (World.ownsRow_nil _ _ _ _))
  have hI : ¬ (n : Int) < 0 := by omega
  have hI2 : (0 : Int) < (n : Int) := by omega
  have hI3 : decide ((0 : Int) < (n : Int)) = true := decide_eq_true hI2
  clear h
  go_enter Tryd.func138, Tryd.ntmps138
  go_wp2_with fail
  refine HC.out.mono ?_
  rintro e w1 ⟨rfl, hb1, ho1, hB1, hs1⟩
  obtain ⟨⟨a0, a1⟩, af0, af1⟩ := blk2 hb1
  have HH := Lib.hid hb1
  have HB1 := Lib.hid hB1
  have HG := Lib.hid (fun W (h : W.heap[b]? = _) => grow_any b n W h hn)
  clear hb1 ho1 hB1 hs1 HC
  go_wp2_with fail
  go_region
  all_goals
    go_wp2_with fail
    refine (HG.out w1.drew HH.out).mono ?_
    rintro e w2 ⟨rfl, hbl, hb2⟩
    have HBL := Lib.hid hbl
    have HB2 := Lib.hid hb2
    clear hbl hb2
    go_wp2_with fail
    go_end0
    exact ⟨rfl, HBL.out, HB1.out.drew.trans HB2.out⟩

/-- How many bytes the strings have. -/
def sumS : List ByteArray → Nat
  | [] => 0
  | s :: l => s.size + sumS l
theorem sumS_app : ∀ (l m : List ByteArray), sumS (l ++ m) = sumS l + sumS m
  | [], m => by simp [sumS]
  | s :: l, m => by rw [List.cons_append, sumS, sumS, sumS_app l m]; omega
theorem sumS_le : ∀ (L : List ByteArray), (∀ a, a ∈ L → a.data.toList.length ≤ 40) → sumS L ≤ 40 * L.length
  | [], _ => by simp [sumS]
  | s :: l, h => by
    have h1 := h s (by simp)
    have h2 := sumS_le l (fun a ha => h a (by simp [ha]))
    rw [size_toList] at h1
    rw [sumS, List.length_cons]; omega
def tailJ (l : List ByteArray) : List UInt8 := l.flatMap fun s => [44, 32] ++ s.data.toList
theorem joinC_tail : ∀ (s : ByteArray) (l : List ByteArray), joinC (s :: l) = s.data.toList ++ tailJ l
  | s, [] => by simp [joinC, tailJ]
  | s, t :: l => by
    have := joinC_tail t l
    rw [joinC, this]
    simp [tailJ]

theorem tailJ_len : ∀ (l : List ByteArray), (∀ a, a ∈ l → a.data.toList.length ≤ 40) → (tailJ l).length ≤ 42 * l.length
  | [], _ => by simp [tailJ]
  | s :: l, h => by
    have h1 := h s (by simp)
    have h2 := tailJ_len l (fun a ha => h a (by simp [ha]))
    unfold tailJ at h2 ⊢
    rw [List.flatMap_cons, List.length_append, List.length_append]
    show 2 + _ + _ ≤ 42 * (l.length + 1)
    omega
theorem Bld.isB {w : World} {b : Nat} {xs : List UInt8} (h : Bld w b xs) : Lib.IsBuilderF 46 5 b b (Lib.byteCells xs) w := by
  obtain ⟨p, v, hp, h1, h2⟩ := h.ex
  have hl : (Lib.byteCells xs).length = xs.length := Lib.byteCells_length xs
  have key : Lib.BuilderAtF 46 5 b b p (Lib.byteCells xs) w :=
    ⟨Nat.le_refl _, v, h1, by rw [hl]; exact World.ownsRowF_of (h2.mono (by omega)), fun e => by have := (h2.lt b e).1; omega⟩
  rcases hp with rfl | rfl
  · exact .inl key
  · exact .inr key

set_option maxHeartbeats 4000000 in
theorem join_big (b off c n : Nat) (s0 : ByteArray) (l : List ByteArray) (w : World) (hl : l.length = n) (hc : ∀ (i : Nat) (s : ByteArray), (s0 :: l)[i]? = some s → w.cell? ⟨b, off + i, none⟩ = some (.string s)) (hb : b < w.heap.size) (h1 : 1 ≤ n) (h5 : n ≤ 5) (h40 : ∀ a, a ∈ s0 :: l → a.data.toList.length ≤ 40) (hcl : n + 1 ≤ c) :
    Calls Tryd.prog 102 #[.slice (some ⟨b, off, none⟩) (n + 1) c, .string ⟨#[44, 32]⟩] w fun e w' => (∃ js : ByteArray, e = .returned (.string js) ∧ js.data.toList = joinC (s0 :: l)) ∧ Below w.heap.size w w' := by
  have HC := Lib.hid hc
  have HL := Lib.hid hl
  have H40 := Lib.hid h40
  have e0 : ((n : Int) + 1 == 0) = false := beq_eq_false_iff_ne.2 (by omega)
  have e1 : ((n : Int) + 1 == 1) = false := beq_eq_false_iff_ne.2 (by omega)
  have hq : ¬ 9223372036854775807 / (n : Int) ≤ 2 := by
    have : n = 1 ∨ n = 2 ∨ n = 3 ∨ n = 4 ∨ n = 5 := by omega
    rcases this with rfl | rfl | rfl | rfl | rfl <;> decide
  have hk0 : ¬ (n : Int) = 0 := by omega
  have w2 : wrap64 (2 * (n : Int)) = 2 * (n : Int) := IntWalk.wrap64_in _ (by omega)
  have hS := sumS_le (s0 :: l) h40
  rw [List.length_cons, hl] at hS
  have HS := Lib.hid hS
  clear hc h40 hl hS
  go_enter Tryd.func102, Tryd.ntmps102
  go_wp2_with fail
  go_loopw [5, 41] (fun v i wr => ∃ k m q : Nat, k ≤ n + 1 ∧ i = .int .i64 k ∧ v = .int .i64 m ∧ m = 2 * n + sumS ((s0 :: l).take k) ∧ wr = w.drewN q) (fun _ i _ => n + 1 - (intOf i).toNat)
  case atStart => exact ⟨0, 2 * n, 0, by omega, rfl, by simp, by simp [sumS], rfl⟩
  case round =>
    obtain ⟨k, m, q, hk, rfl, rfl, hm, rfl⟩ := hrel
    have HM := Lib.hid hm
    clear hm
    by_cases hlt : k < n + 1
    · obtain ⟨x, hx⟩ : ∃ x, (s0 :: l)[k]? = some x := ⟨(s0 :: l)[k]'(by rw [List.length_cons, HL.out]; exact hlt), List.getElem?_eq_getElem _⟩
      have HX := Lib.hid hx
      have y := HC.out k x hx
      have hm2 : m + x.size = 2 * n + sumS ((s0 :: l).take (k + 1)) := by rw [HM.out, List.take_add_one, hx, sumS_app]; simp [sumS]; omega
      have hmb : m + x.size ≤ 1000 := by
        have h2 : sumS ((s0 :: l).take (k + 1)) + sumS ((s0 :: l).drop (k + 1)) = sumS (s0 :: l) := by rw [← sumS_app, List.take_append_drop]
        have := HS.out; omega
      have HM2 := Lib.hid hm2
      have hI : (k : Int) < (n : Int) + 1 := by omega
      have hI2 : ¬ wrap64 (9223372036854775807 - (m : Int)) < (x.size : Int) := by rw [IntWalk.wrap64_in _ (by omega)]; omega
      have hI3 : (x.size : Int) ≤ wrap64 (9223372036854775807 - (m : Int)) := Int.not_lt.1 hI2
      have hw5 : wrap64 ((m : Int) + (x.size : Int)) = ((m + x.size : Nat) : Int) := by rw [IntWalk.wrap64_in _ (by omega)]; rfl
      clear hx hm2
      go_wp2_with fail
      go_roundw
      case rel => exact ⟨k + 1, m + x.size, _, by omega, by go_num, by rw [hw5], HM2.out, rfl⟩
      case measure => simp [intOf]; omega
    · have hkl : k = n + 1 := by omega
      have hm2 : m = 2 * n + sumS (s0 :: l) := by rw [HM.out, hkl, List.take_of_length_le (by rw [List.length_cons, HL.out]; omega)]
      have hmb : m ≤ 1000 := by have := HS.out; omega
      have hm0 : 0 < m := by omega
      have hI : ¬ (k : Int) < (n : Int) + 1 := by omega
      have hB0 : Below w.heap.size w ((w.drewN q).alloc (.cells #[.pointer none, .slice none 0 0] 46)) := Below.alloc (below_drewN (Below.refl _ _) q) (Nat.le_refl _) _
      have hx0 : ((w.drewN q).alloc (.cells #[.pointer none, .slice none 0 0] 46)).heap[w.heap.size]? = some (.cells #[.pointer none, .slice none 0 0] 46 (0, 0)) := heap_alloc_new (w.drewN q) _
      have HG := Lib.hid (Grow_any w.heap.size m _ hx0 hm0 (by omega))
      have HB0 := Lib.hid hB0
      clear hkl hm2 HM hB0 hx0
      go_wp2_with fail
      refine HG.out.mono ?_
      rintro e w3 ⟨rfl, hbl3, hb3⟩
      have HBL3 := Lib.hid hbl3
      have HB3 := Lib.hid (HB0.out.trans hb3)
      have y : w3.cell? ⟨b, off, none⟩ = some (.string s0) := (HB3.out.cell (p := ⟨b, off, none⟩) hb).trans (HC.out 0 s0 rfl)
      have hs0 : s0.size ≤ 40 := by have := H40.out s0 (by simp); rwa [size_toList] at this
      clear hbl3 hb3 HG hI
      go_wp2_with fail
      refine (writeString_any w.heap.size [] s0 w3 HBL3.out (by simp; omega)).mono ?_
      rintro e w4 ⟨rfl, hbl4, hb4⟩
      have HBL4 := Lib.hid hbl4
      have HB4 := Lib.hid (HB3.out.trans hb4)
      have hc1 : ¬ c = 1 := by omega
      have hn1 : 1 ≤ n + 1 := by omega
      clear hbl4 hb4 y
      go_wp2_with fail
      go_loopw [65] (fun i wr => ∃ k : Nat, k ≤ n ∧ i = .int .i64 k ∧ Bld wr w.heap.size (s0.data.toList ++ tailJ (l.take k)) ∧ Below w.heap.size w wr) (fun i _ => n - (intOf i).toNat)
      case atStart => exact ⟨0, by omega, rfl, by simpa [tailJ] using HBL4.out, HB4.out⟩
      case round =>
        clear HBL3 HB3 HBL4 HB4 HB0
        obtain ⟨k, hk, rfl, hbl, hbw⟩ := hrel
        have HBL := Lib.hid hbl
        have HBW := Lib.hid hbw
        clear hbl hbw
        by_cases hlt : k < n
        · obtain ⟨x, hx⟩ : ∃ x, l[k]? = some x := ⟨l[k]'(by rw [HL.out]; exact hlt), List.getElem?_eq_getElem _⟩
          have HX := Lib.hid hx
          have y : wr.cell? ⟨b, off + 1 + k, none⟩ = some (.string x) := by
            have := (HBW.out.cell (p := ⟨b, off + (k + 1), none⟩) hb).trans (HC.out (k + 1) x (by simpa using hx))
            rw [← this]; congr 2; omega
          have hxz : x.size ≤ 40 := by have := H40.out x (by simp [List.mem_of_getElem? hx]); rwa [size_toList] at this
          have hlen : (s0.data.toList ++ tailJ (l.take k)).length ≤ 300 := by
            have h1 := tailJ_len (l.take k) (fun a ha => H40.out a (by simp [List.mem_of_mem_take ha]))
            have h2 := H40.out s0 (by simp)
            rw [List.length_append]
            rw [List.length_take] at h1
            omega
          have HLEN := Lib.hid hlen
          have hI : (k : Int) < (n : Int) := by omega
          clear hx hlen
          go_wp2_with fail
          refine (writeString_any w.heap.size _ ⟨#[44, 32]⟩ wr HBL.out (by have := HLEN.out; show _ + 2 ≤ _; omega)).mono ?_
          rintro e w5 ⟨rfl, hbl5, hb5⟩
          have HBL5 := Lib.hid hbl5
          have HB5 := Lib.hid (HBW.out.trans hb5)
          clear hbl5 hb5 y
          go_wp2_with fail
          refine (writeString_any w.heap.size _ x w5 HBL5.out (by rw [List.length_append]; have := HLEN.out; show _ + 2 + _ ≤ _; omega)).mono ?_
          rintro e w6 ⟨rfl, hbl6, hb6⟩
          have HBL6 := Lib.hid hbl6
          have HB6 := Lib.hid (HB5.out.trans hb6)
          clear hbl6 hb6
          go_wp2_with fail
          go_roundw
          case rel =>
            refine ⟨k + 1, by omega, by go_num, ?_, HB6.out⟩
            have h := HBL6.out
            rw [List.take_add_one, HX.out]
            unfold tailJ at h ⊢
            rw [List.flatMap_append]
            simpa using h
          case measure => simp [intOf]; omega
        · have hkl : k = n := by omega
          have hI : ¬ (k : Int) < (n : Int) := by omega
          have hbl := HBL.out
          rw [hkl, List.take_of_length_le (by rw [HL.out]; exact Nat.le_refl _), ← joinC_tail] at hbl
          have hlt2 : w.heap.size ≤ wr.heap.size := HBW.out.size
          have HS2 := Lib.hid (string_any w.heap.size w.heap.size _ wr hbl.isB hlt2)
          clear hkl hbl
          go_wp2_with fail
          refine HS2.out.mono ?_
          rintro e w7 ⟨rfl, _, hb7, _⟩
          have HB7 := Lib.hid (HBW.out.trans hb7)
          clear hb7 HS2
          go_wp2_with fail
          go_ret
          exact ⟨⟨_, rfl, rfl⟩, HB7.out⟩
theorem joins_ok {L : List ByteArray} {c : Nat} (hc : L.length ≤ c) : JoinsOk L c := by
  by_cases h1 : L.length ≤ 1
  · exact joins_two h1 c
  · intro A n₀ w hs hn h6 h40
    match L, hc, h1, hs, h6, h40 with
    | [], _, h1, _, _, _ => exact absurd (Nat.zero_le _) h1
    | s0 :: l, hc, h1, hs, h6, h40 =>
      obtain ⟨b, off, rfl, hb, hcell⟩ := hs (by simp)
      simp only [List.length_cons] at hc h1 h6
      exact join_big b off c l.length s0 l w rfl hcell (by omega) (by omega) (by omega) h40 hc
end Go.Proofs.YthbcfcbonmphfaaDoor
namespace Go.Proofs.YthbcfcbonmphfaaDoor
open Go.RowKit Go.Shelf
set_option maxRecDepth 100000

set_option maxHeartbeats 16000000 in
theorem termSignatures_any (g : Sg) (A1 : Option Addr) (c1 : Nat) (A2 : Option Addr) (c2 : Nat) (s : ByteArray) (w : World) (hp : Pairs w) (hs : SlS w.heap.size w A1 g.sorts) (hd : SlD w.heap.size w A2 g.ops) (hok : okG g) (hcs : g.sorts.length ≤ c1) (hcm : c1 ≤ maxLen)
    (hcap : ∀ (i : Nat) (d : Dc) (b off : Nat) (A' : Option Addr) (c' : Nat), g.ops[i]? = some d → A2 = some ⟨b, off, none⟩ → w.cell? ⟨b, off + i * 3 + 1, none⟩ = some (.slice A' d.args.length c') → d.args.length ≤ c') (hss : s.size ≤ maxLen) :
    Calls Tryd.prog 11 #[GV g A1 c1 A2 c2, .string s] w fun e w' => e = .returned (.bool true) ∧ Below w.heap.size w w' := by
  have H0 := Lib.hid (QG.start g A1 c1 A2 c2 w hs hd)
  have HP := Lib.hid (hp.alloc (.cells (gcells g A1 c1 A2 c2) 82))
  have HP0 := Lib.hid hp
  have HOK := Lib.hid hok
  have HJS := Lib.hid (show ∀ W : World, Below w.heap.size w W → ∀ (i : Nat) (d : Dc) (b off : Nat) (A' : Option Addr) (c' : Nat), g.ops[i]? = some d → A2 = some ⟨b, off, none⟩ → W.cell? ⟨b, off + i * 3 + 1, none⟩ = some (.slice A' d.args.length c') → JoinsOk d.args c' from fun W hW i d b off A' c' hi he hc => by
    obtain ⟨b', off', he', hb', _⟩ := hd (by have := (List.getElem?_eq_some_iff.1 hi).1; omega)
    rw [he] at he'
    injection he' with he'
    injection he' with e1 e2 _
    subst e1 e2
    exact joins_ok (hcap i d b off A' c' hi he ((hW.cell (p := ⟨b, _, none⟩) hb').symm.trans hc)))
  have HCS := Lib.hid hcs
  have HCM := Lib.hid hcm
  have hsl : (s.size : Int) ≤ 9223372036854775807 := by unfold maxLen at hss; omega
  clear hp hs hd hok hcap hcs hcm
  unfold GV
  go_enter Tryd.func11, Tryd.ntmps11
  go_wp2_with fail
  refine (awake02_any _ HP.out).mono ?_
  rintro e w1 ⟨rfl, hb⟩
  have H1 := Lib.hid (H0.out.next hb)
  clear H0
  clear hb HP
  have HPR := Lib.hid (fun (W : World) (h : Below w.heap.size w W) => HP0.out.below h HP0.out.lt)
  go_upto_region 3 with fail
  go_cut [35] from 19 (fun v wx => (v = .bool true ∨ (v = .bool false ∧ s.size ≤ 70000)) ∧ QG g A1 c1 A2 c2 w wx)
  case first =>
    obtain ⟨⟨x0, x1⟩, _⟩ := blk2 H1.out.bg.cells
    have HC := Lib.hid (wide_any g A1 c1 A2 c2 w1 H1.out.bg.s H1.out.bg.d HOK.out)
    unfold GV at HC
    go_wp2_with fail
    refine HC.out.mono ?_
    rintro e w2 ⟨rfl, hb⟩
    have H3 := Lib.hid (H1.out.next hb)
    clear H1
    clear hb x0 x1 HC
    cases hbg : wideB g
    rotate_left
    · clear hbg
      go_wp2_with fail
      go_meet
      exact ⟨.inl rfl, H3.out⟩
    clear hbg
    by_cases h1 : 3000 < s.size
    · have e1 : decide ((3000 : Int) < (s.size : Int)) = true := decide_eq_true (by omega)
      by_cases h2 : s.size ≤ 65536
      · have e2 : decide ((s.size : Int) ≤ 65536) = true := decide_eq_true (by omega)
        clear h1 h2
        go_wp2_with fail
        go_meet
        exact ⟨.inl rfl, H3.out⟩
      · have e2 : decide ((s.size : Int) ≤ 65536) = false := decide_eq_false (by omega)
        by_cases h3 : 70000 < s.size
        · have e3 : decide ((70000 : Int) < (s.size : Int)) = true := decide_eq_true (by omega)
          clear h1 h2 h3
          go_wp2_with fail
          go_meet
          exact ⟨.inl rfl, H3.out⟩
        · have e3 : decide ((70000 : Int) < (s.size : Int)) = false := decide_eq_false (by omega)
          have h3' : s.size ≤ 70000 := by omega
          clear h1 h2 h3
          go_wp2_with fail
          go_meet
          exact ⟨.inr ⟨rfl, h3'⟩, H3.out⟩
    · have e1 : decide ((3000 : Int) < (s.size : Int)) = false := decide_eq_false (by omega)
      have e3 : decide ((70000 : Int) < (s.size : Int)) = false := decide_eq_false (by omega)
      have h3' : s.size ≤ 70000 := by omega
      clear h1
      go_wp2_with fail
      go_meet
      exact ⟨.inr ⟨rfl, h3'⟩, H3.out⟩
  case rest =>
    obtain ⟨hc, hz⟩ := hcut
    have H50 := Lib.hid hz
    clear hz H1
    rcases hc with rfl | ⟨rfl, hs7⟩
    · go_wp2_with fail
      go_ret
      exact ⟨rfl, H50.out.below⟩
    have HC := Lib.hid (PSig_all s wc (HPR.out _ H50.out.below))
    go_wp2_with fail
    refine HC.out.mono ?_
    rintro e w11 hpp
    obtain ⟨X, pa, pb, er, X1, k1, X2, k2, hpr, rfl, hsl1, hsd1, hb⟩ := pg_of hpp
    have HPRx := Lib.hid hpr
    have HSMx := Lib.hid (pg_small hpr)
    have hbA : Below w11.heap.size w11 (w11.alloc (.cells (gcells X X1 k1 X2 k2) 82)) := (Below.refl _ _).alloc (Nat.le_refl _) _
    have hbB : Below (w11.alloc (.cells (gcells X X1 k1 X2 k2) 82)).heap.size (w11.alloc (.cells (gcells X X1 k1 X2 k2) 82)) ((w11.alloc (.cells (gcells X X1 k1 X2 k2) 82)).alloc (.cells #[.int .i64 pa, .int .i64 pb] 23)) := (Below.refl _ _).alloc (Nat.le_refl _) _
    have H51 := Lib.hid (H50.out.next hb)
    clear H50
    have H52 := Lib.hid (H51.out.next hbA)
    clear H51
    have H53 := Lib.hid (H52.out.next hbB)
    clear H52
    have Xx0 := Lib.hid ((BGs.new w11 X X1 k1 X2 k2 hsl1 hsd1).next hbB)
    have Px0 := Lib.hid (PXg.new (w11.alloc (.cells (gcells X X1 k1 X2 k2) 82)) pa pb)
    simp only [World.size_alloc] at Px0
    clear hpp hpr hsl1 hsd1 hb hbA hbB HC
    unfold GV
    go_upto_region 6 with fail
    generalize (w11.alloc (.cells #[.slice X1 X.sorts.length k1, .slice X2 X.ops.length k2] 82)).alloc (.cells #[.int .i64 pa, .int .i64 pb] 23) = Wx at H53 Xx0 Px0 ⊢
    have HC := Lib.hid (refPSig_all s Wx)
    go_wp2_with fail
    refine HC.out.mono ?_
    rintro e w13 hpp
    obtain ⟨T9, a9, b9, er9, Y1, m1, Y2, m2, hpr, rfl, hsl1, hsd1, hb⟩ := pg_of hpp
    obtain ⟨rfl, rfl, rfl, rfl⟩ := pg_one HPRx.out hpr
    have hbA : Below w13.heap.size w13 (w13.alloc (.cells (gcells X Y1 m1 Y2 m2) 82)) := (Below.refl _ _).alloc (Nat.le_refl _) _
    have hbB : Below (w13.alloc (.cells (gcells X Y1 m1 Y2 m2) 82)).heap.size (w13.alloc (.cells (gcells X Y1 m1 Y2 m2) 82)) ((w13.alloc (.cells (gcells X Y1 m1 Y2 m2) 82)).alloc (.cells #[.int .i64 pa, .int .i64 pb] 23)) := (Below.refl _ _).alloc (Nat.le_refl _) _
    have H56 := Lib.hid (H53.out.next hb)
    have Xx3 := Lib.hid (Xx0.out.next hb)
    have Px3 := Lib.hid (Px0.out.next hb)
    clear H53 Xx0 Px0
    have H57 := Lib.hid (H56.out.next hbA)
    have Xx4 := Lib.hid (Xx3.out.next hbA)
    have Px4 := Lib.hid (Px3.out.next hbA)
    clear H56 Xx3 Px3
    have H58 := Lib.hid (H57.out.next hbB)
    have Xx5 := Lib.hid (Xx4.out.next hbB)
    have Px5 := Lib.hid (Px4.out.next hbB)
    clear H57 Xx4 Px4
    have Xy0 := Lib.hid ((BGs.new w13 X Y1 m1 Y2 m2 hsl1 hsd1).next hbB)
    have Py0 := Lib.hid (PXg.new (w13.alloc (.cells (gcells X Y1 m1 Y2 m2) 82)) pa pb)
    simp only [World.size_alloc] at Py0
    clear hpp hpr hsl1 hsd1 hb hbA hbB HC
    unfold GV
    go_upto_region 7 with fail
    generalize (w13.alloc (.cells #[.slice Y1 X.sorts.length m1, .slice Y2 X.ops.length m2] 82)).alloc (.cells #[.int .i64 pa, .int .i64 pb] 23) = Wy at H58 Xx5 Px5 Xy0 Py0 ⊢
    have hpa : (pa == pa) = true := beq_self_eq_true _
    have hpb : (pb == pb) = true := beq_self_eq_true _
    have hee : (er != er) = false := bne_self_eq_false _
    obtain ⟨⟨x0, x1⟩, _⟩ := blk2 Xx5.out.cells
    obtain ⟨⟨y0, y1⟩, _⟩ := blk2 Xy0.out.cells
    have HC := Lib.hid (sameSig_any X X1 k1 X2 k2 Y1 m1 Y2 m2 Wy Xx5.out.s Xx5.out.d Xy0.out.s Xy0.out.d HSMx.out)
    unfold GV at HC
    go_wp2_with fail
    refine HC.out.mono ?_
    rintro e w14 ⟨rfl, hb⟩
    have H59 := Lib.hid (H58.out.next hb)
    have Px6 := Lib.hid (Px5.out.next hb)
    have Py1 := Lib.hid (Py0.out.next hb)
    clear H58 Xx5 Px5 Xy0 Py0
    clear hb x0 x1 y0 y1 HC
    obtain ⟨⟨p0, p1⟩, _⟩ := blk2 Px6.out.out
    obtain ⟨⟨q0, q1⟩, _⟩ := blk2 Py1.out.out
    go_upto_region 9 with fail
    clear p0 p1 q0 q1 hpa hpb hee
    clear Px6 Py1
    cases hf : validSg g
    · have HR := Lib.hid (txtSig_bad hf)
      have HF := Lib.hid hf
      clear hf
      obtain ⟨⟨x0, x1⟩, _⟩ := blk2 H59.out.bg.cells
      have HC := Lib.hid (TextSignature_any g A1 c1 A2 c2 w14 H59.out.bg.s H59.out.bg.d HOK.out (HJS.out _ H59.out.below))
      rw [HR.out] at HC
      unfold GV at HC
      go_wp2_with fail
      refine HC.out.mono ?_
      rintro e w15 ⟨rfl, hb⟩
      have H60 := Lib.hid (H59.out.next hb)
      clear H59
      clear hb HC x0 x1
      obtain ⟨⟨x0, x1⟩, _⟩ := blk2 H60.out.bg.cells
      have HC := Lib.hid (refValidSignature_any g A1 c1 A2 c2 w15 H60.out.bg.s H60.out.bg.d HOK.out HCS.out HCM.out)
      rw [HF.out] at HC
      unfold GV at HC
      go_wp2_with fail
      refine HC.out.mono ?_
      rintro e w16 ⟨rfl, hb⟩
      have H61 := Lib.hid (H60.out.next hb)
      clear H60
      clear hb HC x0 x1
      go_wp2_with fail
      go_ret
      exact ⟨rfl, H61.out.below⟩
    obtain ⟨J, hJ⟩ : ∃ J : ByteArray, J = ⟨(sigTxt g).toArray⟩ := ⟨_, rfl⟩
    have hl := sigTxt_len hf
    have hr : txtSig g = .tuple #[.string J, .int .i64 0] := by rw [txtSig_ok hf]; unfold limRes; rw [if_neg (by omega), hJ]
    have HR := Lib.hid hr
    have HJL := Lib.hid hJ
    have HV := Lib.hid hf
    have HPT := Lib.hid (show PG J g 0 0 0 by rw [hJ]; exact pg_txt hf)
    have hJz : J.size ≤ 36040 := by rw [← size_toList, hJ]; simpa using hl
    clear hr hf hJ hl
    obtain ⟨⟨x0, x1⟩, _⟩ := blk2 H59.out.bg.cells
    have HC := Lib.hid (TextSignature_any g A1 c1 A2 c2 w14 H59.out.bg.s H59.out.bg.d HOK.out (HJS.out _ H59.out.below))
    rw [HR.out] at HC
    unfold GV at HC
    go_wp2_with fail
    refine HC.out.mono ?_
    rintro e w20 ⟨rfl, hb⟩
    have H60 := Lib.hid (H59.out.next hb)
    clear H59
    clear hb HC x0 x1
    obtain ⟨⟨x0, x1⟩, _⟩ := blk2 H60.out.bg.cells
    have HC := Lib.hid (refValidSignature_any g A1 c1 A2 c2 w20 H60.out.bg.s H60.out.bg.d HOK.out HCS.out HCM.out)
    rw [HV.out] at HC
    unfold GV at HC
    go_wp2_with fail
    refine HC.out.mono ?_
    rintro e w21 ⟨rfl, hb⟩
    have H61 := Lib.hid (H60.out.next hb)
    clear H60
    clear hb HC x0 x1
    obtain ⟨⟨x0, x1⟩, _⟩ := blk2 H61.out.bg.cells
    have HC := Lib.hid (refTextSignature_any g A1 c1 A2 c2 w21 H61.out.bg.s H61.out.bg.d HV.out)
    rw [← HJL.out] at HC
    unfold GV at HC
    go_wp2_with fail
    refine HC.out.mono ?_
    rintro e w22 ⟨rfl, hb⟩
    have H62 := Lib.hid (H61.out.next hb)
    clear H61
    clear hb HC x0 x1
    have hI : decide ((65536 : Int) < (J.size : Int)) = false := decide_eq_false (by omega)
    have hjj : (J.toList == J.toList) = true := beq_self_eq_true _
    go_upto_region 15 with fail
    have HC := Lib.hid (PSig_all J w22 (HPR.out _ H62.out.below))
    go_wp2_with fail
    refine HC.out.mono ?_
    rintro e w23 hpp
    obtain ⟨T9, a9, b9, er9, B1, n1, B2, n2, hpr, rfl, hsl1, hsd1, hb⟩ := pg_of hpp
    obtain ⟨rfl, rfl, rfl, rfl⟩ := pg_one HPT.out hpr
    have hbA : Below w23.heap.size w23 (w23.alloc (.cells (gcells g B1 n1 B2 n2) 82)) := (Below.refl _ _).alloc (Nat.le_refl _) _
    have hbB : Below (w23.alloc (.cells (gcells g B1 n1 B2 n2) 82)).heap.size (w23.alloc (.cells (gcells g B1 n1 B2 n2) 82)) ((w23.alloc (.cells (gcells g B1 n1 B2 n2) 82)).alloc (.cells #[.int .i64 0, .int .i64 0] 23)) := (Below.refl _ _).alloc (Nat.le_refl _) _
    have H63 := Lib.hid (H62.out.next hb)
    clear H62
    have H64 := Lib.hid (H63.out.next hbA)
    clear H63
    have H65 := Lib.hid (H64.out.next hbB)
    clear H64
    have Xb0 := Lib.hid ((BGs.new w23 g B1 n1 B2 n2 hsl1 hsd1).next hbB)
    have Pb0 := Lib.hid (PXg.new (w23.alloc (.cells (gcells g B1 n1 B2 n2) 82)) 0 0)
    simp only [World.size_alloc] at Pb0
    clear hpp hpr hsl1 hsd1 hb hbA hbB HC
    unfold GV
    go_upto_region 16 with fail
    generalize (w23.alloc (.cells #[.slice B1 g.sorts.length n1, .slice B2 g.ops.length n2] 82)).alloc (.cells #[.int .i64 0, .int .i64 0] 23) = Wb at H65 Xb0 Pb0 ⊢
    obtain ⟨⟨p0, p1⟩, _⟩ := blk2 Pb0.out.out
    obtain ⟨⟨x0, x1⟩, _⟩ := blk2 Xb0.out.cells
    obtain ⟨⟨y0, y1⟩, _⟩ := blk2 H65.out.bg.cells
    have HC := Lib.hid (sameSig_any g B1 n1 B2 n2 A1 c1 A2 c2 Wb Xb0.out.s Xb0.out.d H65.out.bg.s H65.out.bg.d (smG_valid HV.out))
    unfold GV at HC
    go_wp2_with fail
    refine HC.out.mono ?_
    rintro e w24 ⟨rfl, hb⟩
    have H68 := Lib.hid (H65.out.next hb)
    clear hb x0 x1 y0 y1 HC
    go_wp2_with fail
    go_ret
    exact ⟨rfl, H68.out.below⟩
end Go.Proofs.YthbcfcbonmphfaaDoor

/- The row and the card. -/
namespace Go.Proofs.YthbcfcbonmphfaaDoor
set_option maxRecDepth 100000
open Go.ChangeMaps (open_string)
open Go.ChangeShapes Go.WideShapes Go.ChangeAt Go.WideMaps Go.WideElems Go.RowKit Go.Deep

set_option maxRecDepth 100000 in
theorem termSignatures_lifted (os : Os) (started : os.Started) (H : Type) (enc : TypeId × Value → H) :
    ReturnsInHanded {} Tryd.checked os 11 .any (fun w args => (Rows.termSignaturesSpec.pre enc Tryd.prog Tryd.f11 [] false w args ∧ laidMetH Tryd.prog Rows.lexNamesRow.laid w) ∧ sizedMet enc Tryd.prog Tryd.f11 (OpenSpec.ofChange Rows.termSignaturesSpec) false w args)
      (Rows.termSignaturesSpec.post enc Tryd.prog Tryd.f11 false true false false) := by
  refine returnsInHanded_of_change_and (C := Tryd.checked) (X := fun w _ => laidMetH Tryd.prog Rows.lexNamesRow.laid w) (fun _ _ _ hh h => h.of_heap hh) Tryd.own started (by kernel_rfl) Tryd.func11
    (ChangeSpec.witness_shaped (enc := enc) (C := Tryd.checked) (os := os) (X := fun w _ => laidMetH Tryd.prog Rows.lexNamesRow.laid w) false (World.doorLaid Tryd.prog 400 os) #[.agg #[.slice none 0 0, .slice none 0 0], .string ⟨#[]⟩] 8 rfl (World.shaped_of_RefB (by kernel_rfl) (by kernel_rfl)) (by kernel_rfl) (by kernel_rfl) (by kernel_rfl) (door_met os _)) ?_
  intro W base args ds gs before hval0 hW _ _ hL _
  have hval : ∀ (j : Nat) t v, Tryd.f11.params[j]? = some t → args[j]? = some v → Value.okWide Tryd.prog W .any base t v := hval0
  have hW' := hW
  obtain ⟨p, q, hA0, hV, rfl, hfz, hnd⟩ := hW
  have hA : DataW.TrodAll enc Tryd.prog W 0 (fun _ => true) true Tryd.f11.params.toList args.toList ds p := hA0
  rw [Tryd.params11] at hA hval
  obtain ⟨v0, v1, d0, d1, p0, p1, rfl, rfl, rfl, h0, h1⟩ := trodAll_two hA
  obtain ⟨g, A1, c1, A2, c2, rfl, hog, hs1, hd1, hcs, hcm, hcap⟩ := open_sig2 (hval 0 82 v0 rfl rfl) h0
  obtain ⟨s, rfl, rfl, rfl, hs⟩ := open_string Tryd.underlying9 (hval 1 9 v1 rfl rfl) h1
  refine (termSignatures_any g A1 c1 A2 c2 s W (pairs_of_laid hL) hs1 hd1 hog hcs hcm hcap hs).mono fun e W' ⟨he, hb⟩ => ?_
  subst he
  exact ⟨_, rfl, law_post (tb := 4) Tryd.laidOut (by rw [Tryd.params11]; intro t ht; simp at ht; rcases ht with rfl | rfl <;> exact ⟨by kernel_rfl, of_decide_eq_true (by kernel_rfl)⟩) Tryd.underlying4 (by kernel_rfl) rfl (by simp [Rows.termSignaturesSpec]) hW' hb⟩

theorem termSignatures_holds : Rows.TermSignaturesSaid :=
  OpenClaim.holds_of_wide 11 Tryd.f11 rfl rfl rfl rfl rfl rfl rfl ⟨rfl, rfl, rfl, rfl, rfl⟩ rfl rfl rfl rfl rfl (by kernel_rfl) Tryd.func11 (by kernel_rfl)
    (of_decide_eq_true (by kernel_rfl)) (by unfold Func.isWrapper; first | (rw [if_pos (by decide +kernel)]; kernel_rfl) | (rw [if_neg (by decide +kernel)]; exact ⟨rfl, rfl⟩))
    (fun os started H enc _ => termSignatures_lifted os started H enc)

/-- The tied card. -/
theorem termSignatures_card : Rows.TermSignaturesCardSaid :=
  Claim7.holds_tied_plain_at .later [] [.data] true (true, Rows.termSignaturesCard.stood.harness.2) false
    termSignatures_holds (fun _ h => by cases h) (by kernel_rfl) (fun _ h => by cases h) termSignatures_row_tie rfl ⟨rfl, rfl⟩ (by kernel_rfl) rfl
    (fun f fn hf hfn => by
      obtain rfl : f = 11 := Option.some.inj ((show Tryd.prog.funcNamed Rows.termSignaturesRow.func = some 11 by kernel_rfl).symm.trans hf) |>.symm
      obtain rfl : fn = Tryd.f11 := (Option.some.inj (Tryd.func11.symm.trans hfn)).symm
      exact ⟨by kernel_rfl, fun j t ht => by
        rw [Tryd.params11] at ht
        have h3 : t ∈ ([82, 9] : List TypeId) := by
          have := Array.mem_of_getElem? ht
          simpa using this
        simp only [List.mem_cons, List.not_mem_nil, or_false] at h3
        rcases h3 with rfl | rfl
        · exact (show Tryd.prog.wantsStandIn 82 = false by kernel_rfl)
        · exact (show Tryd.prog.wantsStandIn 9 = false by kernel_rfl)⟩)
    (by kernel_rfl)
#print axioms termSignatures_card
end Go.Proofs.YthbcfcbonmphfaaDoor
