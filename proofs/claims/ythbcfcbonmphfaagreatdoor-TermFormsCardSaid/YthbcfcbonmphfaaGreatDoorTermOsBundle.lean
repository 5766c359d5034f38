/- A signature that came in, with its capacities. -/
import Derived.Test.YthbcfcbonmphfaaGreatDoorRows
import Derived.Test.YthbcfcbonmphfaaGreatDoorTie
import Derived.Test.YthbcfcbonmphfaaGreatDoorCards
import Derived.Test.YthbcfcbonmphfaaGreatDoorLawFrameBundle
import Derived.Test.YthbcfcbonmphfaaGreatDoorPlacCBundle
import Derived.LaidMore
import Derived.OpenShut
import Derived.Stop.Joined
import Derived.SevenTiedAt
import Derived.Laws.EntriesVeiled
import Derived.Deep.QuietTactic
import Derived.Test.YthbcfcbonmphfaaGreatDoorTermGBundle
import Derived.Test.YthbcfcbonmphfaaGreatDoorTermLBundle
import Derived.Deep.Slices
/- LexNames: whatever the string and the token, the law answers true and leaves both as they were. -/
namespace Go.Proofs.YthbcfcbonmphfaaGreatDoor
set_option maxRecDepth 100000
open Go.ChangeShapes Go.WideShapes Go.ChangeAt Go.WideMaps Go.WideElems Go.RowKit
open Go.ChangeMaps (open_string)

theorem Tryz.own : ownKnob Tryz.prog.godebug = none := by kernel_rfl
theorem Tryz.laidOut : laidOutB Tryz.prog = true := by kernel_rfl
theorem gPairs : Tryz.prog.globalNamed (Rows.termFormsRow.named.headD "") = some 1 := by kernel_rfl
theorem tPairs : (Tryz.prog.globals[1]?).map (·.type) = some 168 := by kernel_rfl

/-- What the condition on the listed variable gives the walks. -/
theorem pairs_of_laid {W : World} (h : laidMetH Tryz.prog Rows.termFormsRow.laid W) : Pairs W := by
  rw [MakeChecks.laidMetH_plain _ _ _ (by kernel_rfl)] at h
  obtain ⟨ps, ⟨g0, t0, cs0, f0, p0, q0, hg0, ht0, hv0, hd0, _⟩, _, _⟩ := h
  obtain rfl := Option.some.inj (gPairs.symm.trans hg0)
  obtain rfl := Option.some.inj (tPairs.symm.trans ht0)
  obtain ⟨xs, m1, rfl, hx1, hlen, hn4, hel⟩ := DataW.trod_array Tryz.underlying168 hd0
  have c1 : Tryz.prog.cellsOf 9 = 1 := by kernel_rfl
  have c4 : Tryz.prog.cellsOf 168 = 4 := by kernel_rfl
  rw [c4] at hlen
  have hcell := fun j => World.var?_cell hg0 hv0 j
  have key : ∀ (i : Nat) (hi : i < 4) (l : List UInt8), (xs[i]?.map (·.1)) = some (.lit (.string l)) → W.cell? ⟨1, i, none⟩ = some (.string ⟨l.toArray⟩) := by
    intro i hi l hl
    have h1 := hel i hi
    rw [c1, Nat.mul_one] at h1
    cases hx : xs[i]? with
    | none => rw [hx] at hl; cases hl
    | some x =>
      rw [hx] at hl h1
      obtain ⟨s, e1, e2, _⟩ := DataW.trod_string Tryz.underlying9 h1
      have hl' : x.1 = .lit (.string l) := by simpa using hl
      rw [e2] at hl'
      have es : s.data.toList = l := by simpa using hl'
      have hc := hcell i
      have hg : cs0.toList[i]? = some (.string s) := by
        have : (cs0.toList.drop i).take 1 = [.string s] := e1
        have h3 : ((cs0.toList.drop i).take 1)[0]? = some (.string s) := by rw [this]; rfl
        simpa using h3
      rw [← es, Lib.mk_data]
      rw [hc]
      simpa using hg
  have hx : xs.map (·.1) = [.lit (.string [61, 61]), .lit (.string [33, 61]), .lit (.string [60, 61]), .lit (.string [45, 62])] := by
    have := congrArg Prod.fst hx1
    simp only [Rows.laid_heartwood_lex_pairs, DataW.agg.injEq] at this
    exact this.symm
  have at_ : ∀ (i : Nat) (l : List UInt8), (xs.map (·.1))[i]? = some (DataW.lit (Lit.string l)) → (xs[i]?.map (·.1)) = some (DataW.lit (Lit.string l)) := fun i l h => by rw [← List.getElem?_map]; exact h
  exact ⟨key 0 (by decide) _ (at_ 0 _ (by rw [hx]; rfl)), key 1 (by decide) _ (at_ 1 _ (by rw [hx]; rfl)), key 2 (by decide) _ (at_ 2 _ (by rw [hx]; rfl)), key 3 (by decide) _ (at_ 3 _ (by rw [hx]; rfl))⟩

/-- The door's own heap meets the condition: three closed facts. -/
theorem door_met (os : Os) (args : Array Value) : laidMetH Tryz.prog Rows.termFormsRow.laid ((World.doorLaid Tryz.prog 400 os).forCall (fun _ _ => 0) ⟨#[], args, []⟩).memory :=
  laidMetH_of_parts3 (fuel := 8) (laidMet_of_run' 8 (by kernel_rfl) (by kernel_rfl)) (by kernel_rfl) (by kernel_rfl)

section
variable {H : Type} {enc : TypeId × Value → H}
/-- A token that came in, opened to its five cells. -/
theorem open_token {w : World} {base : Nat} {spare : Nat → Bool} {held : Bool} {r : Reach} {b0 : Nat} {v : Value} {d : DataW H} {p : List MemPlace}
    (hv : Value.okWide Tryz.prog w r b0 130 v) (h : DataW.Trod enc Tryz.prog w base spare held 130 v d p) :
    ∃ (k : Int) (ts : ByteArray) (n a b : Int), v = .agg #[.int .i64 k, .string ts, .int .i64 n, .int .i64 a, .int .i64 b] := by
  obtain ⟨cs, rfl, hsz⟩ := okWide_struct Tryz.underlying130 hv
  have hC : Tryz.prog.cellsOf 130 = 5 := by kernel_rfl
  have hC3 : Tryz.prog.cellsOf 3 = 1 := by kernel_rfl
  have hC9 : Tryz.prog.cellsOf 9 = 1 := by kernel_rfl
  have hC23 : Tryz.prog.cellsOf 53 = 2 := by kernel_rfl
  obtain ⟨l⟩ := cs
  match l, hsz.trans hC with
  | [c0, c1, c2, c3, c4], _ =>
    obtain ⟨fuel, hf⟩ := h
    obtain ⟨xs, n, _, hx, _, hlen, hg⟩ := DataW.trod_struct Tryz.underlying130 hf
    match xs, hlen with
    | [y0, y1, y2, y3], _ =>
      have t0 : DataW.trod enc Tryz.prog w base spare held n 3 [c0] = some y0 := by simpa [hC3, Value.cells] using hg 0 _ rfl
      have t1 : DataW.trod enc Tryz.prog w base spare held n 9 [c1] = some y1 := by simpa [hC9, Value.cells] using hg 1 _ rfl
      have t2 : DataW.trod enc Tryz.prog w base spare held n 3 [c2] = some y2 := by simpa [hC3, Value.cells] using hg 2 _ rfl
      have t3 : DataW.trod enc Tryz.prog w base spare held n 53 [c3, c4] = some y3 := by simpa [hC23, Value.cells] using hg 3 _ rfl
      obtain ⟨k, e0, _, _⟩ := DataW.trod_int Tryz.underlying3 t0
      obtain ⟨ts, e1, _, _⟩ := DataW.trod_string Tryz.underlying9 t1
      obtain ⟨m, e2, _, _⟩ := DataW.trod_int Tryz.underlying3 t2
      obtain ⟨xs', n', _, hx', _, hlen', hg'⟩ := DataW.trod_struct Tryz.underlying53 t3
      match xs', hlen' with
      | [z0, z1], _ =>
        have u0 : DataW.trod enc Tryz.prog w base spare held n' 3 [c3] = some z0 := by simpa [hC3] using hg' 0 _ rfl
        have u1 : DataW.trod enc Tryz.prog w base spare held n' 3 [c4] = some z1 := by simpa [hC3] using hg' 1 _ rfl
        obtain ⟨a, e3, _, _⟩ := DataW.trod_int Tryz.underlying3 u0
        obtain ⟨b, e4, _, _⟩ := DataW.trod_int Tryz.underlying3 u1
        simp at e0 e1 e2 e3 e4
        subst e0 e1 e2 e3 e4
        exact ⟨k, ts, m, a, b, rfl⟩
end

end Go.Proofs.YthbcfcbonmphfaaGreatDoor
/- The law's wide: which signatures are too large to be tried; slices.Equal on paths; a signature, and a path, that came in. -/
namespace Go.Proofs.YthbcfcbonmphfaaGreatDoor
open Go.RowKit Go.Shelf
set_option maxRecDepth 100000

def longB (s : ByteArray) : Bool := decide (100 < s.size)
def wideD (d : Dc) : Bool := longB d.nm || longB d.res || decide (40 < d.args.length) || d.args.any longB
def wideB (g : Sg) : Bool := decide (60 < g.sorts.length) || decide (120 < g.ops.length) || g.sorts.any longB || g.ops.any wideD
abbrev longV : Value := .func (.func 26) #[] #[]
abbrev declV (b : Nat) : Value := .func (.func 29) #[] #[.pointer (some ⟨b, 0, none⟩)]

theorem long_any (s : ByteArray) (w : World) (hs : s.size ≤ maxLen) : Calls Tryz.prog 26 #[.string s] w fun e w' => e = .returned (.bool (longB s)) ∧ w' = w := by
  unfold maxLen at hs
  go_enter Tryz.func26, Tryz.ntmps26
  go_wp2
  all_goals
    go_ret
    exact ⟨ret_bool (by unfold longB; rw [Bool.eq_iff_iff]; simp; try omega), rfl⟩

theorem any_hit {α : Type} {f : α → Bool} (L : List α) (k : Nat) (t : α) (h : L[k]? = some t) (hb : f t = true) : L.any f = true := List.any_eq_true.2 ⟨t, List.mem_of_getElem? h, hb⟩
theorem any_none {α : Type} {f : α → Bool} (L : List α) (hno : ∀ (i : Nat) (u : α), i < L.length → L[i]? = some u → f u = false) : L.any f = false := by
  rw [List.any_eq_false]
  intro t ht
  obtain ⟨i, hi, rfl⟩ := List.mem_iff_getElem.1 ht
  rw [hno i _ hi (List.getElem?_eq_getElem hi)]
  exact Bool.false_ne_true
theorem any_snoc {α : Type} {f : α → Bool} (L : List α) (k : Nat) (t : α) (h : L[k]? = some t) (hb : f t = false) (hno : ∀ (i : Nat) (u : α), i < k → L[i]? = some u → f u = false) : ∀ (i : Nat) (u : α), i < k + 1 → L[i]? = some u → f u = false := by
  intro i u hi hu
  rcases Nat.lt_or_ge i k with hl | hl
  · exact hno i u hl hu
  · have : i = k := by omega
    subst this
    rw [h] at hu
    rw [← Option.some.inj hu]
    exact hb

set_option maxHeartbeats 1000000 in
theorem indexLong_any (A : Option Addr) (cap : Nat) (L : List ByteArray) (n₀ : Nat) (w : World) (hlen : L.length ≤ 120) (hT : ∀ s, s ∈ L → s.size ≤ maxLen) (hl : SlS n₀ w A L) :
    Calls Tryz.prog 60 #[.slice A L.length cap, longV] w fun e w' => ∃ r : Int, e = .returned (.int .i64 r) ∧ decide (0 ≤ r) = L.any longB ∧ w' = w := by
  have HL := Lib.hid hl
  have HX := Lib.hid hT
  clear hl hT
  go_enter Tryz.func60, Tryz.ntmps60
  go_wp2_with fail
  go_loopw [8] (fun i wr => ∃ k : Nat, k ≤ L.length ∧ i = .int .i64 k ∧ (∀ (i : Nat) (u : ByteArray), i < k → L[i]? = some u → longB u = false) ∧ wr = w) (fun i _ => L.length - (intOf i).toNat)
  case atStart => exact ⟨0, by omega, rfl, fun i t hi => absurd hi (by omega), rfl⟩
  case round =>
    obtain ⟨k, hk, rfl, hno, rfl⟩ := hrel
    have HN := Lib.hid hno
    clear hno
    by_cases hlt : k < L.length
    · obtain ⟨t, ht⟩ : ∃ t, L[k]? = some t := ⟨L[k], List.getElem?_eq_getElem hlt⟩
      obtain ⟨b, off, hA, hblt, hc⟩ := HL.out (by omega)
      subst hA
      have h0 := hc k t ht
      have HT := Lib.hid ht
      have HTS := Lib.hid (HX.out t (List.mem_of_getElem? ht))
      clear hc ht
      go_wp2_with (go_at_call 26; refine (long_any t _ HTS.out).mono ?_; rintro e w1 ⟨rfl, rfl⟩)
      · have hbig : longB t = true := by assumption
        go_ret
        exact ⟨_, rfl, by rw [any_hit L k t HT.out hbig]; simp, rfl⟩
      · have hbig : longB t = false := by assumption
        have HBig := Lib.hid hbig
        clear hbig
        go_roundw
        case rel => exact ⟨k + 1, by omega, by go_num, any_snoc L k t HT.out HBig.out HN.out, by trivial⟩
        case measure => simp [intOf]; omega
    · have hkL : k = L.length := by omega
      have HE := Lib.hid (any_none L (hkL ▸ HN.out))
      clear hkL
      go_wp2
      go_ret
      exact ⟨_, rfl, by rw [HE.out]; rfl, rfl⟩

set_option maxHeartbeats 400000 in
theorem containsLong_any (A : Option Addr) (cap : Nat) (L : List ByteArray) (n₀ : Nat) (w : World) (hlen : L.length ≤ 120) (hT : ∀ s, s ∈ L → s.size ≤ maxLen) (hl : SlS n₀ w A L) :
    Calls Tryz.prog 27 #[.slice A L.length cap, longV] w fun e w' => e = .returned (.bool (L.any longB)) ∧ w' = w := by
  have HC := Lib.hid (indexLong_any A cap L n₀ w hlen hT hl)
  clear hl hT
  go_enter Tryz.func27, Tryz.ntmps27
  go_wp2_with fail
  refine HC.out.mono ?_
  rintro e w1 ⟨r, rfl, hr, rfl⟩
  have HR := Lib.hid hr
  clear hr
  go_wp2
  all_goals
    go_ret
    exact ⟨ret_bool (by rw [← HR.out]), rfl⟩

theorem wideD_1 {d : Dc} (h : longB d.nm = true) : wideD d = true := by unfold wideD; rw [h]; rfl
theorem wideD_2 {d : Dc} (h : longB d.res = true) : wideD d = true := by unfold wideD; rw [h]; simp
theorem wideD_3 {d : Dc} (h : 40 < d.args.length) : wideD d = true := by unfold wideD; rw [decide_eq_true h]; simp
theorem wideD_4 {d : Dc} (h1 : longB d.nm = false) (h2 : longB d.res = false) (h3 : ¬ 40 < d.args.length) : wideD d = d.args.any longB := by unfold wideD; rw [h1, h2, decide_eq_false h3]; rfl

/-- What wide$2 lays: its box. -/
abbrev dcells (d : Dc) (A : Option Addr) (c : Nat) : Array Value := #[.string d.nm, .slice A d.args.length c, .string d.res]
set_option maxHeartbeats 2000000 in
theorem wideD_any (d : Dc) (A : Option Addr) (c n₀ b : Nat) (w : World) (hok : okD d) (hl : SlS n₀ w A d.args) (hn : n₀ ≤ w.heap.size) (hbx : Boxed w b 57 longV) :
    Calls Tryz.prog 29 #[.agg #[.string d.nm, .slice A d.args.length c, .string d.res], .pointer (some ⟨b, 0, none⟩)] w fun e w' => e = .returned (.bool (wideD d)) ∧ Below w.heap.size w w' := by
  have hB := (Below.refl w.heap.size w).alloc (Nat.le_refl _) (.cells (dcells d A c) 61)
  have hnew := heap_alloc_new w (.cells (dcells d A c) 61)
  have c0 := (hbx.alloc (.cells (dcells d A c) 61)).cell
  have hblt := hbx.lt
  have HNM := Lib.hid (long_any d.nm (w.alloc (.cells (dcells d A c) 61)) hok.1)
  have HRS := Lib.hid (long_any d.res (w.alloc (.cells (dcells d A c) 61)) hok.2.1)
  have HL := Lib.hid (hl.later (hB.mono hn))
  have HOK := Lib.hid hok
  have hlm := hok.2.2.1
  unfold maxLen at hlm
  obtain ⟨⟨x0, x1, x2⟩, _⟩ := blk3 hnew
  have HB := Lib.hid hB
  clear hok hl hbx hB hnew
  cases h1 : longB d.nm
  · rw [h1] at HNM
    cases h2 : longB d.res
    · rw [h2] at HRS
      by_cases h3 : 40 < d.args.length
      · have hI : decide ((40 : Int) < (d.args.length : Int)) = true := decide_eq_true (by omega)
        have HR := Lib.hid (wideD_3 h3)
        clear h1 h2 h3
        go_enter Tryz.func29, Tryz.ntmps29
        go_wp2_with fail
        refine HNM.out.mono ?_
        rintro e w1 ⟨rfl, rfl⟩
        go_wp2_with fail
        refine HRS.out.mono ?_
        rintro e w1 ⟨rfl, rfl⟩
        go_wp2_with fail
        go_ret
        exact ⟨ret_bool (by rw [HR.out]), HB.out⟩
      · have hI : decide ((40 : Int) < (d.args.length : Int)) = false := decide_eq_false (by omega)
        have HR := Lib.hid (wideD_4 h1 h2 h3)
        have HC := Lib.hid (containsLong_any A c d.args n₀ (w.alloc (.cells (dcells d A c) 61)) (by omega) HOK.out.2.2.2 HL.out)
        clear h1 h2 h3
        go_enter Tryz.func29, Tryz.ntmps29
        go_wp2_with fail
        refine HNM.out.mono ?_
        rintro e w1 ⟨rfl, rfl⟩
        go_wp2_with fail
        refine HRS.out.mono ?_
        rintro e w1 ⟨rfl, rfl⟩
        go_wp2_with fail
        refine HC.out.mono ?_
        rintro e w1 ⟨rfl, rfl⟩
        go_wp2_with fail
        all_goals
          go_ret
          exact ⟨ret_bool (by rw [HR.out]), HB.out⟩
    · rw [h2] at HRS
      have HR := Lib.hid (wideD_2 h2)
      clear h1 h2
      go_enter Tryz.func29, Tryz.ntmps29
      go_wp2_with fail
      refine HNM.out.mono ?_
      rintro e w1 ⟨rfl, rfl⟩
      go_wp2_with fail
      refine HRS.out.mono ?_
      rintro e w1 ⟨rfl, rfl⟩
      go_wp2_with fail
      go_ret
      exact ⟨ret_bool (by rw [HR.out]), HB.out⟩
  · rw [h1] at HNM
    have HR := Lib.hid (wideD_1 h1)
    clear h1
    go_enter Tryz.func29, Tryz.ntmps29
    go_wp2_with fail
    refine HNM.out.mono ?_
    rintro e w1 ⟨rfl, rfl⟩
    go_wp2_with fail
    go_ret
    exact ⟨ret_bool (by rw [HR.out]), HB.out⟩

set_option maxHeartbeats 2000000 in
theorem indexWide_any (A : Option Addr) (cap b : Nat) (L : List Dc) (n₀ : Nat) (w : World) (hlen : L.length ≤ 120) (hT : ∀ d, d ∈ L → okD d) (hl : SlD n₀ w A L) (hn : n₀ ≤ w.heap.size) (hbx : Boxed w b 57 longV) :
    Calls Tryz.prog 61 #[.slice A L.length cap, declV b] w fun e w' => ∃ r : Int, e = .returned (.int .i64 r) ∧ decide (0 ≤ r) = L.any wideD ∧ Below w.heap.size w w' := by
  have HL := Lib.hid hl
  have HX := Lib.hid hT
  have HBX := Lib.hid hbx
  clear hl hT hbx
  go_enter Tryz.func61, Tryz.ntmps61
  go_wp2_with fail
  go_loopw [8] (fun i wr => ∃ k : Nat, k ≤ L.length ∧ i = .int .i64 k ∧ (∀ (i : Nat) (u : Dc), i < k → L[i]? = some u → wideD u = false) ∧ Below w.heap.size w wr) (fun i _ => L.length - (intOf i).toNat)
  case atStart => exact ⟨0, by omega, rfl, fun i t hi => absurd hi (by omega), Below.refl _ _⟩
  case round =>
    obtain ⟨k, hk, rfl, hno, hbw⟩ := hrel
    have HN := Lib.hid hno
    have HB := Lib.hid hbw
    clear hno hbw
    by_cases hlt : k < L.length
    · obtain ⟨t, ht⟩ : ∃ t, L[k]? = some t := ⟨L[k], List.getElem?_eq_getElem hlt⟩
      obtain ⟨bb, off, hA, hblt, hc⟩ := HL.out (by omega)
      subst hA
      obtain ⟨A', c', h0, h1, h2, h3⟩ := hc k t ht
      replace h0 := ((HB.out.mono hn).cell (p := ⟨bb, _, none⟩) hblt).trans h0
      replace h1 := ((HB.out.mono hn).cell (p := ⟨bb, _, none⟩) hblt).trans h1
      replace h2 := ((HB.out.mono hn).cell (p := ⟨bb, _, none⟩) hblt).trans h2
      have HT := Lib.hid ht
      have hws := HB.out.size
      have HC := Lib.hid (wideD_any t A' c' n₀ b _ (HX.out t (List.mem_of_getElem? ht)) (h3.later (HB.out.mono hn)) (by omega) (boxed_below HBX.out HB.out))
      clear hc ht h3
      cases hbig : wideD t
      · rw [hbig] at HC
        have HBig := Lib.hid hbig
        clear hbig
        go_wp2_with fail
        refine HC.out.mono ?_
        rintro e w1 ⟨rfl, hb1⟩
        have HB1 := Lib.hid (HB.out.trans (hb1.mono HB.out.size))
        clear hb1 HC
        go_wp2_with fail
        go_roundw
        case rel => exact ⟨k + 1, by omega, by go_num, any_snoc L k t HT.out HBig.out HN.out, HB1.out⟩
        case measure => simp [intOf]; omega
      · rw [hbig] at HC
        have HBig := Lib.hid hbig
        clear hbig
        go_wp2_with fail
        refine HC.out.mono ?_
        rintro e w1 ⟨rfl, hb1⟩
        have HB1 := Lib.hid (HB.out.trans (hb1.mono HB.out.size))
        clear hb1 HC
        go_wp2_with fail
        go_ret
        exact ⟨_, rfl, by rw [any_hit L k t HT.out HBig.out]; simp, HB1.out⟩
    · have hkL : k = L.length := by omega
      have HE := Lib.hid (any_none L (hkL ▸ HN.out))
      clear hkL
      go_wp2_with fail
      go_ret
      exact ⟨_, rfl, by rw [HE.out]; rfl, HB.out⟩

set_option maxHeartbeats 400000 in
theorem containsWide_any (A : Option Addr) (cap b : Nat) (L : List Dc) (n₀ : Nat) (w : World) (hlen : L.length ≤ 120) (hT : ∀ d, d ∈ L → okD d) (hl : SlD n₀ w A L) (hn : n₀ ≤ w.heap.size) (hbx : Boxed w b 57 longV) :
    Calls Tryz.prog 28 #[.slice A L.length cap, declV b] w fun e w' => e = .returned (.bool (L.any wideD)) ∧ Below w.heap.size w w' := by
  have HC := Lib.hid (indexWide_any A cap b L n₀ w hlen hT hl hn hbx)
  clear hl hT hbx
  go_enter Tryz.func28, Tryz.ntmps28
  go_wp2_with fail
  refine HC.out.mono ?_
  rintro e w1 ⟨r, rfl, hr, hb⟩
  have HR := Lib.hid hr
  have HB := Lib.hid hb
  clear hr hb
  go_wp2
  all_goals
    go_ret
    exact ⟨ret_bool (by rw [← HR.out]), HB.out⟩

theorem wide_1 {g : Sg} (h : 60 < g.sorts.length) : wideB g = true := by unfold wideB; rw [decide_eq_true h]; rfl
theorem wide_2 {g : Sg} (h : 120 < g.ops.length) : wideB g = true := by unfold wideB; rw [decide_eq_true h]; simp
theorem wide_3 {g : Sg} (h : g.sorts.any longB = true) : wideB g = true := by unfold wideB; rw [h]; simp
theorem wide_4 {g : Sg} (h1 : ¬ 60 < g.sorts.length) (h2 : ¬ 120 < g.ops.length) (h3 : g.sorts.any longB = false) : wideB g = g.ops.any wideD := by unfold wideB; rw [h3, decide_eq_false h1, decide_eq_false h2]; rfl

set_option maxHeartbeats 2000000 in
theorem wide_any (g : Sg) (A1 : Option Addr) (c1 : Nat) (A2 : Option Addr) (c2 : Nat) (w : World) (hs : SlS w.heap.size w A1 g.sorts) (hd : SlD w.heap.size w A2 g.ops) (hok : okG g) :
    Calls Tryz.prog 5 #[GV g A1 c1 A2 c2] w fun e w' => e = .returned (.bool (wideB g)) ∧ Below w.heap.size w w' := by
  have hB1 := (Below.refl w.heap.size w).alloc (Nat.le_refl _) (.cells (gcells g A1 c1 A2 c2) 25)
  have hB := hB1.alloc (by simp) (.cells #[longV] 57)
  have hbg := (Below.heap_alloc (w.alloc (.cells (gcells g A1 c1 A2 c2) 25)) (.cells #[longV] 57) w.heap.size (by simp)).trans (heap_alloc_new w (.cells (gcells g A1 c1 A2 c2) 25))
  have hbx := Boxed.new (w.alloc (.cells (gcells g A1 c1 A2 c2) 25)) 57 longV
  rw [World.size_alloc] at hbx
  obtain ⟨⟨x0, x1⟩, _⟩ := blk2 hbg
  have c0 := hbx.cell
  have hls := hok.1.1
  have hlo := hok.2.1
  unfold maxLen at hls hlo
  have HS := Lib.hid (hs.later hB)
  have HD := Lib.hid (hd.later hB)
  have HOK := Lib.hid hok
  have HB := Lib.hid hB
  have HBX := Lib.hid hbx
  clear hs hd hok hB1 hB hbg hbx
  unfold GV
  go_enter Tryz.func5, Tryz.ntmps5
  by_cases h1 : 60 < g.sorts.length
  · have e1 : decide ((60 : Int) < (g.sorts.length : Int)) = true := decide_eq_true (by omega)
    have HR := Lib.hid (wide_1 h1)
    clear h1
    go_wp2_with fail
    go_ret
    exact ⟨ret_bool (by rw [HR.out]), HB.out⟩
  · have e1 : decide ((60 : Int) < (g.sorts.length : Int)) = false := decide_eq_false (by omega)
    by_cases h2 : 120 < g.ops.length
    · have e2 : decide ((120 : Int) < (g.ops.length : Int)) = true := decide_eq_true (by omega)
      have HR := Lib.hid (wide_2 h2)
      clear h1 h2
      go_wp2_with fail
      go_ret
      exact ⟨ret_bool (by rw [HR.out]), HB.out⟩
    · have e2 : decide ((120 : Int) < (g.ops.length : Int)) = false := decide_eq_false (by omega)
      have HC := Lib.hid (containsLong_any A1 c1 g.sorts w.heap.size _ (by omega) HOK.out.1.2 HS.out)
      cases h3 : g.sorts.any longB
      · have HR := Lib.hid (wide_4 h1 h2 h3)
        have HC2 := Lib.hid (containsWide_any A2 c2 (w.heap.size + 1) g.ops w.heap.size _ (by omega) HOK.out.2.2 HD.out (by simp; omega) HBX.out)
        rw [h3] at HC
        clear h1 h2 h3
        go_wp2_with fail
        refine HC.out.mono ?_
        rintro e w1 ⟨rfl, rfl⟩
        go_wp2_with fail
        refine HC2.out.mono ?_
        rintro e w2 ⟨rfl, hb2⟩
        have HB2 := Lib.hid (HB.out.trans (hb2.mono HB.out.size))
        clear hb2
        go_wp2_with fail
        all_goals
          go_ret
          exact ⟨ret_bool (by rw [HR.out]), HB2.out⟩
      · have HR := Lib.hid (wide_3 h3)
        rw [h3] at HC
        clear h1 h2 h3
        go_wp2_with fail
        refine HC.out.mono ?_
        rintro e w1 ⟨rfl, rfl⟩
        go_wp2_with fail
        go_ret
        exact ⟨ret_bool (by rw [HR.out]), HB.out⟩

theorem SlI.take {n₀ : Nat} {w : World} {A : Option Addr} {L : List Int} (h : SlI n₀ w A L) (n : Nat) : SlI n₀ w A (L.take n) := fun hl => by
  obtain ⟨b, off, rfl, hb, hc⟩ := h (by rw [List.length_take] at hl; omega)
  refine ⟨b, off, rfl, hb, fun i x hi => hc i x ?_⟩
  rw [List.getElem?_take] at hi
  split at hi
  · exact hi
  · cases hi
end Go.Proofs.YthbcfcbonmphfaaGreatDoor

namespace Go.Proofs.YthbcfcbonmphfaaGreatDoor
set_option maxRecDepth 100000
open Go.ChangeShapes Go.WideShapes Go.ChangeAt Go.WideMaps Go.WideElems Go.RowKit Go.Deep
section
variable {H : Type} {enc : TypeId × Value → H}
theorem some_list {α : Type} (len : Nat) (P : Nat → α → Prop) (h : ∀ i, i < len → ∃ t, P i t) : ∃ L : List α, L.length = len ∧ ∀ (i : Nat) (t : α), L[i]? = some t → P i t := by
  induction len with
  | zero => exact ⟨[], rfl, fun i t ht => by simp at ht⟩
  | succ n ih =>
    obtain ⟨L, hL, hP⟩ := ih (fun i hi => h i (by omega))
    obtain ⟨t, ht⟩ := h n (by omega)
    refine ⟨L ++ [t], by simp [hL], fun i u hu => ?_⟩
    rcases Nat.lt_or_ge i n with hi | hi
    · rw [List.getElem?_append_left (by omega)] at hu
      exact hP i u hu
    · rw [List.getElem?_append_right (by omega), hL] at hu
      have : i = n := by
        rcases Nat.eq_zero_or_pos (i - n) with h0 | h0
        · omega
        · rw [List.getElem?_eq_none (by simp; omega)] at hu; cases hu
      subst this
      simp at hu
      rw [← hu]
      exact ht
theorem spot_none {w : World} {b off : Nat} {spot : Option Nat} {i : Nat} {v : Value} (hi : i = 0) (h : w.cell? ((⟨b, off, spot⟩ : Addr).add i) = some v) : spot = none := by
  subst hi
  simpa [Addr.add] using World.cell?_spot h
theorem strs_cells {w : World} {spare : Nat → Bool} {held : Bool} {n : Nat} {c : Value} {x : DataW H × List MemPlace} (h : DataW.trod enc Tryz.prog w 0 spare held n 22 [c] = some x) :
    ∃ (A : Option Addr) (cap : Nat) (L : List ByteArray), c = .slice A L.length cap ∧ okS L ∧ SlS w.heap.size w A L := by
  have hC : Tryz.prog.cellsOf 9 = 1 := by kernel_rfl
  rcases open_slice1 Tryz.underlying22 hC h with ⟨hcs, _⟩ | ⟨a, len, cap, m, k, V, D, Pl, hcs, _, hl, hm, hmm, _, hi⟩
  · injection hcs with hcs
    exact ⟨none, 0, [], hcs, ⟨Nat.zero_le _, fun s hs => by cases hs⟩, fun h => absurd h (by simp)⟩
  · injection hcs with hcs
    have hlm : len ≤ m := by rw [hmm]; split <;> omega
    obtain ⟨L, hL, hP⟩ := some_list len (fun i t => w.cell? (a.add i) = some (.string t) ∧ t.size ≤ maxLen) (fun i hi' => by
      obtain ⟨h1, h2⟩ := hi i (by omega)
      obtain ⟨s, e0, _, hs⟩ := DataW.trod_string Tryz.underlying9 h2
      injection e0 with e0
      rw [e0] at h1
      exact ⟨s, h1, hs⟩)
    refine ⟨some a, cap, L, by rw [hL]; exact hcs, ⟨by omega, fun s hs => ?_⟩, fun hpos => ?_⟩
    · obtain ⟨i, hi'⟩ := List.getElem?_of_mem hs
      exact (hP i s hi').2
    · obtain ⟨b, off, spot⟩ := a
      have h0 : L[0]? = some L[0] := List.getElem?_eq_getElem hpos
      have hspot := spot_none rfl (hP 0 _ h0).1
      subst hspot
      have ad : ∀ n, (⟨b, off, none⟩ : Addr).add n = ⟨b, off + n, none⟩ := fun n => Go.WideShapes.add_plain ..
      refine ⟨b, off, rfl, ?_, fun i t ht => ?_⟩
      · have := (hP 0 _ h0).1
        rw [ad] at this
        exact World.block_lt_of_cell? w _ this
      · have c0 := (hP i t ht).1
        rw [ad] at c0
        exact c0
abbrev Dk := Dc × Option Addr × Nat
def dkW (x : Dk) : List Value := [.string x.1.nm, .slice x.2.1 x.1.args.length x.2.2, .string x.1.res]
theorem decl_cells {w : World} {spare : Nat → Bool} {held : Bool} {n : Nat} {cs : List Value} {x : DataW H × List MemPlace} (h : DataW.trod enc Tryz.prog w 0 spare held n 61 cs = some x) :
    ∃ k : Dk, cs = dkW k ∧ okD k.1 ∧ SlS w.heap.size w k.2.1 k.1.args := by
  have hC : Tryz.prog.cellsOf 61 = 3 := by kernel_rfl
  have hC9 : Tryz.prog.cellsOf 9 = 1 := by kernel_rfl
  have hC51 : Tryz.prog.cellsOf 22 = 1 := by kernel_rfl
  obtain ⟨xs, m, rfl, hx, hl3, hlen, hg⟩ := DataW.trod_struct Tryz.underlying61 h
  match cs, hl3.trans hC with
  | [c0, c1, c2], _ =>
    match xs, hlen with
    | [y0, y1, y2], _ =>
      have t0 : DataW.trod enc Tryz.prog w 0 spare held m 9 [c0] = some y0 := by simpa [hC9] using hg 0 _ rfl
      have t1 : DataW.trod enc Tryz.prog w 0 spare held m 22 [c1] = some y1 := by simpa [hC9, hC51] using hg 1 _ rfl
      have t2 : DataW.trod enc Tryz.prog w 0 spare held m 9 [c2] = some y2 := by simpa [hC9, hC51] using hg 2 _ rfl
      obtain ⟨nm, e0, _, hnm⟩ := DataW.trod_string Tryz.underlying9 t0
      obtain ⟨A, cap, L, rfl, hok, hs⟩ := strs_cells t1
      obtain ⟨res, e2, _, hres⟩ := DataW.trod_string Tryz.underlying9 t2
      simp at e0 e2
      subst e0 e2
      exact ⟨⟨⟨nm, L, res⟩, A, cap⟩, rfl, ⟨hnm, hres, hok⟩, hs⟩
theorem decls_cells {w : World} {spare : Nat → Bool} {held : Bool} {n : Nat} {c : Value} {x : DataW H × List MemPlace} (h : DataW.trod enc Tryz.prog w 0 spare held n 23 [c] = some x) :
    ∃ (A : Option Addr) (cap : Nat) (L : List Dc), c = .slice A L.length cap ∧ L.length ≤ maxLen ∧ (∀ d, d ∈ L → okD d) ∧ SlD w.heap.size w A L := by
  have hC : Tryz.prog.cellsOf 61 = 3 := by kernel_rfl
  rcases open_slice Tryz.underlying23 h with ⟨hcs, _⟩ | ⟨a, len, cap, m, k, D, Pl, hcs, _, hl, hm, hmm, _, hi⟩
  · injection hcs with hcs
    exact ⟨none, 0, [], hcs, Nat.zero_le _, (fun s hs => by cases hs), fun h => absurd h (by simp)⟩
  · injection hcs with hcs
    have hlm : len ≤ m := by rw [hmm]; split <;> omega
    obtain ⟨L, hL, hP⟩ := some_list len (fun i (k : Dk) => w.cells? 0 (a.add (i * 3)) 3 = some (dkW k) ∧ okD k.1 ∧ SlS w.heap.size w k.2.1 k.1.args) (fun i hi' => by
      obtain ⟨cs', h1, h2⟩ := hi i (by omega)
      rw [hC] at h1
      obtain ⟨k, rfl, h3, h4⟩ := decl_cells h2
      exact ⟨k, h1, h3, h4⟩)
    have cell : ∀ (i : Nat) (k : Dk), L[i]? = some k → ∀ j, j < 3 → w.cell? (a.add (i * 3 + j)) = (dkW k)[j]? := fun i k hk j hj => by
      obtain ⟨_, _, hat⟩ := World.cells?_some (hP i k hk).1
      rw [← add_add]
      exact hat j hj
    have hget : ∀ (i : Nat) (t : Dc), (L.map (·.1))[i]? = some t → ∃ k, L[i]? = some k ∧ k.1 = t := fun i t ht => by
      rw [List.getElem?_map] at ht
      cases hk : L[i]? with
      | none => rw [hk] at ht; cases ht
      | some k => rw [hk] at ht; injection ht with ht; exact ⟨k, rfl, ht⟩
    refine ⟨some a, cap, L.map (·.1), by rw [List.length_map, hL]; exact hcs, by rw [List.length_map, hL]; omega, fun d hd => ?_, fun hpos => ?_⟩
    · obtain ⟨y, hy, rfl⟩ := List.mem_map.1 hd
      obtain ⟨i, hi'⟩ := List.getElem?_of_mem hy
      exact (hP i y hi').2.1
    · rw [List.length_map] at hpos
      obtain ⟨b, off, spot⟩ := a
      have h0 : L[0]? = some L[0] := List.getElem?_eq_getElem hpos
      have hspot := spot_none rfl (cell 0 _ h0 0 (by omega))
      subst hspot
      have ad : ∀ n, (⟨b, off, none⟩ : Addr).add n = ⟨b, off + n, none⟩ := fun n => Go.WideShapes.add_plain ..
      refine ⟨b, off, rfl, ?_, fun i t ht => ?_⟩
      · have := cell 0 _ h0 0 (by omega)
        rw [ad] at this
        exact World.block_lt_of_cell? w _ this
      · obtain ⟨k, hk, rfl⟩ := hget i t ht
        have c0 := cell i k hk 0 (by omega)
        have c1 := cell i k hk 1 (by omega)
        have c2 := cell i k hk 2 (by omega)
        rw [ad] at c0 c1 c2
        exact ⟨k.2.1, k.2.2, c0, c1, c2, (hP i k hk).2.2⟩
/-- A signature that came in. -/
theorem open_sig {w : World} {spare : Nat → Bool} {held : Bool} {r : Reach} {b0 : Nat} {v : Value} {d : DataW H} {p : List MemPlace}
    (hv : Value.okWide Tryz.prog w r b0 25 v) (h : DataW.Trod enc Tryz.prog w 0 spare held 25 v d p) :
    ∃ (g : Sg) (A1 : Option Addr) (c1 : Nat) (A2 : Option Addr) (c2 : Nat), v = GV g A1 c1 A2 c2 ∧ okG g ∧ SlS w.heap.size w A1 g.sorts ∧ SlD w.heap.size w A2 g.ops := by
  obtain ⟨cs, rfl, hsz⟩ := okWide_struct Tryz.underlying25 hv
  obtain ⟨fuel, hf⟩ := h
  have hC : Tryz.prog.cellsOf 25 = 2 := by kernel_rfl
  have hC51 : Tryz.prog.cellsOf 22 = 1 := by kernel_rfl
  have hC80 : Tryz.prog.cellsOf 23 = 1 := by kernel_rfl
  obtain ⟨xs, m, rfl, hx, hl2, hlen, hg⟩ := DataW.trod_struct Tryz.underlying25 hf
  obtain ⟨cs⟩ := cs
  simp [Value.cells] at hl2 hg
  match cs, hl2.trans hC with
  | [c0, c1], _ =>
    match xs, hlen with
    | [y0, y1], _ =>
      have t0 : DataW.trod enc Tryz.prog w 0 spare held m 22 [c0] = some y0 := by simpa [hC51] using hg 0 _ rfl
      have t1 : DataW.trod enc Tryz.prog w 0 spare held m 23 [c1] = some y1 := by simpa [hC51, hC80] using hg 1 _ rfl
      obtain ⟨A1, n1, L1, rfl, h1, h2⟩ := strs_cells t0
      obtain ⟨A2, n2, L2, rfl, h3, h4, h5⟩ := decls_cells t1
      exact ⟨⟨L1, L2⟩, A1, n1, A2, n2, rfl, ⟨h1, h3, h4⟩, h2, h5⟩
/-- A path that came in. -/
theorem open_ints {w : World} {spare : Nat → Bool} {held : Bool} {r : Reach} {b0 : Nat} {v : Value} {d : DataW H} {p : List MemPlace}
    (hv : Value.okWide Tryz.prog w r b0 50 v) (h : DataW.Trod enc Tryz.prog w 0 spare held 50 v d p) :
    ∃ (A : Option Addr) (cap : Nat) (L : List Int), v = .slice A L.length cap ∧ L.length ≤ cap ∧ cap ≤ maxLen ∧ SlI w.heap.size w A L := by
  obtain ⟨a0, len0, cap0, rfl⟩ := okWide_slice Tryz.underlying50 hv
  obtain ⟨fuel, hf⟩ := h
  have hC : Tryz.prog.cellsOf 3 = 1 := by kernel_rfl
  rcases open_slice Tryz.underlying50 hf with ⟨hcs, _⟩ | ⟨a, len, cap, m, n, D, Pl, hcs, _, hl, hm, hmm, _, hi⟩
  · simp [Value.cells] at hcs
    obtain ⟨rfl, rfl, rfl⟩ := hcs
    exact ⟨none, 0, [], rfl, Nat.le_refl _, Nat.zero_le _, fun h => absurd h (by simp)⟩
  · simp [Value.cells] at hcs
    obtain ⟨rfl, rfl, rfl⟩ := hcs
    have hlm : len0 ≤ m := by rw [hmm]; split <;> omega
    obtain ⟨L, hL, hP⟩ := some_list len0 (fun i t => w.cells? 0 (a.add (i * 1)) 1 = some [.int .i64 t]) (fun i hi' => by
      obtain ⟨cs', hc, ht'⟩ := hi i (by omega)
      rw [hC] at hc
      obtain ⟨k, e0, _, hin⟩ := DataW.trod_int Tryz.underlying3 ht'
      subst e0
      exact ⟨k, hc⟩)
    refine ⟨some a, cap0, L, by rw [hL], by omega, hm, fun hpos => ?_⟩
    obtain ⟨b, off, spot⟩ := a
    have cell : ∀ (i : Nat) (t : Int), L[i]? = some t → w.cell? ((⟨b, off, spot⟩ : Addr).add i) = some (.int .i64 t) := fun i t ht => by
      obtain ⟨_, _, hat⟩ := World.cells?_some (hP i t ht)
      have := hat 0 (by omega)
      rw [add_add] at this
      simpa using this
    have hspot : spot = none := by
      have h0 : L[0]? = some L[0] := List.getElem?_eq_getElem hpos
      have := cell 0 _ h0
      simpa [Addr.add] using World.cell?_spot this
    subst hspot
    have ad : ∀ n, (⟨b, off, none⟩ : Addr).add n = ⟨b, off + n, none⟩ := fun n => Go.WideShapes.add_plain ..
    refine ⟨b, off, rfl, ?_, fun i t ht => ?_⟩
    · have h0 : L[0]? = some L[0] := List.getElem?_eq_getElem hpos
      have := cell 0 _ h0
      rw [ad] at this
      exact World.block_lt_of_cell? w _ this
    · have c0 := cell i t ht
      rw [ad] at c0
      exact c0
end
end Go.Proofs.YthbcfcbonmphfaaGreatDoor
namespace Go.Proofs.YthbcfcbonmphfaaGreatDoor
set_option maxRecDepth 100000
open Go.ChangeShapes Go.WideShapes Go.ChangeAt Go.WideMaps Go.WideElems Go.RowKit Go.Deep
section
variable {H : Type} {enc : TypeId × Value → H}
theorem strs_cells2 {w : World} {spare : Nat → Bool} {held : Bool} {n : Nat} {c : Value} {x : DataW H × List MemPlace} (h : DataW.trod enc Tryz.prog w 0 spare held n 22 [c] = some x) :
    ∃ (A : Option Addr) (cap : Nat) (L : List ByteArray), c = .slice A L.length cap ∧ okS L ∧ SlS w.heap.size w A L ∧ L.length ≤ cap ∧ cap ≤ maxLen := by
  have hC : Tryz.prog.cellsOf 9 = 1 := by kernel_rfl
  rcases open_slice1 Tryz.underlying22 hC h with ⟨hcs, _⟩ | ⟨a, len, cap, m, k, V, D, Pl, hcs, _, hl, hm, hmm, _, hi⟩
  · injection hcs with hcs
    exact ⟨none, 0, [], hcs, ⟨Nat.zero_le _, fun s hs => by cases hs⟩, fun h => absurd h (by simp), Nat.le_refl _, Nat.zero_le _⟩
  · injection hcs with hcs
    have hlm : len ≤ m := by rw [hmm]; split <;> omega
    obtain ⟨L, hL, hP⟩ := some_list len (fun i t => w.cell? (a.add i) = some (.string t) ∧ t.size ≤ maxLen) (fun i hi' => by
      obtain ⟨h1, h2⟩ := hi i (by omega)
      obtain ⟨s, e0, _, hs⟩ := DataW.trod_string Tryz.underlying9 h2
      injection e0 with e0
      rw [e0] at h1
      exact ⟨s, h1, hs⟩)
    refine ⟨some a, cap, L, by rw [hL]; exact hcs, ⟨by omega, fun s hs => ?_⟩, fun hpos => ?_, by omega, hm⟩
    · obtain ⟨i, hi'⟩ := List.getElem?_of_mem hs
      exact (hP i s hi').2
    · obtain ⟨b, off, spot⟩ := a
      have h0 : L[0]? = some L[0] := List.getElem?_eq_getElem hpos
      have hspot := spot_none rfl (hP 0 _ h0).1
      subst hspot
      have ad : ∀ n, (⟨b, off, none⟩ : Addr).add n = ⟨b, off + n, none⟩ := fun n => Go.WideShapes.add_plain ..
      refine ⟨b, off, rfl, ?_, fun i t ht => ?_⟩
      · have := (hP 0 _ h0).1
        rw [ad] at this
        exact World.block_lt_of_cell? w _ this
      · have c0 := (hP i t ht).1
        rw [ad] at c0
        exact c0
theorem decl_cells2 {w : World} {spare : Nat → Bool} {held : Bool} {n : Nat} {cs : List Value} {x : DataW H × List MemPlace} (h : DataW.trod enc Tryz.prog w 0 spare held n 61 cs = some x) :
    ∃ k : Dk, cs = dkW k ∧ okD k.1 ∧ SlS w.heap.size w k.2.1 k.1.args ∧ k.1.args.length ≤ k.2.2 := by
  have hC : Tryz.prog.cellsOf 61 = 3 := by kernel_rfl
  have hC9 : Tryz.prog.cellsOf 9 = 1 := by kernel_rfl
  have hC51 : Tryz.prog.cellsOf 22 = 1 := by kernel_rfl
  obtain ⟨xs, m, rfl, hx, hl3, hlen, hg⟩ := DataW.trod_struct Tryz.underlying61 h
  match cs, hl3.trans hC with
  | [c0, c1, c2], _ =>
    match xs, hlen with
    | [y0, y1, y2], _ =>
      have t0 : DataW.trod enc Tryz.prog w 0 spare held m 9 [c0] = some y0 := by simpa [hC9] using hg 0 _ rfl
      have t1 : DataW.trod enc Tryz.prog w 0 spare held m 22 [c1] = some y1 := by simpa [hC9, hC51] using hg 1 _ rfl
      have t2 : DataW.trod enc Tryz.prog w 0 spare held m 9 [c2] = some y2 := by simpa [hC9, hC51] using hg 2 _ rfl
      obtain ⟨nm, e0, _, hnm⟩ := DataW.trod_string Tryz.underlying9 t0
      obtain ⟨A, cap, L, rfl, hok, hs, hcl, _⟩ := strs_cells2 t1
      obtain ⟨res, e2, _, hres⟩ := DataW.trod_string Tryz.underlying9 t2
      simp at e0 e2
      subst e0 e2
      exact ⟨⟨⟨nm, L, res⟩, A, cap⟩, rfl, ⟨hnm, hres, hok⟩, hs, hcl⟩
theorem decls_cells2 {w : World} {spare : Nat → Bool} {held : Bool} {n : Nat} {c : Value} {x : DataW H × List MemPlace} (h : DataW.trod enc Tryz.prog w 0 spare held n 23 [c] = some x) :
    ∃ (A : Option Addr) (cap : Nat) (L : List Dc), c = .slice A L.length cap ∧ L.length ≤ maxLen ∧ (∀ d, d ∈ L → okD d) ∧ SlD w.heap.size w A L ∧ ∀ (i : Nat) (d : Dc) (b off : Nat) (A' : Option Addr) (c' : Nat), L[i]? = some d → A = some ⟨b, off, none⟩ → w.cell? ⟨b, off + i * 3 + 1, none⟩ = some (.slice A' d.args.length c') → d.args.length ≤ c' := by
  have hC : Tryz.prog.cellsOf 61 = 3 := by kernel_rfl
  rcases open_slice Tryz.underlying23 h with ⟨hcs, _⟩ | ⟨a, len, cap, m, k, D, Pl, hcs, _, hl, hm, hmm, _, hi⟩
  · injection hcs with hcs
    exact ⟨none, 0, [], hcs, Nat.zero_le _, (fun s hs => by cases hs), fun h => absurd h (by simp), fun i d b off A' c' h => by simp at h⟩
  · injection hcs with hcs
    have hlm : len ≤ m := by rw [hmm]; split <;> omega
    obtain ⟨L, hL, hP⟩ := some_list len (fun i (k : Dk) => w.cells? 0 (a.add (i * 3)) 3 = some (dkW k) ∧ okD k.1 ∧ SlS w.heap.size w k.2.1 k.1.args ∧ k.1.args.length ≤ k.2.2) (fun i hi' => by
      obtain ⟨cs', h1, h2⟩ := hi i (by omega)
      rw [hC] at h1
      obtain ⟨k, rfl, h3, h4, h5⟩ := decl_cells2 h2
      exact ⟨k, h1, h3, h4, h5⟩)
    have cell : ∀ (i : Nat) (k : Dk), L[i]? = some k → ∀ j, j < 3 → w.cell? (a.add (i * 3 + j)) = (dkW k)[j]? := fun i k hk j hj => by
      obtain ⟨_, _, hat⟩ := World.cells?_some (hP i k hk).1
      rw [← add_add]
      exact hat j hj
    have hget : ∀ (i : Nat) (t : Dc), (L.map (·.1))[i]? = some t → ∃ k, L[i]? = some k ∧ k.1 = t := fun i t ht => by
      rw [List.getElem?_map] at ht
      cases hk : L[i]? with
      | none => rw [hk] at ht; cases ht
      | some k => rw [hk] at ht; injection ht with ht; exact ⟨k, rfl, ht⟩
    refine ⟨some a, cap, L.map (·.1), by rw [List.length_map, hL]; exact hcs, by rw [List.length_map, hL]; omega, fun d hd => ?_, fun hpos => ?_, fun i t b off A' c' ht hab hc => ?_⟩
    · obtain ⟨y, hy, rfl⟩ := List.mem_map.1 hd
      obtain ⟨i, hi'⟩ := List.getElem?_of_mem hy
      exact (hP i y hi').2.1
    · rw [List.length_map] at hpos
      obtain ⟨b, off, spot⟩ := a
      have h0 : L[0]? = some L[0] := List.getElem?_eq_getElem hpos
      have hspot := spot_none rfl (cell 0 _ h0 0 (by omega))
      subst hspot
      have ad : ∀ n, (⟨b, off, none⟩ : Addr).add n = ⟨b, off + n, none⟩ := fun n => Go.WideShapes.add_plain ..
      refine ⟨b, off, rfl, ?_, fun i t ht => ?_⟩
      · have := cell 0 _ h0 0 (by omega)
        rw [ad] at this
        exact World.block_lt_of_cell? w _ this
      · obtain ⟨k, hk, rfl⟩ := hget i t ht
        have c0 := cell i k hk 0 (by omega)
        have c1 := cell i k hk 1 (by omega)
        have c2 := cell i k hk 2 (by omega)
        rw [ad] at c0 c1 c2
        exact ⟨k.2.1, k.2.2, c0, c1, c2, (hP i k hk).2.2.1⟩
    · obtain ⟨k, hk, rfl⟩ := hget i t ht
      injection hab with hab
      subst hab
      have c1 := cell i k hk 1 (by omega)
      rw [show (⟨b, off, none⟩ : Addr).add (i * 3 + 1) = ⟨b, off + (i * 3 + 1), none⟩ from Go.WideShapes.add_plain .., ← Nat.add_assoc, hc] at c1
      simp [dkW] at c1
      rw [c1.2]
      exact (hP i k hk).2.2.2
/-- A signature that came in. -/
theorem open_sig2 {w : World} {spare : Nat → Bool} {held : Bool} {r : Reach} {b0 : Nat} {v : Value} {d : DataW H} {p : List MemPlace}
    (hv : Value.okWide Tryz.prog w r b0 25 v) (h : DataW.Trod enc Tryz.prog w 0 spare held 25 v d p) :
    ∃ (g : Sg) (A1 : Option Addr) (c1 : Nat) (A2 : Option Addr) (c2 : Nat), v = GV g A1 c1 A2 c2 ∧ okG g ∧ SlS w.heap.size w A1 g.sorts ∧ SlD w.heap.size w A2 g.ops ∧ g.sorts.length ≤ c1 ∧ c1 ≤ maxLen ∧ ∀ (i : Nat) (d : Dc) (b off : Nat) (A' : Option Addr) (c' : Nat), g.ops[i]? = some d → A2 = some ⟨b, off, none⟩ → w.cell? ⟨b, off + i * 3 + 1, none⟩ = some (.slice A' d.args.length c') → d.args.length ≤ c' := by
  obtain ⟨cs, rfl, hsz⟩ := okWide_struct Tryz.underlying25 hv
  obtain ⟨fuel, hf⟩ := h
  have hC : Tryz.prog.cellsOf 25 = 2 := by kernel_rfl
  have hC51 : Tryz.prog.cellsOf 22 = 1 := by kernel_rfl
  have hC80 : Tryz.prog.cellsOf 23 = 1 := by kernel_rfl
  obtain ⟨xs, m, rfl, hx, hl2, hlen, hg⟩ := DataW.trod_struct Tryz.underlying25 hf
  obtain ⟨cs⟩ := cs
  simp [Value.cells] at hl2 hg
  match cs, hl2.trans hC with
  | [c0, c1], _ =>
    match xs, hlen with
    | [y0, y1], _ =>
      have t0 : DataW.trod enc Tryz.prog w 0 spare held m 22 [c0] = some y0 := by simpa [hC51] using hg 0 _ rfl
      have t1 : DataW.trod enc Tryz.prog w 0 spare held m 23 [c1] = some y1 := by simpa [hC51, hC80] using hg 1 _ rfl
      obtain ⟨A1, n1, L1, rfl, h1, h2, h6, h7⟩ := strs_cells2 t0
      obtain ⟨A2, n2, L2, rfl, h3, h4, h5, h8⟩ := decls_cells2 t1
      exact ⟨⟨L1, L2⟩, A1, n1, A2, n2, rfl, ⟨h1, h3, h4⟩, h2, h5, h6, h7, h8⟩
end
end Go.Proofs.YthbcfcbonmphfaaGreatDoor
