/- Comparing two terms: strings.Compare off the shelf, cmp.Or, cmp.Compare, compare. -/
import Derived.Deep.RegionWith
import Derived.Test.YthbcfcbonmphfaaGreatDoorTermGBundle
import Derived.Shelf.Small.Strs
import Derived.StillTailTactics
import Derived.Test.YthbcfcbonmphfaaGreatDoorTermDBundle
/- knownOf, ownSort, check. -/
namespace Go.Proofs.YthbcfcbonmphfaaGreatDoor
open Go.RowKit Go.Shelf
set_option maxRecDepth 100000

def lookD (L : List Dc) (s : ByteArray) : Option Dc := L.reverse.find? (fun d => decide (d.nm = s))
theorem lookD_snoc (L : List Dc) (d : Dc) (s : ByteArray) : lookD (L ++ [d]) s = if d.nm = s then some d else lookD L s := by
  unfold lookD
  rw [List.reverse_append, List.reverse_cons, List.reverse_nil, List.nil_append, List.cons_append, List.nil_append, List.find?_cons]
  by_cases h : d.nm = s
  · rw [if_pos h, decide_eq_true h]
  · rw [if_neg h, decide_eq_false h]
theorem lookD_mem {L : List Dc} {s : ByteArray} {d : Dc} (h : lookD L s = some d) : d ∈ L ∧ d.nm = s := by
  unfold lookD at h
  exact ⟨List.mem_reverse.1 (List.mem_of_find?_eq_some h), by simpa using List.find?_some h⟩
/-- The own sort of a node, and whether it has one. -/
def ownS (L : List Dc) (t : Tm) : ByteArray × Bool := if isV t then (t.st, true) else match lookD L t.nm with | none => (⟨#[]⟩, false) | some d => (d.res, true)
def DV (d : Dc) (A : Option Addr) (c : Nat) : Value := .agg #[.string d.nm, .slice A d.args.length c, .string d.res]
/-- The map of a signature's operations. -/
def FM (n₀ : Nat) (w : World) (f : List UInt8 → Option Value) (L : List Dc) : Prop :=
  ∀ s : ByteArray, (lookD L s = none → f s.data.toList = none) ∧ ∀ d, lookD L s = some d → ∃ A c, f s.data.toList = some (DV d A c) ∧ SlS n₀ w A d.args
theorem FM.later {n₀ : Nat} {w w' : World} (hb : Below n₀ w w') {f : List UInt8 → Option Value} {L : List Dc} (h : FM n₀ w f L) : FM n₀ w' f L := fun s =>
  ⟨(h s).1, fun d hd => by obtain ⟨A, c, h1, h2⟩ := (h s).2 d hd; exact ⟨A, c, h1, h2.later hb⟩⟩
theorem FM.nil (n₀ : Nat) (w : World) : FM n₀ w (fun _ => none) [] := fun s => ⟨fun _ => rfl, fun d h => by simp [lookD] at h⟩
theorem FM.snoc {n₀ : Nat} {w : World} {f : List UInt8 → Option Value} {L : List Dc} (h : FM n₀ w f L) (d : Dc) (A : Option Addr) (c : Nat) (hs : SlS n₀ w A d.args) :
    FM n₀ w (fun x => if x = d.nm.data.toList then some (DV d A c) else f x) (L ++ [d]) := fun s => by
  rw [lookD_snoc]
  by_cases he : d.nm = s
  · subst he
    simp only [if_true]
    exact ⟨fun h => by simp at h, fun d' h => by injection h with h; subst h; exact ⟨A, c, rfl, hs⟩⟩
  · have hne : ¬ s.data.toList = d.nm.data.toList := fun e => he (toList_inj e).symm
    simp only [if_neg he, if_neg hne]
    exact h s

def KInv (g : Sg) (A1 : Option Addr) (c1 : Nat) (w : World) (k : Nat) (wr : World) : Prop :=
  ∃ f, k ≤ g.ops.length ∧ SMap wr (w.heap.size + 1 + 1) k f ∧ FM w.heap.size w f (g.ops.take k) ∧ Below w.heap.size w wr ∧
    wr.heap[w.heap.size + 1]? = some (.cells #[.slice none 0 0, .map none] 66 (0, 0)) ∧ wr.heap[w.heap.size + 1 + 1 + 1]? = some (.cells #[.slice A1 g.sorts.length c1, .map (some (w.heap.size + 1 + 1))] 66 (0, 0))

def knownPost (g : Sg) (A1 : Option Addr) (c1 : Nat) (w : World) (e : Ending) (w' : World) : Prop :=
  (∃ b f, e = .returned (.agg #[.slice A1 g.sorts.length c1, .map (some b)]) ∧ w.heap.size ≤ b ∧ SMap w' b g.ops.length f ∧ FM w.heap.size w f g.ops) ∧ Below w.heap.size w w'

set_option maxHeartbeats 2000000 in
theorem knownOf_any (g : Sg) (A1 : Option Addr) (c1 : Nat) (A2 : Option Addr) (c2 : Nat) (w : World) (hd : SlD w.heap.size w A2 g.ops) (hok : okG g) :
    Calls Tryz.prog 32 #[GV g A1 c1 A2 c2] w (knownPost g A1 c1 w) := by
  have HD := Lib.hid hd
  have HOK := Lib.hid hok
  have hl2 := hok.2.1
  unfold maxLen at hl2
  have hmm := @run_makeMap Tryz.prog
  clear hd hok
  unfold GV
  go_enter Tryz.func32, Tryz.ntmps32
  go_wp2_with fail
  go_loopw [13] (fun y wr => ∃ k : Nat, y = .int .i64 k ∧ KInv g A1 c1 w k wr) (fun y _ => g.ops.length - (intOf y).toNat)
  case atStart =>
    refine ⟨0, rfl, _, Nat.zero_le _, ?_, FM.nil _ _, ?_, ?_, ?_⟩
    · have h := SMap.made ((w.alloc (.cells (gcells g A1 c1 A2 c2) 25)).alloc (.cells #[.slice none 0 0, .map none] 66))
      simp only [World.size_alloc] at h
      exact h.kept (World.grownBy_alloc _ _ none) (by simp)
    · exact ((((Below.refl _ _).alloc (Nat.le_refl _) _).alloc (by simp) _).alloc (by simp; omega) _).alloc (by simp; omega) _
    · have h := heap_alloc_new (w.alloc (.cells (gcells g A1 c1 A2 c2) 25)) (.cells #[.slice none 0 0, .map none] 66)
      simp only [World.size_alloc] at h
      exact (Below.heap_alloc _ _ _ (by simp)).trans ((Below.heap_alloc _ _ _ (by simp)).trans h)
    · have h := heap_alloc_new (((w.alloc (.cells (gcells g A1 c1 A2 c2) 25)).alloc (.cells #[.slice none 0 0, .map none] 66)).alloc (.map #[] 0)) (.cells #[.slice A1 g.sorts.length c1, .map (some (w.heap.size + 1 + 1))] 66)
      simp only [World.size_alloc] at h
      exact h
  case round =>
    clear hmm
    obtain ⟨k, rfl, f, hk, hsm, hfm, hbw, hr, hb⟩ := hrel
    have HSM := Lib.hid hsm
    have HFM := Lib.hid hfm
    have HBW := Lib.hid hbw
    have HR := Lib.hid hr
    have HB := Lib.hid hb
    have hlr := (Array.getElem?_eq_some_iff.1 hb).1
    clear hsm hfm hbw hr hb
    by_cases hlt : k < g.ops.length
    · obtain ⟨d, hd⟩ : ∃ d, g.ops[k]? = some d := ⟨g.ops[k]'hlt, List.getElem?_eq_getElem _⟩
      obtain ⟨b, off, rfl, hbl, hc⟩ := HD.out (by omega)
      obtain ⟨A', c', d0, d1, d2, d3⟩ := hc k d hd
      replace d0 := (HBW.out.cell (p := ⟨b, _, none⟩) hbl).trans d0
      replace d1 := (HBW.out.cell (p := ⟨b, _, none⟩) hbl).trans d1
      replace d2 := (HBW.out.cell (p := ⟨b, _, none⟩) hbl).trans d2
      have HDS := Lib.hid d3
      have hnm := (HOK.out.2.2 d (List.mem_of_getElem? hd)).1
      obtain ⟨W2, hup, hs2, hg2⟩ := (HSM.out.kept (World.grownBy_alloc wr (.cells #[.string d.nm, .slice A' d.args.length c', .string d.res] 61) none) (by simp)).update Tryz.underlying64 (by unfold maxLen; omega) hnm (.agg #[.string d.nm, .slice A' d.args.length c', .string d.res])
      have HS2 := Lib.hid hs2
      have HG2 := Lib.hid hg2
      have HDD := Lib.hid hd
      have hI : (k : Int) < (g.ops.length : Int) := by omega
      obtain ⟨⟨x0, x1⟩, _⟩ := blk2 ((Below.heap_alloc wr (.cells #[.string d.nm, .slice A' d.args.length c', .string d.res] 61) _ hlr).trans HB.out)
      clear hc hd d3 hnm hs2 hg2
      go_wp2_with fail
      go_roundw
      case rel =>
        have hgs := HG2.out.size
        simp at hgs
        have hw := HBW.out.size
        refine ⟨k + 1, by go_num, _, by omega, HS2.out, ?_, ?_, ?_, ?_⟩
        · rw [List.take_add_one, HDD.out]
          exact HFM.out.snoc d A' c' HDS.out
        · exact (HBW.out.alloc hw _).grown HG2.out (by simp; omega) (fun j e => by cases e; omega)
        · exact (HG2.out.block _ (by simp; omega) (fun e => by injection e with e; omega)).trans ((Below.heap_alloc _ _ _ (by omega)).trans HR.out)
        · exact (HG2.out.block _ (by simp; omega) (fun e => by injection e with e; omega)).trans ((Below.heap_alloc _ _ _ hlr).trans HB.out)
      case measure => simp [intOf]; omega
    · have hkl : k = g.ops.length := by omega
      have hI : ¬ (k : Int) < (g.ops.length : Int) := by omega
      have HKL := Lib.hid hkl
      obtain ⟨⟨x0, x1⟩, _⟩ := blk2 HB.out
      obtain ⟨⟨r0, r1⟩, rf0, rf1⟩ := blk2 HR.out
      clear hkl hlt hk
      go_wp2_with fail
      refine bodyPost_ret (v := .agg #[.slice A1 g.sorts.length c1, .map (some (w.heap.size + 1 + 1))]) (by simp [results, Tryz.results32, go_sem, r0, r1]) rfl ?_
      refine ⟨⟨_, f, rfl, by omega, ?_, ?_⟩, ?_⟩
      · rw [← HKL.out]
        exact (HSM.out.setCell (a := ⟨w.heap.size + 1, 0, none⟩) (by simp) _).setCell (a := ⟨w.heap.size + 1, 1, none⟩) (by simp) _
      · have h := HFM.out
        rw [HKL.out, List.take_length] at h
        exact h
      · exact (HBW.out.setCell (p := ⟨w.heap.size + 1, 0, none⟩) (by simp) _).setCell (p := ⟨w.heap.size + 1, 1, none⟩) (by simp) _

/-- A known as a value. -/
def KV (g : Sg) (A1 : Option Addr) (c1 b : Nat) : Value := .agg #[.slice A1 g.sorts.length c1, .map (some b)]
/-- The map of a known in memory, in a block below n₀. -/
def KM (n₀ : Nat) (w : World) (b : Nat) (g : Sg) : Prop := ∃ f m, SMap w b m f ∧ FM n₀ w f g.ops ∧ b < n₀
theorem KM.later {n₀ : Nat} {w w' : World} (hb : Below n₀ w w') {b : Nat} {g : Sg} (h : KM n₀ w b g) : KM n₀ w' b g := by
  obtain ⟨f, m, h1, h2, h3⟩ := h
  exact ⟨f, m, h1.below hb h3, h2.later hb, h3⟩

set_option maxHeartbeats 1000000 in
theorem ownSort_any (g : Sg) (A1 : Option Addr) (c1 b : Nat) (t : Tm) (A : Option Addr) (c n₀ : Nat) (w : World) (hk : KM n₀ w b g) (hn : n₀ ≤ w.heap.size) (hnm : t.nm.size ≤ maxLen) :
    Calls Tryz.prog 35 #[KV g A1 c1 b, TV t A c] w fun e w' => e = .returned (.tuple #[.string (ownS g.ops t).1, .bool (ownS g.ops t).2]) ∧ Below w.heap.size w w' := by
  obtain ⟨f, m, hsm, hfm, hbn⟩ := hk
  have HSM := Lib.hid hsm
  have HFM := Lib.hid hfm
  have HNM := Lib.hid hnm
  have hO : ∀ v, isV t = v → ownS g.ops t = if v then (t.st, true) else match lookD g.ops t.nm with | none => (⟨#[]⟩, false) | some d => (d.res, true) := fun v h => by rw [← h]; rfl
  have HO := Lib.hid hO
  clear hsm hfm hnm hO
  unfold KV TV
  go_enter Tryz.func35, Tryz.ntmps35
  go_wp2_with fail
  refine (isVariable_any t A c _).mono ?_
  rintro e w1 ⟨rfl, hb1⟩
  have hs0 := hb1.size
  simp at hs0
  have HB1 := Lib.hid (((((Below.refl w.heap.size w).alloc (Nat.le_refl _) (.cells #[.slice A1 g.sorts.length c1, .map (some b)] 66)).alloc (by simp) (.cells (tcells t A c) 28))).trans (hb1.mono (by simp; omega)))
  have hbk := cells_below ((Below.heap_alloc _ (.cells (tcells t A c) 28) _ (by simp)).trans (heap_alloc_new w (.cells #[.slice A1 g.sorts.length c1, .map (some b)] 66))) hb1
  have hbt := heap_alloc_new (w.alloc (.cells #[.slice A1 g.sorts.length c1, .map (some b)] 66)) (.cells (tcells t A c) 28)
  simp only [World.size_alloc] at hbt
  replace hbt := cells_below hbt hb1
  obtain ⟨⟨x0, x1⟩, _⟩ := blk2 hbk
  obtain ⟨⟨y0, y1, y2⟩, _⟩ := blk3 hbt
  clear hb1 hbk hbt
  generalize hv : isV t = v at *
  cases v
  · have hsm1 := HSM.out.below HB1.out (by omega)
    have hlk := hsm1.lookup Tryz.underlying64 (Tryz.zeroValue61 w1) HNM.out
    cases hl : lookD g.ops t.nm with
    | none =>
      rw [(HFM.out t.nm).1 hl] at hlk
      simp only [Option.getD, Option.isSome] at hlk
      have HL := Lib.hid hl
      clear hl hsm1
      go_wp2_with fail
      go_ret2
      exact ⟨by rw [HO.out false rfl, HL.out]; rfl, HB1.out.alloc (by omega) _⟩
    | some d =>
      obtain ⟨A', c', hf, _⟩ := (HFM.out t.nm).2 d hl
      rw [hf] at hlk
      simp only [Option.getD, Option.isSome] at hlk
      unfold DV at hlk
      have HL := Lib.hid hl
      clear hl hsm1 hf
      go_wp2_with fail
      go_ret2
      exact ⟨by rw [HO.out false rfl, HL.out]; rfl, HB1.out.alloc (by omega) _⟩
  · go_wp2_with fail
    go_ret2
    exact ⟨by rw [HO.out true rfl]; rfl, HB1.out⟩

/-- What is wrong with a node. -/
def chkArgs (L : List Dc) : List Tm → List ByteArray → Bool
  | k :: ks, a :: bs => if (ownS L k).2 = true ∧ (ownS L k).1 ≠ a then false else chkArgs L ks bs
  | _, _ => true
def chk (g : Sg) (t : Tm) : Int := if isV t then (if memS t.st g.sorts then 0 else 9) else match lookD g.ops t.nm with | none => 9 | some d => if t.ks.length ≠ d.args.length then 3 else if chkArgs g.ops t.ks d.args then 0 else 11
theorem chk_v {g : Sg} {t : Tm} (h : isV t = true) : chk g t = if memS t.st g.sorts then 0 else 9 := by unfold chk; rw [h]; rfl
theorem chk_none {g : Sg} {t : Tm} (h : isV t = false) (hl : lookD g.ops t.nm = none) : chk g t = 9 := by unfold chk; rw [h, hl]; rfl
theorem chk_some {g : Sg} {t : Tm} {d : Dc} (h : isV t = false) (hl : lookD g.ops t.nm = some d) : chk g t = if t.ks.length ≠ d.args.length then 3 else if chkArgs g.ops t.ks d.args then 0 else 11 := by unfold chk; rw [h, hl]; rfl
theorem chkArgs_at {L : List Dc} {ks : List Tm} {bs : List ByteArray} {k : Nat} {x : Tm} {a : ByteArray} (hx : ks[k]? = some x) (ha : bs[k]? = some a) :
    chkArgs L (ks.drop k) (bs.drop k) = if (ownS L x).2 = true ∧ (ownS L x).1 ≠ a then false else chkArgs L (ks.drop (k + 1)) (bs.drop (k + 1)) := by
  obtain ⟨h1, e1⟩ := List.getElem?_eq_some_iff.1 hx
  obtain ⟨h2, e2⟩ := List.getElem?_eq_some_iff.1 ha
  rw [List.drop_eq_getElem_cons h1, List.drop_eq_getElem_cons h2, e1, e2, chkArgs]

/-- What check keeps while it runs: its boxes. -/
structure HW (g : Sg) (A1 : Option Addr) (c1 b : Nat) (t : Tm) (A : Option Addr) (c : Nat) (w w' : World) : Prop where
  below : Below w.heap.size w w'
  bk : w'.heap[w.heap.size]? = some (.cells #[.slice A1 g.sorts.length c1, .map (some b)] 66 (0, 0))
  bt : w'.heap[w.heap.size + 1]? = some (.cells (tcells t A c) 28 (0, 0))
theorem HW.start (g : Sg) (A1 : Option Addr) (c1 b : Nat) (t : Tm) (A : Option Addr) (c : Nat) (w : World) : HW g A1 c1 b t A c w ((w.alloc (.cells #[.slice A1 g.sorts.length c1, .map (some b)] 66)).alloc (.cells (tcells t A c) 28)) :=
  ⟨((Below.refl _ _).alloc (Nat.le_refl _) _).alloc (by simp) _, (Below.heap_alloc _ _ _ (by simp)).trans (heap_alloc_new w _), by
    have := heap_alloc_new (w.alloc (.cells #[.slice A1 g.sorts.length c1, .map (some b)] 66)) (.cells (tcells t A c) 28)
    simpa using this⟩
theorem HW.next {g : Sg} {A1 : Option Addr} {c1 b : Nat} {t : Tm} {A : Option Addr} {c : Nat} {w w1 w2 : World} (h : HW g A1 c1 b t A c w w1) (hb : Below w1.heap.size w1 w2) : HW g A1 c1 b t A c w w2 :=
  ⟨h.below.trans (hb.mono h.below.size), cells_below h.bk hb, cells_below h.bt hb⟩

set_option maxHeartbeats 2000000 in
theorem check_any (g : Sg) (A1 : Option Addr) (c1 b : Nat) (t : Tm) (A : Option Addr) (c n₀ : Nat) (w : World) (hs : SlS n₀ w A1 g.sorts) (hk : KM n₀ w b g) (hrep : TRep n₀ w t A) (hn : n₀ ≤ w.heap.size) (hok : okT maxLen t) (hog : okG g) :
    Calls Tryz.prog 34 #[KV g A1 c1 b, TV t A c] w fun e w' => e = .returned (.int .i64 (chk g t)) ∧ Below w.heap.size w w' := by
  have HS := Lib.hid hs
  have HK := Lib.hid hk
  have HREP := Lib.hid hrep
  have HOK := Lib.hid hok
  have HOG := Lib.hid hog
  have H0 := Lib.hid (HW.start g A1 c1 b t A c w)
  have hlk := hok.len
  unfold maxLen at hlk
  clear hs hk hrep hok hog
  generalize hv : isV t = v
  unfold KV TV
  go_enter Tryz.func34, Tryz.ntmps34
  go_wp2_with fail
  refine (isVariable_any t A c _).mono ?_
  rintro e w1 ⟨rfl, hb1⟩
  rw [hv]
  have H1 := Lib.hid (H0.out.next hb1)
  obtain ⟨⟨x0, x1⟩, _⟩ := blk2 H1.out.bk
  obtain ⟨⟨y0, y1, y2⟩, _⟩ := blk3 H1.out.bt
  clear hb1
  cases v
  · obtain ⟨f, m, hsm, hfm, hbn⟩ := HK.out
    have hsm1 := hsm.below (H1.out.below.mono hn) hbn
    have hlk := hsm1.lookup Tryz.underlying64 (Tryz.zeroValue61 w1) HOK.out.nm
    have HFM := Lib.hid hfm
    clear hsm hsm1 hfm
    cases hl : lookD g.ops t.nm with
    | none =>
      rw [(HFM.out t.nm).1 hl] at hlk
      simp only [Option.getD, Option.isSome] at hlk
      have HC := Lib.hid (chk_none hv hl)
      clear hl
      go_wp2_with fail
      go_ret
      exact ⟨by rw [HC.out]; rfl, H1.out.below.alloc H1.out.below.size _⟩
    | some d =>
      obtain ⟨A', c', hf, hsd⟩ := (HFM.out t.nm).2 d hl
      rw [hf] at hlk
      simp only [Option.getD, Option.isSome] at hlk
      unfold DV at hlk
      have HSD := Lib.hid hsd
      have hod := HOG.out.2.2 d (lookD_mem hl).1
      have HOD := Lib.hid hod
      have hld := hod.2.2.1
      unfold maxLen at hld
      have HC := Lib.hid (chk_some hv hl)
      clear hl hf hsd hod
      have H2 := Lib.hid (H1.out.next ((Below.refl _ _).alloc (Nat.le_refl _) (.cells #[.string d.nm, .slice A' d.args.length c', .string d.res] 61)))
      have HBD := Lib.hid (heap_alloc_new w1 (.cells #[.string d.nm, .slice A' d.args.length c', .string d.res] 61))
      obtain ⟨⟨u0, u1, u2⟩, _⟩ := blk3 H2.out.bt
      by_cases hlen : t.ks.length = d.args.length
      · have hcc := HC.out
        rw [if_neg (fun h => h hlen)] at hcc
        have HCC := Lib.hid hcc
        have HLEN := Lib.hid hlen
        have hb : ((t.ks.length : Int) == (d.args.length : Int)) = true := by rw [hlen]; exact beq_self_eq_true _
        have hb2 : ((t.ks.length : Int) != (d.args.length : Int)) = false := by rw [hlen]; exact bne_self_eq_false _
        clear hcc hlen HC
        go_wp2_with fail
        clear x0 x1 y0 y1 y2 u0 u1 u2 hb hb2
        have hw1 := H1.out.below.size
        go_loopw [38] (fun y wr => ∃ k : Nat, y = .int .i64 k ∧ k ≤ t.ks.length ∧ HW g A1 c1 b t A c w wr ∧ wr.heap[w1.heap.size]? = some (.cells #[.string d.nm, .slice A' d.args.length c', .string d.res] 61 (0, 0)) ∧ chkArgs g.ops t.ks d.args = chkArgs g.ops (t.ks.drop k) (d.args.drop k)) (fun y _ => t.ks.length - (intOf y).toNat)
        case atStart => exact ⟨0, rfl, by omega, H2.out, HBD.out, rfl⟩
        case round =>
          clear H0 H1 H2 HBD
          obtain ⟨k, rfl, hk, hw, hbd, hck⟩ := hrel
          have HW0 := Lib.hid hw
          have HBD := Lib.hid hbd
          have HCK := Lib.hid hck
          clear hw hbd hck
          obtain ⟨⟨x0, x1⟩, _⟩ := blk2 HW0.out.bk
          obtain ⟨⟨y0, y1, y2⟩, _⟩ := blk3 HW0.out.bt
          by_cases hlt : k < t.ks.length
          · have hlt2 : k < d.args.length := by have := HLEN.out; omega
            obtain ⟨x, hx⟩ : ∃ x, t.ks[k]? = some x := ⟨t.ks[k]'hlt, List.getElem?_eq_getElem _⟩
            obtain ⟨a, ha⟩ : ∃ a, d.args[k]? = some a := ⟨d.args[k]'hlt2, List.getElem?_eq_getElem _⟩
            obtain ⟨tb, to, B1, e1, rfl, htb, u0, u1, u2, hrx⟩ := HREP.out.kid (i := k) hx
            obtain ⟨ab, ao, rfl, hab, hca⟩ := HSD.out (by omega)
            have v0 := hca k a ha
            have hbn := HW0.out.below.mono hn
            replace u0 := (hbn.cell (p := ⟨tb, _, none⟩) htb).trans u0
            replace u1 := (hbn.cell (p := ⟨tb, _, none⟩) htb).trans u1
            replace u2 := (hbn.cell (p := ⟨tb, _, none⟩) htb).trans u2
            have hws := HW0.out.below.size
            have HC := Lib.hid (ownSort_any g A1 c1 b x B1 e1 n₀ wr.drew (HK.out.later hbn.drew) (by simp; omega) (HOK.out.kid (List.mem_of_getElem? hx)).nm)
            have HX := Lib.hid hx
            have HA := Lib.hid ha
            have HV0 := Lib.hid ((hbn.cell (p := ⟨ab, _, none⟩) hab).trans v0)
            have hI : (k : Int) < (t.ks.length : Int) := by omega
            have hI2 : (k : Int) < (d.args.length : Int) := by omega
            clear hx ha hca v0 hrx hbn
            go_wp2_with fail
            go_region_with (refine HC.out.mono ?_; rintro e w5 ⟨rfl, hb5⟩)
            all_goals
              have HW5 := Lib.hid (HW0.out.next ((Below.refl _ _).drew.trans hb5))
              have hbd5 := cells_below HBD.out ((Below.refl _ _).drew.trans hb5)
              have HBD5 := Lib.hid hbd5
              obtain ⟨⟨z0, z1, z2⟩, _⟩ := blk3 hbd5
              have v0 := (((Below.refl wr.heap.size wr).drew.trans hb5).cell (p := ⟨ab, ao + k, none⟩) (by show ab < wr.heap.size; omega)).trans HV0.out
              clear hbd5 hb5 HC x0 x1 y0 y1 y2 u0 u1 u2
              generalize ho : ownS g.ops x = o
              obtain ⟨s, hs⟩ := o
              have HO := Lib.hid ho
              clear ho
              dsimp only
              cases hs
              · go_wp2_with fail
                go_roundw
                case rel =>
                  refine ⟨k + 1, by go_num, by omega, HW5.out, HBD5.out, ?_⟩
                  rw [HCK.out, chkArgs_at HX.out HA.out, HO.out, if_neg (fun h => by cases h.1)]
                case measure => simp [intOf]; omega
              · by_cases hsa : s = a
                · have hb := str_eq_true hsa
                  have HSA := Lib.hid hsa
                  clear hsa
                  go_wp2_with fail
                  go_roundw
                  case rel =>
                    refine ⟨k + 1, by go_num, by omega, HW5.out, HBD5.out, ?_⟩
                    rw [HCK.out, chkArgs_at HX.out HA.out, HO.out, if_neg (fun h => h.2 HSA.out)]
                  case measure => simp [intOf]; omega
                · have hb := str_eq_false hsa
                  have HSA := Lib.hid hsa
                  clear hsa
                  go_wp2_with fail
                  go_ret
                  exact ⟨by rw [HCC.out, HCK.out, chkArgs_at HX.out HA.out, HO.out, if_pos (show (s, true).2 = true ∧ (s, true).1 ≠ a from ⟨rfl, HSA.out⟩)]; rfl, HW5.out.below⟩
          · have hkl : k = t.ks.length := by omega
            have HKL := Lib.hid hkl
            have hI : ¬ (k : Int) < (t.ks.length : Int) := by omega
            clear hkl
            go_wp2_with fail
            go_ret
            refine ⟨?_, HW0.out.below⟩
            have : t.ks.drop k = [] := by rw [HKL.out, List.drop_length]
            rw [HCC.out, HCK.out, this]; rfl
      · have HLEN := Lib.hid hlen
        go_wp2_with fail
        go_ret
        exact ⟨by rw [HC.out, if_pos HLEN.out]; rfl, H2.out.below⟩
  · go_wp2_with fail
    refine (contains_any A1 c1 g.sorts t.st n₀ _ (HS.out.later (H1.out.below.mono hn)) HOG.out.1.1).mono ?_
    rintro e w2 ⟨rfl, rfl⟩
    have HC := Lib.hid (chk_v (g := g) hv)
    clear x0 x1 y0 y1 y2
    generalize hm : memS t.st g.sorts = m at *
    cases m
    · go_wp2_with fail
      go_ret
      exact ⟨by rw [HC.out]; rfl, H1.out.below⟩
    · go_wp2_with fail
      go_ret
      exact ⟨by rw [HC.out]; rfl, H1.out.below⟩
end Go.Proofs.YthbcfcbonmphfaaGreatDoor
/- Sort. -/
namespace Go.Proofs.YthbcfcbonmphfaaGreatDoor
open Go.RowKit Go.Shelf
set_option maxRecDepth 100000
attribute [local go_sem] Oper.semAt_some

def sortRes (g : Sg) (t : Tm) : ByteArray × Int :=
  if validSg g && formed t then (match (t.pre 1).find? (fun x => decide (chk g x.2 ≠ 0)) with | some x => (⟨#[]⟩, chk g x.2) | none => ((ownS g.ops t).1, 0)) else (⟨#[]⟩, 1)
def lastChk (g : Sg) {n₀ : Nat} {W₀ : World} (pre : List (Nd n₀ W₀)) : Int := match pre.getLast? with | none => 0 | some x => chk g x.t

theorem FM.mono {n₀ n₁ : Nat} (hn : n₀ ≤ n₁) {w : World} {f : List UInt8 → Option Value} {L : List Dc} (h : FM n₀ w f L) : FM n₁ w f L := fun s =>
  ⟨(h s).1, fun d hd => by obtain ⟨A, c, h1, h2⟩ := (h s).2 d hd; exact ⟨A, c, h1, h2.mono hn⟩⟩
theorem lastChk_snoc (g : Sg) {n₀ : Nat} {W₀ : World} (pre : List (Nd n₀ W₀)) (x : Nd n₀ W₀) : lastChk g (pre ++ [x]) = chk g x.t := by
  unfold lastChk; simp

/-- What Sort keeps while it runs: its boxes. -/
structure SW (g : Sg) (A1 : Option Addr) (c1 : Nat) (A2 : Option Addr) (c2 : Nat) (t : Tm) (A : Option Addr) (c : Nat) (w w' : World) : Prop where
  below : Below w.heap.size w w'
  bs : w'.heap[w.heap.size]? = some (.cells (gcells g A1 c1 A2 c2) 25 (0, 0))
  bt : w'.heap[w.heap.size + 1]? = some (.cells (tcells t A c) 28 (0, 0))
  r1 : Boxed w' (w.heap.size + 1 + 1) 9 (.string ⟨#[]⟩)
  r2 : Boxed w' (w.heap.size + 1 + 1 + 1) 32 (.int .i64 0)
theorem SW.next {g : Sg} {A1 : Option Addr} {c1 : Nat} {A2 : Option Addr} {c2 : Nat} {t : Tm} {A : Option Addr} {c : Nat} {w w1 w2 : World} (h : SW g A1 c1 A2 c2 t A c w w1) (hb : Below w1.heap.size w1 w2) : SW g A1 c1 A2 c2 t A c w w2 :=
  ⟨h.below.trans (hb.mono h.below.size), cells_below h.bs hb, cells_below h.bt hb, boxed_below h.r1 hb, boxed_below h.r2 hb⟩
theorem SW.start (g : Sg) (A1 : Option Addr) (c1 : Nat) (A2 : Option Addr) (c2 : Nat) (t : Tm) (A : Option Addr) (c : Nat) (w : World) :
    SW g A1 c1 A2 c2 t A c w ((((w.alloc (.cells (gcells g A1 c1 A2 c2) 25)).alloc (.cells (tcells t A c) 28)).alloc (.cells #[.string ⟨#[]⟩] 9)).alloc (.cells #[.int .i64 0] 32)) := by
  have h1 := heap_alloc_new w (.cells (gcells g A1 c1 A2 c2) 25)
  have h2 := heap_alloc_new (w.alloc (.cells (gcells g A1 c1 A2 c2) 25)) (.cells (tcells t A c) 28)
  have h3 := Boxed.new ((w.alloc (.cells (gcells g A1 c1 A2 c2) 25)).alloc (.cells (tcells t A c) 28)) 9 (.string ⟨#[]⟩)
  have h4 := Boxed.new (((w.alloc (.cells (gcells g A1 c1 A2 c2) 25)).alloc (.cells (tcells t A c) 28)).alloc (.cells #[.string ⟨#[]⟩] 9)) 32 (.int .i64 0)
  simp only [World.size_alloc] at h2 h3 h4
  exact ⟨((((Below.refl _ _).alloc (Nat.le_refl _) _).alloc (by simp) _).alloc (by simp; omega) _).alloc (by simp; omega) _,
    (Below.heap_alloc _ _ _ (by simp; omega)).trans ((Below.heap_alloc _ _ _ (by simp; omega)).trans ((Below.heap_alloc _ _ _ (by simp)).trans h1)),
    (Below.heap_alloc _ _ _ (by simp)).trans ((Below.heap_alloc _ _ _ (by simp)).trans h2), h3.alloc _, h4⟩
theorem sortRes_bad {g : Sg} {t : Tm} (h : validSg g = false ∨ formed t = false) : sortRes g t = (⟨#[]⟩, 1) := by
  unfold sortRes
  rcases h with h | h <;> simp [h]
theorem sortRes_ok {g : Sg} {t : Tm} (h1 : validSg g = true) (h2 : formed t = true) (h : ∀ x, x ∈ t.pre 1 → chk g x.2 = 0) : sortRes g t = ((ownS g.ops t).1, 0) := by
  unfold sortRes
  rw [h1, h2]
  have : (t.pre 1).find? (fun x => decide (chk g x.2 ≠ 0)) = none := by
    rw [List.find?_eq_none]
    intro x hx
    simp [h x hx]
  rw [this]; rfl
theorem sortRes_err {g : Sg} {t : Tm} {p : List (Nat × Tm)} {x : Nat × Tm} (h1 : validSg g = true) (h2 : formed t = true) (hp : p ++ [x] <+: t.pre 1) (h : ∀ y, y ∈ p → chk g y.2 = 0) (hx : chk g x.2 ≠ 0) : sortRes g t = (⟨#[]⟩, chk g x.2) := by
  unfold sortRes
  obtain ⟨r, hr⟩ := hp
  have : (t.pre 1).find? (fun x => decide (chk g x.2 ≠ 0)) = some x := by
    rw [← hr, List.append_assoc, List.find?_append]
    have h0 : p.find? (fun x => decide (chk g x.2 ≠ 0)) = none := by
      rw [List.find?_eq_none]
      intro y hy
      simp [h y hy]
    rw [h0]
    simp [hx]
  rw [h1, h2, this]; rfl

set_option maxHeartbeats 4000000 in
theorem Sort_any (g : Sg) (A1 : Option Addr) (c1 : Nat) (A2 : Option Addr) (c2 : Nat) (t : Tm) (A : Option Addr) (c : Nat) (w : World) (hs : SlS w.heap.size w A1 g.sorts) (hd : SlD w.heap.size w A2 g.ops) (hog : okG g) (hrep : TRep w.heap.size w t A) (hok : okT maxLen t) (hdp : t.depth ≤ 140737488355326) :
    Calls Tryz.prog 7 #[GV g A1 c1 A2 c2, TV t A c] w fun e w' => e = .returned (.tuple #[.string (sortRes g t).1, .int .i64 (sortRes g t).2]) ∧ Below w.heap.size w w' := by
  refine (callsIn_wide (n := 3)).1 ?_
  refine callsIn_of_wp_marks Tryz.func7 rfl trivial ?_ rfl
  simp only [Tryz.ntmps7, List.size_toArray, List.length_cons, List.length_nil, Nat.reduceAdd, Nat.reduceSub, Array.replicate_succ, Array.replicate_zero, List.push_toArray, List.append_toArray, List.nil_append, List.cons_append]
  unfold TV GV
  have HS := Lib.hid hs
  have HD := Lib.hid hd
  have HOG := Lib.hid hog
  have HREP := Lib.hid hrep
  have HOK := Lib.hid hok
  have H0 := Lib.hid (SW.start g A1 c1 A2 c2 t A c w)
  clear hs hd hog hrep hok
  gi_wp2_with fail
  refine ⟨trivial, (callsIn_wide.2 (validSignature_any g A1 c1 A2 c2 _ ((HS.out.later H0.out.below).mono H0.out.below.size) ((HD.out.later H0.out.below).mono H0.out.below.size) HOG.out)).mono ?_⟩
  rintro e w1 ⟨rfl, hb1⟩
  have H1 := Lib.hid (H0.out.next hb1)
  obtain ⟨⟨x0, x1⟩, _⟩ := blk2 H1.out.bs
  obtain ⟨⟨y0, y1, y2⟩, _⟩ := blk3 H1.out.bt
  have s1 := H1.out.r1.cell
  have s2 := H1.out.r2.cell
  have f1 := H1.out.r1.frozen
  have f2 := H1.out.r2.frozen
  clear hb1
  generalize hvg : validSg g = vg
  cases vg
  · gi_wp2_with fail
    refine ⟨trivial, ?_⟩
    gi_wp2_with fail
    have hc5 := ((H1.out.r1.set (.string ⟨#[]⟩)).other (B' := w.heap.size + 1 + 1 + 1) (by omega) (.int .i64 1)).cell
    have hc6 := ((H1.out.r2.other (B' := w.heap.size + 1 + 1) (by omega) (.string ⟨#[]⟩)).set (.int .i64 1)).cell
    refine ⟨.tuple #[.string ⟨#[]⟩, .int .i64 1], ?_, by rw [sortRes_bad (.inl hvg)], belowSet (belowSet H1.out.below _ (by omega) _) _ (by omega) _⟩
    simp [results, Tryz.f7, go_sem, hc5, hc6]
  · gi_wp2_with fail
    clear x0 x1 y0 y1 y2 s1 s2 f1 f2
    refine ⟨trivial, (callsIn_wide.2 (wellFormed_any t A c _ ((HREP.out.later H1.out.below).mono H1.out.below.size) HOK.out hdp)).mono ?_⟩
    rintro e w2 ⟨rfl, hb2⟩
    have H2 := Lib.hid (H1.out.next hb2)
    obtain ⟨⟨x0, x1⟩, _⟩ := blk2 H2.out.bs
    obtain ⟨⟨y0, y1, y2⟩, _⟩ := blk3 H2.out.bt
    have s1 := H2.out.r1.cell
    have s2 := H2.out.r2.cell
    have f1 := H2.out.r1.frozen
    have f2 := H2.out.r2.frozen
    clear hb2
    generalize hvt : formed t = vt
    cases vt
    · gi_wp2_with fail
      have hc5 := ((H2.out.r1.set (.string ⟨#[]⟩)).other (B' := w.heap.size + 1 + 1 + 1) (by omega) (.int .i64 1)).cell
      have hc6 := ((H2.out.r2.other (B' := w.heap.size + 1 + 1) (by omega) (.string ⟨#[]⟩)).set (.int .i64 1)).cell
      refine ⟨.tuple #[.string ⟨#[]⟩, .int .i64 1], ?_, by rw [sortRes_bad (.inr hvt)], belowSet (belowSet H2.out.below _ (by omega) _) _ (by omega) _⟩
      simp [results, Tryz.f7, go_sem, hc5, hc6]
    · gi_wp2_with fail
      clear x0 x1 y0 y1 y2 s1 s2 f1 f2
      refine ⟨trivial, (callsIn_wide.2 (knownOf_any g A1 c1 A2 c2 _ ((HD.out.later H2.out.below).mono H2.out.below.size) HOG.out)).mono ?_⟩
      rintro e w3 ⟨⟨b, f, rfl, hwb, hsm, hfm⟩, hb3⟩
      have H3 := Lib.hid (H2.out.next hb3)
      have HK3 : Hid (KM w3.heap.size w3 b g) := ⟨f, _, hsm, (hfm.later hb3).mono hb3.size, hsm.lt⟩
      obtain ⟨⟨x0, x1⟩, _⟩ := blk2 H3.out.bs
      obtain ⟨⟨y0, y1, y2⟩, _⟩ := blk3 ((Below.heap_alloc w3 (.cells #[.slice A1 g.sorts.length c1, .map (some b)] 66) _ (Array.getElem?_eq_some_iff.1 H3.out.bt).1).trans H3.out.bt)
      have hw3 := H3.out.below.size
      clear hsm hfm hb3 hwb
      gi_wp2_with fail
      refine ⟨trivial, (nodes_in Fence.wide _ wide_fn rfl t A c _).mono ?_⟩
      rintro e w' ⟨rfl, rfl⟩
      clear x0 x1 y0 y1 y2
      gi_wp2_with fail
      have hb4 : Below w3.heap.size w3 ((w3.alloc (.cells #[.slice A1 g.sorts.length c1, .map (some b)] 66)).alloc (.cells (tcells t A c) 28)) := ((Below.refl _ _).alloc (Nat.le_refl _) _).alloc (by simp) _
      have hkx := (Below.heap_alloc _ (.cells (tcells t A c) 28) _ (by simp)).trans (heap_alloc_new w3 (.cells #[.slice A1 g.sorts.length c1, .map (some b)] 66))
      have hnx := heap_alloc_new (w3.alloc (.cells #[.slice A1 g.sorts.length c1, .map (some b)] 66)) (.cells (tcells t A c) 28)
      have hsz : ((w3.alloc (.cells #[.slice A1 g.sorts.length c1, .map (some b)] 66)).alloc (.cells (tcells t A c) 28)).heap.size = w3.heap.size + 2 := by simp
      simp only [World.size_alloc] at hnx
      have H4 := Lib.hid (H3.out.next hb4)
      generalize ((w3.alloc (.cells #[.slice A1 g.sorts.length c1, .map (some b)] 66)).alloc (.cells (tcells t A c) 28)) = W0 at hb4 hkx hnx hsz H4 ⊢
      refine wp_nodes w3.heap.size _ t A c rfl hnx ((HREP.out.later H4.out.below).mono (by omega)) (by omega) HOK.out hdp rfl
        (fun pre W => ((Boxed W (w.heap.size + 1 + 1) 9 (.string ⟨#[]⟩) ∧ Boxed W (w.heap.size + 1 + 1 + 1) 32 (.int .i64 0)) ∧ (W.heap[w3.heap.size]? = some (.cells #[.slice A1 g.sorts.length c1, .map (some b)] 66 (0, 0)) ∧ W.heap[w.heap.size + 1]? = some (.cells (tcells t A c) 28 (0, 0)))) ∧ (∀ x ∈ pre, chk g x.t = 0) ∧ Below w3.heap.size W0 W)
        (fun j pre W => (Boxed W (w.heap.size + 1 + 1) 9 (.string ⟨#[]⟩) ∧ Boxed W (w.heap.size + 1 + 1 + 1) 32 (.int .i64 (lastChk g pre))) ∧ (j = .ret ∧ ∃ p x, pre = p ++ [x] ∧ (∀ y ∈ p, chk g y.t = 0) ∧ chk g x.t ≠ 0) ∧ Below w.heap.size w W)
        (.and (.and (.and ((boxed_own _ _ _).from _) ((boxed_own _ _ _).from _)) (.and ((cellsBlock_own _ (fun _ => #[.slice A1 g.sorts.length c1, .map (some b)]) _).from _) ((cellsBlock_own _ (fun _ => tcells t A c) _).from _))) (.and (ownFrom_pure _ _) (ownFrom_below (by omega) (by omega))))
        (fun _ => .and (.and ((boxed_own _ _ _).from _) ((boxed_own _ _ (fun pre => .int .i64 (lastChk g pre))).from _)) (.and (ownFrom_pure _ _) (ownFrom_below (Nat.le_refl _) (by omega))))
        ⟨⟨⟨H4.out.r1, H4.out.r2⟩, hkx, H4.out.bt⟩, by simp, Below.refl _ _⟩
        (fun x a' W => ∃ Bx, NodeBox (w3.heap.size + 1) x Bx W ∧ a' = { tmps := #[GV g A1 c1 A2 c2, TV t A c, .pointer (some ⟨w.heap.size, 0, none⟩), .pointer (some ⟨w.heap.size + 1, 0, none⟩), .pointer (some ⟨w.heap.size + 1 + 1, 0, none⟩), .pointer (some ⟨w.heap.size + 1 + 1 + 1, 0, none⟩), .pointer (some ⟨w3.heap.size, 0, none⟩), undef, .pointer (some ⟨Bx, 0, none⟩), undef, undef, undef, GV g A1 c1 A2 c2, .bool true, .bool false, .bool false, TV t A c, .bool true, .bool false, .bool false, GV g A1 c1 A2 c2, KV g A1 c1 b, TV t A c, .func (.func 63) #[] #[.pointer (some ⟨w3.heap.size + 1, 0, none⟩)], .int .i64 x.d, TV x.t x.A x.c, undef, undef, undef, undef, undef, undef, undef, undef, undef, undef, undef, undef, undef], defers := [] })
        (fun x a' s X Y row hs hg hr => by
          obtain ⟨Bx, ⟨h1, h2⟩, e⟩ := hs
          exact ⟨Bx, ⟨h1, cellsBlock_own Bx (fun _ : Unit => tcells x.t x.A x.c) 28 s X Y row h2 hg (fun r e => (hr r e).2)⟩, e⟩)
        ?assign ?body ?done ?stop
      case assign =>
        rintro l pre x W K ⟨⟨⟨i1, i2⟩, i3, i5⟩, i6, i7⟩ hK
        unfold Nd.enc TV
        gi_wp2_with fail
        have hb := (Array.getElem?_eq_some_iff.1 i3).1
        exact hK _ _ ((KeepsOthers.alloc _ _).from _) ((Kp.refl _ _ _).alloc (by have := i7.size; omega) _) ⟨⟨⟨i1.alloc _, i2.alloc _⟩, (Below.heap_alloc _ _ _ hb).trans i3, (Below.heap_alloc _ _ _ (Array.getElem?_eq_some_iff.1 i5).1).trans i5⟩, i6, i7.alloc (by have := i7.size; omega) _⟩ ⟨W.heap.size, ⟨by omega, heap_alloc_new _ _⟩, rfl⟩
      case body =>
        rintro l pre x a' W hl _ ⟨⟨⟨i1, i2⟩, i3, i5⟩, i6, i7⟩ ⟨Bx, ⟨hBx, hbX⟩, rfl⟩ hlt
        unfold KV
        have hws := i7.size
        have hb5 := hb4.trans i7
        have hbw := H3.out.below.trans (hb5.mono hw3)
        have I3 := Lib.hid i3
        have I5 := Lib.hid i5
        have I6 := Lib.hid i6
        have HBW := Lib.hid hbw
        have I7 := Lib.hid i7
        obtain ⟨⟨x0, x1, x2⟩, _⟩ := blk3 hbX
        obtain ⟨⟨k0, k1⟩, _⟩ := blk2 i3
        have HC := Lib.hid (check_any g A1 c1 b x.t x.A x.c w3.heap.size W ((HS.out.later hbw).mono hw3) (HK3.out.later hb5) (x.rep.later i7) (by omega) x.ok HOG.out)
        clear i3 i5 i6 i7 hb5 hbw hbX
        unfold KV at HC
        gi_wp2_with fail
        refine ⟨trivial, (CallsIn.inRound l (callsIn_wide.2 HC.out)).mono ?_⟩
        rintro e W1 ⟨rfl, hb1⟩
        replace i1 := boxed_below i1 hb1
        replace i2 := boxed_below i2 hb1
        have HB1 := Lib.hid hb1
        have J3 := Lib.hid (cells_below I3.out hb1)
        have J5 := Lib.hid (cells_below I5.out hb1)
        clear x0 x1 x2 k0 k1 hb1 I3 I5 HC
        have c1' := i1.cell
        have f1 := i1.frozen
        have c2' := i2.cell
        have f2 := i2.frozen
        by_cases hv : chk g x.t = 0
        · rw [hv]
          have HV := Lib.hid hv
          clear hv
          gi_wp2_with fail
          refine ⟨keepsFrom_below HB1.out, Kp.of_below (by omega) HB1.out, ⟨⟨i1, i2⟩, J3.out, J5.out⟩, fun y hy => (List.mem_append.1 hy).elim (I6.out y) (fun h => by rw [List.mem_singleton.1 h]; exact HV.out), I7.out.trans (HB1.out.mono (by omega))⟩
        · have hvb : (chk g x.t != 0) = true := by simp [hv]
          have HV := Lib.hid hv
          clear hv
          gi_wp2_with fail
          refine ⟨(keepsFrom_below HB1.out).trans (((KeepsOthers.setCell _ _ _).trans (KeepsOthers.setCell _ _ _)).from _), ⟨(i1.set _).other (by omega) _, ?_⟩, ⟨rfl, pre, x, rfl, I6.out, HV.out⟩, belowSet (belowSet (HBW.out.trans (HB1.out.mono (by omega))) _ (by omega) _) _ (by omega) _⟩
          rw [lastChk_snoc]
          exact (i2.other (by omega) _).set _
      case done =>
        rintro D ys W hD hys ⟨⟨⟨i1, i2⟩, i3, i5⟩, i6, i7⟩ hK
        have hws := i7.size
        have hb5 := hb4.trans i7
        have hbw := H3.out.below.trans (hb5.mono hw3)
        have hall : ∀ x, x ∈ t.pre 1 → chk g x.2 = 0 := by
          intro y hy
          rw [← hys, List.mem_map] at hy
          obtain ⟨z, hz, rfl⟩ := hy
          exact i6 z hz
        have HALL := Lib.hid hall
        have HBW := Lib.hid hbw
        have HK := Lib.hid hK
        obtain ⟨⟨x0, x1, x2⟩, _⟩ := blk3 i5
        obtain ⟨⟨k0, k1⟩, _⟩ := blk2 i3
        have HC := Lib.hid (ownSort_any g A1 c1 b t A c w3.heap.size W (HK3.out.later hb5) (by omega) HOK.out.nm)
        clear hall i3 i5 i6 i7 hb5 hbw hys hK
        unfold KV at HC
        gi_wp2_with fail
        refine ⟨trivial, (callsIn_wide.2 HC.out).mono ?_⟩
        rintro e W1 ⟨rfl, hb1⟩
        replace i1 := boxed_below i1 hb1
        replace i2 := boxed_below i2 hb1
        have HK1 := Lib.hid (cells_below HK.out hb1)
        have HB1 := Lib.hid hb1
        clear hb1 x0 x1 x2 k0 k1 HC
        have c1' := i1.cell
        have f1 := i1.frozen
        have c2' := i2.cell
        have f2 := i2.frozen
        have HK2 := Lib.hid (keep_deferred (keep_deferred HK1.out (w.heap.size + 1 + 1) (.string (ownS g.ops t).1)) (w.heap.size + 1 + 1 + 1) (.int .i64 0))
        gi_wp2_with fail
        refine leave_mark HK2.out ?_
        have hc5 := (boxed_put ((i1.set (.string (ownS g.ops t).1)).other (by omega) (.int .i64 0)) HK2.out).cell
        have hc6 := (boxed_put ((i2.other (by omega) (.string (ownS g.ops t).1)).set (.int .i64 0)) HK2.out).cell
        refine ⟨.tuple #[.string (ownS g.ops t).1, .int .i64 0], ?_, by rw [sortRes_ok hvg hvt HALL.out], below_put (belowSet (belowSet (HBW.out.trans (HB1.out.mono (by omega))) _ (by omega) _) _ (by omega) _) (by omega) HK2.out⟩
        simp [results, Tryz.f7, go_sem, hc5, hc6]
      case stop =>
        rintro D j pre W hD hpre ⟨⟨i1, i2⟩, ⟨rfl, p, x, rfl, hp, hx⟩, i7⟩ hK
        have HK := Lib.hid hK
        rw [lastChk_snoc] at i2
        clear hK
        gi_wp2_with fail
        refine leave_mark HK.out ?_
        have hc5 := (boxed_put i1 HK.out).cell
        have hc6 := (boxed_put i2 HK.out).cell
        refine ⟨.tuple #[.string ⟨#[]⟩, .int .i64 (chk g x.t)], ?_, ?_, below_put i7 (by omega) HK.out⟩
        · simp [results, Tryz.f7, go_sem, hc5, hc6]
        · rw [sortRes_err (p := p.map Nd.pr) (x := x.pr) hvg hvt (by simpa using hpre) (fun y hy => by
            obtain ⟨z, hz, rfl⟩ := List.mem_map.1 hy
            exact hp z hz) hx]; rfl
end Go.Proofs.YthbcfcbonmphfaaGreatDoor
namespace Go.Proofs.YthbcfcbonmphfaaGreatDoor
open Go.RowKit Go.Shelf
set_option maxRecDepth 100000
attribute [local go_sem] Oper.semAt_some

def Tryz.lays106_ren : Go.Shelf.Ren := ⟨fun | 106 => 46 | 213 => 73 | 265 => 102 | n => n, fun | 9 => 9 | 3 => 3 | n => n, fun | n => n⟩
theorem Tryz.lays106 : Go.Proofs.Lays.n106 Tryz.prog Tryz.lays106_ren := {
  mixed := by kernel_rfl
  f106 := Tryz.func46.trans (congrArg some (by kernel_rfl))
  f213 := Tryz.func73.trans (congrArg some (by kernel_rfl))
  f265 := Tryz.func102.trans (congrArg some (by kernel_rfl))
  t3 := Tryz.underlying3
  a3 := Tryz.isAgg3
  z3 := Tryz.sizeOf3
  v3 := Tryz.zeroValue3
  t9 := Tryz.underlying9
  a9 := Tryz.isAgg9
  z9 := Tryz.sizeOf9
  v9 := Tryz.zeroValue9 }
theorem strCompare_any (a b : ByteArray) (w : World) : Calls Tryz.prog 46 #[.string a, .string b] w fun e w' => e = .returned (.int .i64 (bcmp a b)) ∧ w' = w :=
  Any.strings_Compare Tryz.lays106 a b w

def or2 (x y : Int) : Int := if x ≠ 0 then x else y
/-! ### what compare says -/
theorem tcmp_vv {a b : Tm} (ha : isV a = true) (hb : isV b = true) : tcmp a b = or2 (bcmp a.nm b.nm) (bcmp a.st b.st) := by
  cases a with
  | mk n s ks =>
    unfold tcmp or2
    have : (!s.toList.isEmpty) = true := ha
    rw [this, hb]; rfl
theorem tcmp_vn {a b : Tm} (ha : isV a = true) (hb : isV b = false) : tcmp a b = -1 := by
  cases a with
  | mk n s ks =>
    unfold tcmp
    have : (!s.toList.isEmpty) = true := ha
    rw [this, hb]; rfl
theorem tcmp_nv {a b : Tm} (ha : isV a = false) (hb : isV b = true) : tcmp a b = 1 := by
  cases a with
  | mk n s ks =>
    unfold tcmp
    have : (!s.toList.isEmpty) = false := ha
    rw [this, hb]; rfl
def hcmp (a b : Tm) : Int := or2 (bcmp a.nm b.nm) (ncmp a.ks.length b.ks.length)
theorem tcmp_nn {a b : Tm} (ha : isV a = false) (hb : isV b = false) : tcmp a b = if hcmp a b ≠ 0 then hcmp a b else tcmps a.ks b.ks := by
  cases a with
  | mk n s ks =>
    unfold tcmp hcmp or2
    have : (!s.toList.isEmpty) = false := ha
    rw [this, hb]
    simp only [Tm.nm_mk, Tm.ks_mk, Bool.false_and, Bool.false_eq_true, if_false]
    by_cases h : bcmp n b.nm = 0
    · simp [h]
    · simp [h]
theorem hcmp_len {a b : Tm} (h : hcmp a b = 0) : a.ks.length = b.ks.length := by
  unfold hcmp or2 at h
  by_cases h1 : bcmp a.nm b.nm = 0
  · rw [if_neg (by simp [h1])] at h
    unfold ncmp at h
    by_cases h2 : a.ks.length < b.ks.length
    · rw [if_pos h2] at h; cases h
    · by_cases h3 : b.ks.length < a.ks.length
      · rw [if_neg h2, if_pos h3] at h; cases h
      · omega
  · rw [if_pos h1] at h; exact absurd h h1
theorem tcmps_at {L M : List Tm} {k : Nat} {x y : Tm} (hx : L[k]? = some x) (hy : M[k]? = some y) : tcmps (L.drop k) (M.drop k) = if tcmp x y ≠ 0 then tcmp x y else tcmps (L.drop (k + 1)) (M.drop (k + 1)) := by
  obtain ⟨h1, e1⟩ := List.getElem?_eq_some_iff.1 hx
  obtain ⟨h2, e2⟩ := List.getElem?_eq_some_iff.1 hy
  rw [List.drop_eq_getElem_cons h1, List.drop_eq_getElem_cons h2, e1, e2, tcmps]

/-- What compare keeps while it runs: the boxes of its two terms. -/
structure CW (w w' : World) (a : Tm) (A : Option Addr) (c : Nat) (b : Tm) (B : Option Addr) (c' : Nat) : Prop where
  below : Below w.heap.size w w'
  ba : w'.heap[w.heap.size]? = some (.cells (tcells a A c) 28 (0, 0))
  bb : w'.heap[w.heap.size + 1]? = some (.cells (tcells b B c') 28 (0, 0))
theorem CW.start (w : World) (a : Tm) (A : Option Addr) (c : Nat) (b : Tm) (B : Option Addr) (c' : Nat) : CW w ((w.alloc (.cells (tcells a A c) 28)).alloc (.cells (tcells b B c') 28)) a A c b B c' :=
  ⟨((Below.refl _ _).alloc (Nat.le_refl _) _).alloc (by simp) _, (Below.heap_alloc _ _ _ (by simp)).trans (heap_alloc_new w _), by
    have := heap_alloc_new (w.alloc (.cells (tcells a A c) 28)) (.cells (tcells b B c') 28)
    simpa using this⟩
theorem CW.next {w w1 w2 : World} {a : Tm} {A : Option Addr} {c : Nat} {b : Tm} {B : Option Addr} {c' : Nat} (h : CW w w1 a A c b B c') (hb : Below w1.heap.size w1 w2) : CW w w2 a A c b B c' :=
  ⟨h.below.trans (hb.mono h.below.size), cells_below h.ba hb, cells_below h.bb hb⟩
theorem CW.drew {w w1 : World} {a : Tm} {A : Option Addr} {c : Nat} {b : Tm} {B : Option Addr} {c' : Nat} (h : CW w w1 a A c b B c') : CW w w1.drew a A c b B c' :=
  ⟨h.below.drew, h.ba, h.bb⟩

def CInv (a b : Tm) (A : Option Addr) (c : Nat) (B : Option Addr) (c' : Nat) (w : World) (cc : Int) (k : Nat) (wr : World) : Prop :=
  k ≤ a.ks.length ∧ (cc = 0 → a.ks.length = b.ks.length) ∧ (cc ≠ 0 → tcmp a b = cc) ∧ (cc = 0 → tcmp a b = tcmps (a.ks.drop k) (b.ks.drop k)) ∧ CW w wr a A c b B c'

/-- What Compare hands back. -/
def cmpRes (a b : Tm) : Value := if formed a && formed b then .tuple #[.int .i64 (tcmp a b), .int .i64 0] else .tuple #[.int .i64 0, .int .i64 1]
end Go.Proofs.YthbcfcbonmphfaaGreatDoor
