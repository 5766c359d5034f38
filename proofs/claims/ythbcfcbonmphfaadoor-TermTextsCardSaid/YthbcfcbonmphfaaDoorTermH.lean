/- knownOf, ownSort, check. -/
import Derived.Deep.RegionWith
import Derived.Test.YthbcfcbonmphfaaDoorTermG
namespace Go.Proofs.YthbcfcbonmphfaaDoor
open Go.RowKit Go.Shelf
set_option maxRecDepth 100000

def lookD (L : List Dc) (s : ByteArray) : Option Dc := L.reverse.find? (fun d => decide (d.nm = s))
theorem lookD_snoc (L : List Dc) (d : Dc) (s : ByteArray) : lookD (L ++ [d]) s = if d.nm = s then some d else lookD L s := by
  unfold lookD
  rw [List.reverse_append, List.reverse_cons, List.reverse_nil, List.nil_append, List.cons_append, List.nil_append, List.find?_cons]
  by_cases h : d.nm = s
  · rw [if_pos h, decide_eq_true h]
  · rw [if_neg h, decide_eq_false h]
theorem lookD_mem {L : List Dc} {s : ByteArray} {d : Dc} (h : lookD L s = some d) : d ∈ L ∧ d.nm = s := by
  unfold lookD at h
  exact ⟨List.mem_reverse.1 (List.mem_of_find?_eq_some h), by simpa using List.find?_some h⟩
/-- The own sort of a node, and whether it has one. -/
def ownS (L : List Dc) (t : Tm) : ByteArray × Bool := if isV t then (t.st, true) else match lookD L t.nm with | none => (⟨#[]⟩, false) | some d => (d.res, true)
def DV (d : Dc) (A : Option Addr) (c : Nat) : Value := .agg #[.string d.nm, .slice A d.args.length c, .string d.res]
/-- The map of a signature's operations. -/
def FM (n₀ : Nat) (w : World) (f : List UInt8 → Option Value) (L : List Dc) : Prop :=
  ∀ s : ByteArray, (lookD L s = none → f s.data.toList = none) ∧ ∀ d, lookD L s = some d → ∃ A c, f s.data.toList = some (DV d A c) ∧ SlS n₀ w A d.args
theorem FM.later {n₀ : Nat} {w w' : World} (hb : Below n₀ w w') {f : List UInt8 → Option Value} {L : List Dc} (h : FM n₀ w f L) : FM n₀ w' f L := fun s =>
  ⟨(h s).1, fun d hd => by obtain ⟨A, c, h1, h2⟩ := (h s).2 d hd; exact ⟨A, c, h1, h2.later hb⟩⟩
theorem FM.nil (n₀ : Nat) (w : World) : FM n₀ w (fun _ => none) [] := fun s => ⟨fun _ => rfl, fun d h => by simp [lookD] at h⟩
theorem FM.snoc {n₀ : Nat} {w : World} {f : List UInt8 → Option Value} {L : List Dc} (h : FM n₀ w f L) (d : Dc) (A : Option Addr) (c : Nat) (hs : SlS n₀ w A d.args) :
    FM n₀ w (fun x => if x = d.nm.data.toList then some (DV d A c) else f x) (L ++ [d]) := fun s => by
  rw [lookD_snoc]
  by_cases he : d.nm = s
  · subst he
    simp only [if_true]
    exact ⟨fun h => by simp at h, fun d' h => by injection h with h; subst h; exact ⟨A, c, rfl, hs⟩⟩
  · have hne : ¬ s.data.toList = d.nm.data.toList := fun e => he (toList_inj e).symm
    simp only [if_neg he, if_neg hne]
    exact h s

def KInv (g : Sg) (A1 : Option Addr) (c1 : Nat) (w : World) (k : Nat) (wr : World) : Prop :=
  ∃ f, k ≤ g.ops.length ∧ SMap wr (w.heap.size + 1 + 1) k f ∧ FM w.heap.size w f (g.ops.take k) ∧ Below w.heap.size w wr ∧
    wr.heap[w.heap.size + 1]? = some (.cells #[.slice none 0 0, .map none] 152 (0, 0)) ∧ wr.heap[w.heap.size + 1 + 1 + 1]? = some (.cells #[.slice A1 g.sorts.length c1, .map (some (w.heap.size + 1 + 1))] 152 (0, 0))

def knownPost (g : Sg) (A1 : Option Addr) (c1 : Nat) (w : World) (e : Ending) (w' : World) : Prop :=
  (∃ b f, e = .returned (.agg #[.slice A1 g.sorts.length c1, .map (some b)]) ∧ w.heap.size ≤ b ∧ SMap w' b g.ops.length f ∧ FM w.heap.size w f g.ops) ∧ Below w.heap.size w w'

set_option maxHeartbeats 2000000 in
theorem knownOf_any (g : Sg) (A1 : Option Addr) (c1 : Nat) (A2 : Option Addr) (c2 : Nat) (w : World) (hd : SlD w.heap.size w A2 g.ops) (hok : okG g) :
    Calls Tryd.prog 105 #[GV g A1 c1 A2 c2] w (knownPost g A1 c1 w) := by
  have HD := Lib.hid hd
  have HOK := Lib.hid hok
  have hl2 := hok.2.1
  unfold maxLen at hl2
  have hmm := @run_makeMap Tryd.prog
  clear hd hok
  unfold GV
  go_enter Tryd.func105, Tryd.ntmps105
  go_wp2_with fail
  go_loopw [13] (fun y wr => ∃ k : Nat, y = .int .i64 k ∧ KInv g A1 c1 w k wr) (fun y _ => g.ops.length - (intOf y).toNat)
  case atStart =>
    refine ⟨0, rfl, _, Nat.zero_le _, ?_, FM.nil _ _, ?_, ?_, ?_⟩
    · have h := SMap.made ((w.alloc (.cells (gcells g A1 c1 A2 c2) 82)).alloc (.cells #[.slice none 0 0, .map none] 152))
      simp only [World.size_alloc] at h
      exact h.kept (World.grownBy_alloc _ _ none) (by simp)
    · exact ((((Below.refl _ _).alloc (Nat.le_refl _) _).alloc (by simp) _).alloc (by simp; omega) _).alloc (by simp; omega) _
    · have h := heap_alloc_new (w.alloc (.cells (gcells g A1 c1 A2 c2) 82)) (.cells #[.slice none 0 0, .map none] 152)
      simp only [World.size_alloc] at h
      exact (Below.heap_alloc _ _ _ (by simp)).trans ((Below.heap_alloc _ _ _ (by simp)).trans h)
    · have h := heap_alloc_new (((w.alloc (.cells (gcells g A1 c1 A2 c2) 82)).alloc (.cells #[.slice none 0 0, .map none] 152)).alloc (.map #[] 0)) (.cells #[.slice A1 g.sorts.length c1, .map (some (w.heap.size + 1 + 1))] 152)
      simp only [World.size_alloc] at h
      exact h
  case round =>
    clear hmm
    obtain ⟨k, rfl, f, hk, hsm, hfm, hbw, hr, hb⟩ := hrel
    have HSM := Lib.hid hsm
    have HFM := Lib.hid hfm
    have HBW := Lib.hid hbw
    have HR := Lib.hid hr
    have HB := Lib.hid hb
    have hlr := (Array.getElem?_eq_some_iff.1 hb).1
    clear hsm hfm hbw hr hb
    by_cases hlt : k < g.ops.length
    · obtain ⟨d, hd⟩ : ∃ d, g.ops[k]? = some d := ⟨g.ops[k]'hlt, List.getElem?_eq_getElem _⟩
      obtain ⟨b, off, rfl, hbl, hc⟩ := HD.out (by omega)
      obtain ⟨A', c', d0, d1, d2, d3⟩ := hc k d hd
      replace d0 := (HBW.out.cell (p := ⟨b, _, none⟩) hbl).trans d0
      replace d1 := (HBW.out.cell (p := ⟨b, _, none⟩) hbl).trans d1
      replace d2 := (HBW.out.cell (p := ⟨b, _, none⟩) hbl).trans d2
      have HDS := Lib.hid d3
      have hnm := (HOK.out.2.2 d (List.mem_of_getElem? hd)).1
      obtain ⟨W2, hup, hs2, hg2⟩ := (HSM.out.kept (World.grownBy_alloc wr (.cells #[.string d.nm, .slice A' d.args.length c', .string d.res] 140) none) (by simp)).update Tryd.underlying150 (by unfold maxLen; omega) hnm (.agg #[.string d.nm, .slice A' d.args.length c', .string d.res])
      have HS2 := Lib.hid hs2
      have HG2 := Lib.hid hg2
      have HDD := Lib.hid hd
      have hI : (k : Int) < (g.ops.length : Int) := by omega
      obtain ⟨⟨x0, x1⟩, _⟩ := blk2 ((Below.heap_alloc wr (.cells #[.string d.nm, .slice A' d.args.length c', .string d.res] 140) _ hlr).trans HB.out)
      clear hc hd d3 hnm hs2 hg2
      go_wp2_with fail
      go_roundw
      case rel =>
        have hgs := HG2.out.size
        simp at hgs
        have hw := HBW.out.size
        refine ⟨k + 1, by go_num, _, by omega, HS2.out, ?_, ?_, ?_, ?_⟩
        · rw [List.take_add_one, HDD.out]
          exact HFM.out.snoc d A' c' HDS.out
        · exact (HBW.out.alloc hw _).grown HG2.out (by simp; omega) (fun j e => by cases e; omega)
        · exact (HG2.out.block _ (by simp; omega) (fun e => by injection e with e; omega)).trans ((Below.heap_alloc _ _ _ (by omega)).trans HR.out)
        · exact (HG2.out.block _ (by simp; omega) (fun e => by injection e with e; omega)).trans ((Below.heap_alloc _ _ _ hlr).trans HB.out)
      case measure => simp [intOf]; omega
    · have hkl : k = g.ops.length := by omega
      have hI : ¬ (k : Int) < (g.ops.length : Int) := by omega
      have HKL := Lib.hid hkl
      obtain ⟨⟨x0, x1⟩, _⟩ := blk2 HB.out
      obtain ⟨⟨r0, r1⟩, rf0, rf1⟩ := blk2 HR.out
      clear hkl hlt hk
      go_wp2_with fail
      refine bodyPost_ret (v := .agg #[.slice A1 g.sorts.length c1, .map (some (w.heap.size + 1 + 1))]) (by simp [results, Tryd.results105, go_sem, r0, r1]) rfl ?_
      refine ⟨⟨_, f, rfl, by omega, ?_, ?_⟩, ?_⟩
      · rw [← HKL.out]
        exact (HSM.out.setCell (a := ⟨w.heap.size + 1, 0, none⟩) (by simp) _).setCell (a := ⟨w.heap.size + 1, 1, none⟩) (by simp) _
      · have h := HFM.out
        rw [HKL.out, List.take_length] at h
        exact h
      · exact (HBW.out.setCell (p := ⟨w.heap.size + 1, 0, none⟩) (by simp) _).setCell (p := ⟨w.heap.size + 1, 1, none⟩) (by simp) _

/-- A known as a value. -/
def KV (g : Sg) (A1 : Option Addr) (c1 b : Nat) : Value := .agg #[.slice A1 g.sorts.length c1, .map (some b)]
/-- The map of a known in memory, in a block below n₀. -/
def KM (n₀ : Nat) (w : World) (b : Nat) (g : Sg) : Prop := ∃ f m, SMap w b m f ∧ FM n₀ w f g.ops ∧ b < n₀
theorem KM.later {n₀ : Nat} {w w' : World} (hb : Below n₀ w w') {b : Nat} {g : Sg} (h : KM n₀ w b g) : KM n₀ w' b g := by
  obtain ⟨f, m, h1, h2, h3⟩ := h
  exact ⟨f, m, h1.below hb h3, h2.later hb, h3⟩

set_option maxHeartbeats 1000000 in
theorem ownSort_any (g : Sg) (A1 : Option Addr) (c1 b : Nat) (t : Tm) (A : Option Addr) (c n₀ : Nat) (w : World) (hk : KM n₀ w b g) (hn : n₀ ≤ w.heap.size) (hnm : t.nm.size ≤ maxLen) :
    Calls Tryd.prog 108 #[KV g A1 c1 b, TV t A c] w fun e w' => e = .returned (.tuple #[.string (ownS g.ops t).1, .bool (ownS g.ops t).2]) ∧ Below w.heap.size w w' := by
  obtain ⟨f, m, hsm, hfm, hbn⟩ := hk
  have HSM := Lib.hid hsm
  have HFM := Lib.hid hfm
  have HNM := Lib.hid hnm
  have hO : ∀ v, isV t = v → ownS g.ops t = if v then (t.st, true) else match lookD g.ops t.nm with | none => (⟨#[]⟩, false) | some d => (d.res, true) := fun v h => by rw [← h]; rfl
  have HO := Lib.hid hO
  clear hsm hfm hnm hO
  unfold KV TV
  go_enter Tryd.func108, Tryd.ntmps108
  go_wp2_with fail
  refine (isVariable_any t A c _).mono ?_
  rintro e w1 ⟨rfl, hb1⟩
  have hs0 := hb1.size
  simp at hs0
  have HB1 := Lib.hid (((((Below.refl w.heap.size w).alloc (Nat.le_refl _) (.cells #[.slice A1 g.sorts.length c1, .map (some b)] 152)).alloc (by simp) (.cells (tcells t A c) 56))).trans (hb1.mono (by simp; omega)))
  have hbk := cells_below ((Below.heap_alloc _ (.cells (tcells t A c) 56) _ (by simp)).trans (heap_alloc_new w (.cells #[.slice A1 g.sorts.length c1, .map (some b)] 152))) hb1
  have hbt := heap_alloc_new (w.alloc (.cells #[.slice A1 g.sorts.length c1, .map (some b)] 152)) (.cells (tcells t A c) 56)
  simp only [World.size_alloc] at hbt
  replace hbt := cells_below hbt hb1
  obtain ⟨⟨x0, x1⟩, _⟩ := blk2 hbk
  obtain ⟨⟨y0, y1, y2⟩, _⟩ := blk3 hbt
  clear hb1 hbk hbt
  generalize hv : isV t = v at *
  cases v
  · have hsm1 := HSM.out.below HB1.out (by omega)
    have hlk := hsm1.lookup Tryd.underlying150 (Tryd.zeroValue140 w1) HNM.out
    cases hl : lookD g.ops t.nm with
    | none =>
      rw [(HFM.out t.nm).1 hl] at hlk
      simp only [Option.getD, Option.isSome] at hlk
      have HL := Lib.hid hl
      clear hl hsm1
      go_wp2_with fail
      go_ret2
      exact ⟨by rw [HO.out false rfl, HL.out]; rfl, HB1.out.alloc (by omega) _⟩
    | some d =>
      obtain ⟨A', c', hf, _⟩ := (HFM.out t.nm).2 d hl
      rw [hf] at hlk
      simp only [Option.getD, Option.isSome] at hlk
      unfold DV at hlk
      have HL := Lib.hid hl
      clear hl hsm1 hf
      go_wp2_with fail
      go_ret2
      exact ⟨by rw [HO.out false rfl, HL.out]; rfl, HB1.out.alloc (by omega) _⟩
  · go_wp2_with fail
    go_ret2
    exact ⟨by rw [HO.out true rfl]; rfl, HB1.out⟩

/-- What is wrong with a node. -/
def chkArgs (L : List Dc) : List Tm → List ByteArray → Bool
  | k :: ks, a :: bs => if (ownS L k).2 = true ∧ (ownS L k).1 ≠ a then false else chkArgs L ks bs
  | _, _ => true
def chk (g : Sg) (t : Tm) : Int := if isV t then (if memS t.st g.sorts then 0 else 9) else match lookD g.ops t.nm with | none => 9 | some d => if t.ks.length ≠ d.args.length then 3 else if chkArgs g.ops t.ks d.args then 0 else 11
theorem chk_v {g : Sg} {t : Tm} (h : isV t = true) : chk g t = if memS t.st g.sorts then 0 else 9 := by unfold chk; rw [h]; rfl
theorem chk_none {g : Sg} {t : Tm} (h : isV t = false) (hl : lookD g.ops t.nm = none) : chk g t = 9 := by unfold chk; rw [h, hl]; rfl
theorem chk_some {g : Sg} {t : Tm} {d : Dc} (h : isV t = false) (hl : lookD g.ops t.nm = some d) : chk g t = if t.ks.length ≠ d.args.length then 3 else if chkArgs g.ops t.ks d.args then 0 else 11 := by unfold chk; rw [h, hl]; rfl
theorem chkArgs_at {L : List Dc} {ks : List Tm} {bs : List ByteArray} {k : Nat} {x : Tm} {a : ByteArray} (hx : ks[k]? = some x) (ha : bs[k]? = some a) :
    chkArgs L (ks.drop k) (bs.drop k) = if (ownS L x).2 = true ∧ (ownS L x).1 ≠ a then false else chkArgs L (ks.drop (k + 1)) (bs.drop (k + 1)) := by
  obtain ⟨h1, e1⟩ := List.getElem?_eq_some_iff.1 hx
  obtain ⟨h2, e2⟩ := List.getElem?_eq_some_iff.1 ha
  rw [List.drop_eq_getElem_cons h1, List.drop_eq_getElem_cons h2, e1, e2, chkArgs]

/-- What check keeps while it runs: its boxes. -/
structure HW (g : Sg) (A1 : Option Addr) (c1 b : Nat) (t : Tm) (A : Option Addr) (c : Nat) (w w' : World) : Prop where
  below : Below w.heap.size w w'
  bk : w'.heap[w.heap.size]? = some (.cells #[.slice A1 g.sorts.length c1, .map (some b)] 152 (0, 0))
  bt : w'.heap[w.heap.size + 1]? = some (.cells (tcells t A c) 56 (0, 0))
theorem HW.start (g : Sg) (A1 : Option Addr) (c1 b : Nat) (t : Tm) (A : Option Addr) (c : Nat) (w : World) : HW g A1 c1 b t A c w ((w.alloc (.cells #[.slice A1 g.sorts.length c1, .map (some b)] 152)).alloc (.cells (tcells t A c) 56)) :=
  ⟨((Below.refl _ _).alloc (Nat.le_refl _) _).alloc (by simp) _, (Below.heap_alloc _ _ _ (by simp)).trans (heap_alloc_new w _), by
    have := heap_alloc_new (w.alloc (.cells #[.slice A1 g.sorts.length c1, .map (some b)] 152)) (.cells (tcells t A c) 56)
    simpa using this⟩
theorem HW.next {g : Sg} {A1 : Option Addr} {c1 b : Nat} {t : Tm} {A : Option Addr} {c : Nat} {w w1 w2 : World} (h : HW g A1 c1 b t A c w w1) (hb : Below w1.heap.size w1 w2) : HW g A1 c1 b t A c w w2 :=
  ⟨h.below.trans (hb.mono h.below.size), cells_below h.bk hb, cells_below h.bt hb⟩

set_option maxHeartbeats 2000000 in
theorem check_any (g : Sg) (A1 : Option Addr) (c1 b : Nat) (t : Tm) (A : Option Addr) (c n₀ : Nat) (w : World) (hs : SlS n₀ w A1 g.sorts) (hk : KM n₀ w b g) (hrep : TRep n₀ w t A) (hn : n₀ ≤ w.heap.size) (hok : okT maxLen t) (hog : okG g) :
    Calls Tryd.prog 107 #[KV g A1 c1 b, TV t A c] w fun e w' => e = .returned (.int .i64 (chk g t)) ∧ Below w.heap.size w w' := by
  have HS := Lib.hid hs
  have HK := Lib.hid hk
  have HREP := Lib.hid hrep
  have HOK := Lib.hid hok
  have HOG := Lib.hid hog
  have H0 := Lib.hid (HW.start g A1 c1 b t A c w)
  have hlk := hok.len
  unfold maxLen at hlk
  clear hs hk hrep hok hog
  generalize hv : isV t = v
  unfold KV TV
  go_enter Tryd.func107, Tryd.ntmps107
  go_wp2_with fail
  refine (isVariable_any t A c _).mono ?_
  rintro e w1 ⟨rfl, hb1⟩
  rw [hv]
  have H1 := Lib.hid (H0.out.next hb1)
  obtain ⟨⟨x0, x1⟩, _⟩ := blk2 H1.out.bk
  obtain ⟨⟨y0, y1, y2⟩, _⟩ := blk3 H1.out.bt
  clear hb1
  cases v
  · obtain ⟨f, m, hsm, hfm, hbn⟩ := HK.out
    have hsm1 := hsm.below (H1.out.below.mono hn) hbn
    have hlk := hsm1.lookup Tryd.underlying150 (Tryd.zeroValue140 w1) HOK.out.nm
    have HFM := Lib.hid hfm
    clear hsm hsm1 hfm
    cases hl : lookD g.ops t.nm with
    | none =>
      rw [(HFM.out t.nm).1 hl] at hlk
      simp only [Option.getD, Option.isSome] at hlk
      have HC := Lib.hid (chk_none hv hl)
      clear hl
      go_wp2_with fail
      go_ret
      exact ⟨by rw [HC.out]; rfl, H1.out.below.alloc H1.out.below.size _⟩
    | some d =>
      obtain ⟨A', c', hf, hsd⟩ := (HFM.out t.nm).2 d hl
      rw [hf] at hlk
      simp only [Option.getD, Option.isSome] at hlk
      unfold DV at hlk
      have HSD := Lib.hid hsd
      have hod := HOG.out.2.2 d (lookD_mem hl).1
      have HOD := Lib.hid hod
      have hld := hod.2.2.1
      unfold maxLen at hld
      have HC := Lib.hid (chk_some hv hl)
      clear hl hf hsd hod
      have H2 := Lib.hid (H1.out.next ((Below.refl _ _).alloc (Nat.le_refl _) (.cells #[.string d.nm, .slice A' d.args.length c', .string d.res] 140)))
      have HBD := Lib.hid (heap_alloc_new w1 (.cells #[.string d.nm, .slice A' d.args.length c', .string d.res] 140))
      obtain ⟨⟨u0, u1, u2⟩, _⟩ := blk3 H2.out.bt
      by_cases hlen : t.ks.length = d.args.length
      · have hcc := HC.out
        rw [if_neg (fun h => h hlen)] at hcc
        have HCC := Lib.hid hcc
        have HLEN := Lib.hid hlen
        have hb : ((t.ks.length : Int) == (d.args.length : Int)) = true := by rw [hlen]; exact beq_self_eq_true _
        have hb2 : ((t.ks.length : Int) != (d.args.length : Int)) = false := by rw [hlen]; exact bne_self_eq_false _
        clear hcc hlen HC
        go_wp2_with fail
        clear x0 x1 y0 y1 y2 u0 u1 u2 hb hb2
        have hw1 := H1.out.below.size
        go_loopw [38] (fun y wr => ∃ k : Nat, y = .int .i64 k ∧ k ≤ t.ks.length ∧ HW g A1 c1 b t A c w wr ∧ wr.heap[w1.heap.size]? = some (.cells #[.string d.nm, .slice A' d.args.length c', .string d.res] 140 (0, 0)) ∧ chkArgs g.ops t.ks d.args = chkArgs g.ops (t.ks.drop k) (d.args.drop k)) (fun y _ => t.ks.length - (intOf y).toNat)
        case atStart => exact ⟨0, rfl, by omega, H2.out, HBD.out, rfl⟩
        case round =>
          clear H0 H1 H2 HBD
          obtain ⟨k, rfl, hk, hw, hbd, hck⟩ := hrel
          have HW0 := Lib.hid hw
          have HBD := Lib.hid hbd
          have HCK := Lib.hid hck
          clear hw hbd hck
          obtain ⟨⟨x0, x1⟩, _⟩ := blk2 HW0.out.bk
          obtain ⟨⟨y0, y1, y2⟩, _⟩ := blk3 HW0.out.bt
          by_cases hlt : k < t.ks.length
          · have hlt2 : k < d.args.length := by have := HLEN.out; omega
            obtain ⟨x, hx⟩ : ∃ x, t.ks[k]? = some x := ⟨t.ks[k]'hlt, List.getElem?_eq_getElem _⟩
            obtain ⟨a, ha⟩ : ∃ a, d.args[k]? = some a := ⟨d.args[k]'hlt2, List.getElem?_eq_getElem _⟩
            obtain ⟨tb, to, B1, e1, rfl, htb, u0, u1, u2, hrx⟩ := HREP.out.kid (i := k) hx
            obtain ⟨ab, ao, rfl, hab, hca⟩ := HSD.out (by omega)
            have v0 := hca k a ha
            have hbn := HW0.out.below.mono hn
            replace u0 := (hbn.cell (p := ⟨tb, _, none⟩) htb).trans u0
            replace u1 := (hbn.cell (p := ⟨tb, _, none⟩) htb).trans u1
            replace u2 := (hbn.cell (p := ⟨tb, _, none⟩) htb).trans u2
            have hws := HW0.out.below.size
            have HC := Lib.hid (ownSort_any g A1 c1 b x B1 e1 n₀ wr.drew (HK.out.later hbn.drew) (by simp; omega) (HOK.out.kid (List.mem_of_getElem? hx)).nm)
            have HX := Lib.hid hx
            have HA := Lib.hid ha
            have HV0 := Lib.hid ((hbn.cell (p := ⟨ab, _, none⟩) hab).trans v0)
            have hI : (k : Int) < (t.ks.length : Int) := by omega
            have hI2 : (k : Int) < (d.args.length : Int) := by omega
            clear hx ha hca v0 hrx hbn
            go_wp2_with fail
            go_region_with (refine HC.out.mono ?_; rintro e w5 ⟨rfl, hb5⟩)
            all_goals
              have HW5 := Lib.hid (HW0.out.next ((Below.refl _ _).drew.trans hb5))
              have hbd5 := cells_below HBD.out ((Below.refl _ _).drew.trans hb5)
              have HBD5 := Lib.hid hbd5
              obtain ⟨⟨z0, z1, z2⟩, _⟩ := blk3 hbd5
              have v0 := (((Below.refl wr.heap.size wr).drew.trans hb5).cell (p := ⟨ab, ao + k, none⟩) (by show ab < wr.heap.size; omega)).trans HV0.out
              clear hbd5 hb5 HC x0 x1 y0 y1 y2 u0 u1 u2
              generalize ho : ownS g.ops x = o
              obtain ⟨s, hs⟩ := o
              have HO := Lib.hid ho
              clear ho
              dsimp only
              cases hs
              · go_wp2_with fail
                go_roundw
                case rel =>
                  refine ⟨k + 1, by go_num, by omega, HW5.out, HBD5.out, ?_⟩
                  rw [HCK.out, chkArgs_at HX.out HA.out, HO.out, if_neg (fun h => by cases h.1)]
                case measure => simp [intOf]; omega
              · by_cases hsa : s = a
                · have hb := str_eq_true hsa
                  have HSA := Lib.hid hsa
                  clear hsa
                  go_wp2_with fail
                  go_roundw
                  case rel =>
                    refine ⟨k + 1, by go_num, by omega, HW5.out, HBD5.out, ?_⟩
                    rw [HCK.out, chkArgs_at HX.out HA.out, HO.out, if_neg (fun h => h.2 HSA.out)]
                  case measure => simp [intOf]; omega
                · have hb := str_eq_false hsa
                  have HSA := Lib.hid hsa
                  clear hsa
                  go_wp2_with fail
                  go_ret
                  exact ⟨by rw [HCC.out, HCK.out, chkArgs_at HX.out HA.out, HO.out, if_pos (show (s, true).2 = true ∧ (s, true).1 ≠ a from ⟨rfl, HSA.out⟩)]; rfl, HW5.out.below⟩
          · have hkl : k = t.ks.length := by omega
            have HKL := Lib.hid hkl
            have hI : ¬ (k : Int) < (t.ks.length : Int) := by omega
            clear hkl
            go_wp2_with fail
            go_ret
            refine ⟨?_, HW0.out.below⟩
            have : t.ks.drop k = [] := by rw [HKL.out, List.drop_length]
            rw [HCC.out, HCK.out, this]; rfl
      · have HLEN := Lib.hid hlen
        go_wp2_with fail
        go_ret
        exact ⟨by rw [HC.out, if_pos HLEN.out]; rfl, H2.out.below⟩
  · go_wp2_with fail
    refine (contains_any A1 c1 g.sorts t.st n₀ _ (HS.out.later (H1.out.below.mono hn)) HOG.out.1.1).mono ?_
    rintro e w2 ⟨rfl, rfl⟩
    have HC := Lib.hid (chk_v (g := g) hv)
    clear x0 x1 y0 y1 y2
    generalize hm : memS t.st g.sorts = m at *
    cases m
    · go_wp2_with fail
      go_ret
      exact ⟨by rw [HC.out]; rfl, H1.out.below⟩
    · go_wp2_with fail
      go_ret
      exact ⟨by rw [HC.out]; rfl, H1.out.below⟩
end Go.Proofs.YthbcfcbonmphfaaDoor
