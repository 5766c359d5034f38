/- Parse, where the text has tokens. -/
import Derived.Deep.RegionWith
import Derived.Test.YthbcfcbonmphfaaDoorPlacCBundle
import Derived.Test.YthbcfcbonmphfaaDoorTermGBundle
import Derived.Test.YthbcfcbonmphfaaDoorTermTBundle
/- TextSignature. -/
namespace Go.Proofs.YthbcfcbonmphfaaDoor
open Go.RowKit Go.Shelf
set_option maxRecDepth 100000

def limRes (xs : List UInt8) : Value := if 65536 < xs.length then .tuple #[.string ⟨#[]⟩, .int .i64 4] else .tuple #[.string ⟨xs.toArray⟩, .int .i64 0]
set_option maxHeartbeats 1000000 in
theorem bldLen_any (b : Nat) (xs : List UInt8) (w : World) (h : Bld w b xs) : Calls Tryd.prog 130 #[.pointer (some ⟨b, 0, none⟩)] w fun e w' => e = .returned (.int .i64 xs.length) ∧ w' = w := by
  obtain ⟨p, v, hp, hb, ho⟩ := h.ex
  obtain ⟨A, cap, rfl⟩ := own_slice ho
  obtain ⟨⟨a0, a1⟩, _⟩ := blk2 hb
  clear h hp hb ho
  go_enter Tryd.func130, Tryd.ntmps130
  go_wp2_with fail
  go_ret
  exact ⟨rfl, rfl⟩
set_option maxHeartbeats 1000000 in
theorem limited_any (b : Nat) (xs : List UInt8) (w : World) (h : Bld w (b + 1) xs) : Calls Tryd.prog 92 #[.pointer (some ⟨b + 1, 0, none⟩)] w fun e w' => e = .returned (limRes xs) ∧ Below b w w' := by
  have H := Lib.hid h
  have hlt : b + 1 < w.heap.size := by obtain ⟨p, v, _, hb, _⟩ := h.ex; exact (Array.getElem?_eq_some_iff.1 hb).1
  clear h
  by_cases hl : 65536 < xs.length
  · have hr : limRes xs = .tuple #[.string ⟨#[]⟩, .int .i64 4] := by unfold limRes; rw [if_pos hl]
    rw [hr]
    have hI : decide ((65536 : Int) < (xs.length : Int)) = true := decide_eq_true (by omega)
    clear hl hr
    go_enter Tryd.func92, Tryd.ntmps92
    go_wp2_with fail
    refine (bldLen_any (b + 1) xs w H.out).mono ?_
    rintro e w1 ⟨rfl, rfl⟩
    go_wp2_with fail
    go_ret2
    exact ⟨rfl, Below.refl _ _⟩
  · have hr : limRes xs = .tuple #[.string ⟨xs.toArray⟩, .int .i64 0] := by unfold limRes; rw [if_neg hl]
    rw [hr]
    have hI : decide ((65536 : Int) < (xs.length : Int)) = false := decide_eq_false (by omega)
    clear hl hr
    go_enter Tryd.func92, Tryd.ntmps92
    go_wp2_with fail
    refine (bldLen_any (b + 1) xs w H.out).mono ?_
    rintro e w1 ⟨rfl, rfl⟩
    go_wp2_with fail
    refine (string_any b (b + 1) xs w1 H.out.isF (by omega)).mono ?_
    rintro e w2 ⟨rfl, _, hb2, _⟩
    have HB2 := Lib.hid hb2
    clear hb2
    go_wp2_with fail
    go_ret2
    exact ⟨rfl, HB2.out⟩

def joinC : List ByteArray → List UInt8
  | [] => []
  | [s] => s.data.toList
  | s :: t :: l => s.data.toList ++ [44, 32] ++ joinC (t :: l)
set_option maxHeartbeats 1000000 in
theorem join2_any (A : Option Addr) (c : Nat) (L : List ByteArray) (n₀ : Nat) (w : World) (hs : SlS n₀ w A L) (h1 : L.length ≤ 1) :
    Calls Tryd.prog 102 #[.slice A L.length c, .string ⟨#[44, 32]⟩] w fun e w' => (∃ js : ByteArray, e = .returned (.string js) ∧ js.data.toList = joinC L) ∧ Below w.heap.size w w' := by
  match L, hs, h1 with
  | [], _, _ =>
    go_enter Tryd.func102, Tryd.ntmps102
    go_wp2_with fail
    go_ret
    exact ⟨⟨⟨#[]⟩, rfl, rfl⟩, Below.refl _ _⟩
  | [s], hs, _ =>
    obtain ⟨b, off, rfl, _, hc⟩ := hs (by simp)
    have y := hc 0 s rfl
    clear hc hs
    simp only [Nat.add_zero] at y
    go_enter Tryd.func102, Tryd.ntmps102
    go_wp2_with fail
    go_ret
    exact ⟨⟨s, rfl, rfl⟩, Below.refl _ _⟩
  | _ :: _ :: _, _, h1 => exact absurd h1 (by simp)

/-- Join answers as it should on a list of short strings. -/
def JoinsOk (L : List ByteArray) (c : Nat) : Prop := ∀ (A : Option Addr) (n₀ : Nat) (w : World), SlS n₀ w A L → n₀ ≤ w.heap.size → L.length ≤ 6 → (∀ a, a ∈ L → a.data.toList.length ≤ 40) →
    Calls Tryd.prog 102 #[.slice A L.length c, .string ⟨#[44, 32]⟩] w fun e w' => (∃ js : ByteArray, e = .returned (.string js) ∧ js.data.toList = joinC L) ∧ Below w.heap.size w w'
theorem joins_two {L : List ByteArray} (h : L.length ≤ 1) (c : Nat) : JoinsOk L c := fun A n₀ w hs _ _ _ => join2_any A c L n₀ w hs h

def sortTxt (s : ByteArray) : List UInt8 := [115, 111, 114, 116, 32] ++ s.data.toList ++ [10]
def opTxt (d : Dc) : List UInt8 := [111, 112, 32] ++ d.nm.data.toList ++ [40] ++ joinC d.args ++ [41, 32, 45, 62, 32] ++ d.res.data.toList ++ [10]
def sigTxt (g : Sg) : List UInt8 := g.sorts.flatMap sortTxt ++ g.ops.flatMap opTxt

theorem isName_len40 {l : List UInt8} (h : isName l = true) : l.length ≤ 40 := by
  unfold isName at h
  simp only [Bool.and_eq_true, decide_eq_true_eq] at h
  exact h.1.1.1.2
theorem valid_parts {g : Sg} (h : validSg g = true) : g.sorts.length ≤ 40 ∧ g.ops.length ≤ 100 ∧ (∀ s, s ∈ g.sorts → s.data.toList.length ≤ 40) ∧ ∀ d, d ∈ g.ops → d.nm.data.toList.length ≤ 40 ∧ d.args.length ≤ 6 ∧ (∀ a, a ∈ d.args → a.data.toList.length ≤ 40) ∧ d.res.data.toList.length ≤ 40 := by
  unfold validSg diffL at h
  simp only [Bool.and_eq_true, decide_eq_true_eq, List.all_eq_true] at h
  obtain ⟨⟨⟨⟨h1, h2⟩, h3, _⟩, h4⟩, h5, _⟩ := h
  have hs : ∀ s, s ∈ g.sorts → s.data.toList.length ≤ 40 := fun s hs => by
    have := isName_len40 (h3 s hs)
    rwa [Lib.toList_data] at this
  refine ⟨h1, h2, hs, fun d hd => ?_⟩
  have hv := h4 d hd
  unfold validDc at hv
  simp only [Bool.and_eq_true, decide_eq_true_eq, List.all_eq_true] at hv
  obtain ⟨⟨v1, v2⟩, v3⟩ := hv
  refine ⟨?_, v1, fun a ha => hs a ((memS_iff a g.sorts).1 (v2 a ha)), hs _ ((memS_iff _ g.sorts).1 v3)⟩
  have := isName_len40 (h5 d.nm (List.mem_map.2 ⟨d, hd, rfl⟩))
  rwa [Lib.toList_data] at this

theorem fm_len {α : Type} (f : α → List UInt8) (m : Nat) : ∀ L : List α, (∀ x, x ∈ L → (f x).length ≤ m) → (L.flatMap f).length ≤ m * L.length
  | [], _ => by simp
  | x :: L, h => by
    have h1 := h x (by simp)
    have h2 := fm_len f m L (fun y hy => h y (by simp [hy]))
    rw [List.flatMap_cons, List.length_append, List.length_cons, Nat.mul_add]
    omega
theorem joinC_len : ∀ L : List ByteArray, (∀ x, x ∈ L → x.data.toList.length ≤ 40) → (joinC L).length ≤ 42 * L.length
  | [], _ => by simp [joinC]
  | [s], h => by
    have := h s (by simp)
    simp only [joinC, List.length_cons, List.length_nil]; omega
  | s :: t :: l, h => by
    have h1 := h s (by simp)
    have h2 := joinC_len (t :: l) (fun y hy => h y (by simp at hy ⊢; exact .inr hy))
    rw [joinC, List.length_append, List.length_append, List.length_cons (a := s)]
    simp only [List.length_cons, List.length_nil] at h2 ⊢
    omega
theorem sortTxt_len {s : ByteArray} (h : s.data.toList.length ≤ 40) : (sortTxt s).length ≤ 46 := by
  unfold sortTxt; simp only [List.length_append, List.length_cons, List.length_nil]; omega
theorem opTxt_len {d : Dc} (h1 : d.nm.data.toList.length ≤ 40) (h2 : d.args.length ≤ 6) (h3 : ∀ a, a ∈ d.args → a.data.toList.length ≤ 40) (h4 : d.res.data.toList.length ≤ 40) : (opTxt d).length ≤ 342 := by
  have := joinC_len d.args h3
  unfold opTxt; simp only [List.length_append, List.length_cons, List.length_nil]; omega

/-- What TextSignature hands back. -/
def txtSig (g : Sg) : Value := if validSg g = true then limRes (sigTxt g) else .tuple #[.string ⟨#[]⟩, .int .i64 1]
theorem txtSig_ok {g : Sg} (h : validSg g = true) : txtSig g = limRes (sigTxt g) := by unfold txtSig; rw [if_pos h]
theorem txtSig_bad {g : Sg} (h : validSg g = false) : txtSig g = .tuple #[.string ⟨#[]⟩, .int .i64 1] := by unfold txtSig; rw [h]; rfl

def XInv (g : Sg) (A1 : Option Addr) (c1 : Nat) (A2 : Option Addr) (c2 : Nat) (w : World) (B : Nat) (xs : List UInt8) (wr : World) : Prop :=
  Bld wr B xs ∧ Below w.heap.size w wr ∧ wr.heap[w.heap.size]? = some (.cells (gcells g A1 c1 A2 c2) 82 (0, 0))

set_option maxHeartbeats 4000000 in
theorem TextSignature_any (g : Sg) (A1 : Option Addr) (c1 : Nat) (A2 : Option Addr) (c2 : Nat) (w : World) (hs : SlS w.heap.size w A1 g.sorts) (hd : SlD w.heap.size w A2 g.ops) (hok : okG g) (hJ : ∀ (i : Nat) (d : Dc) (b off : Nat) (A' : Option Addr) (c' : Nat), g.ops[i]? = some d → A2 = some ⟨b, off, none⟩ → w.cell? ⟨b, off + i * 3 + 1, none⟩ = some (.slice A' d.args.length c') → JoinsOk d.args c') :
    Calls Tryd.prog 49 #[GV g A1 c1 A2 c2] w fun e w' => e = .returned (txtSig g) ∧ Below w.heap.size w w' := by
  have HS := Lib.hid hs
  have HD := Lib.hid hd
  have HOK := Lib.hid hok
  have HJ := Lib.hid hJ
  have hbx := heap_alloc_new w (.cells (gcells g A1 c1 A2 c2) 82)
  have HBX := Lib.hid hbx
  obtain ⟨⟨x0, x1⟩, _⟩ := blk2 hbx
  have HB0 := Lib.hid ((Below.refl w.heap.size w).alloc (Nat.le_refl _) (.cells (gcells g A1 c1 A2 c2) 82))
  have hl1 := hok.1.1
  have hl2 := hok.2.1
  unfold maxLen at hl1 hl2
  clear hs hd hok hbx hJ
  unfold GV
  go_enter Tryd.func49, Tryd.ntmps49
  go_wp2_with fail
  refine (validSignature_any g A1 c1 A2 c2 _ ((HS.out.later HB0.out).mono HB0.out.size) ((HD.out.later HB0.out).mono HB0.out.size) HOK.out).mono ?_
  rintro e w1 ⟨rfl, hb1⟩
  have hs1 := hb1.size
  simp at hs1
  have HB1 := Lib.hid (HB0.out.trans (hb1.mono HB0.out.size))
  have HBX1 := Lib.hid (cells_below HBX.out hb1)
  clear hb1 x0 x1 HBX
  obtain ⟨⟨x0, x1⟩, _⟩ := blk2 HBX1.out
  generalize hvg : validSg g = vg
  have HVG := Lib.hid hvg
  cases vg
  · clear hvg
    go_wp2_with fail
    go_ret2
    exact ⟨by rw [txtSig_bad HVG.out]; rfl, HB1.out⟩
  · have HP := Lib.hid (valid_parts hvg)
    clear hvg
    obtain ⟨B, hB⟩ : ∃ B, w1.heap.size = B + 1 := ⟨w1.heap.size - 1, by omega⟩
    have HBe := Lib.hid hB
    have hx0 := (Below.heap_alloc w1 (.cells #[.pointer none, .slice none 0 0] 46) _ (by omega)).trans HBX1.out
    have HX0 := Lib.hid hx0
    clear x0 x1
    obtain ⟨⟨x0, x1⟩, _⟩ := blk2 hx0
    clear hx0 hB
    go_wp2_with fail
    go_loopw [15] (fun y wr => ∃ k : Nat, y = .int .i64 k ∧ k ≤ g.sorts.length ∧ XInv g A1 c1 A2 c2 w w1.heap.size ((g.sorts.take k).flatMap sortTxt) wr) (fun y _ => g.sorts.length - (intOf y).toNat)
    case atStart =>
      refine ⟨0, rfl, Nat.zero_le _, ⟨_, _, .inl rfl, heap_alloc_new _ _, World.ownsRow_nil _ _ _ _⟩, HB1.out.alloc HB1.out.size _, HX0.out⟩
    case round =>
      clear x0 x1 HX0
      obtain ⟨k, rfl, hk, hbl, hbw, hbx⟩ := hrel
      have HBL := Lib.hid hbl
      have HBW := Lib.hid hbw
      have HBX := Lib.hid hbx
      have hws := hbw.size
      clear hbl hbw
      by_cases hlt : k < g.sorts.length
      · obtain ⟨s, hs⟩ : ∃ s, g.sorts[k]? = some s := ⟨g.sorts[k]'hlt, List.getElem?_eq_getElem _⟩
        obtain ⟨b, off, rfl, hbl, hc⟩ := (HS.out.later HBW.out) (by omega)
        have y := hc k s hs
        have HSS := Lib.hid hs
        have hI : (k : Int) < (g.sorts.length : Int) := by omega
        have hsz : s.size ≤ 40 := by have := HP.out.2.2.1 s (List.mem_of_getElem? hs); rwa [size_toList] at this
        have n1 : ¬ 9223372036854775807 < 5 + s.size := by omega
        have n2 : ¬ 9223372036854775807 < 5 + s.size + 1 := by omega
        have hxl : ((g.sorts.take k).flatMap sortTxt).length ≤ 46 * 40 := Nat.le_trans (fm_len sortTxt 46 _ (fun x hx => sortTxt_len (HP.out.2.2.1 x (List.mem_of_mem_take hx)))) (Nat.mul_le_mul_left _ (by rw [List.length_take]; have := HP.out.1; omega))
        have HXL := Lib.hid hxl
        clear hc hs hbx hxl
        go_wp2_with fail
        refine (writeString_any w1.heap.size _ _ wr HBL.out (by rw [ByteArray.size_append, ByteArray.size_append]; have := HXL.out; show _ + (5 + s.size + 1) ≤ _; omega)).mono ?_
        rintro e w2 ⟨rfl, hbl2, hb2⟩
        have HBL2 := Lib.hid hbl2
        have HB2 := Lib.hid hb2
        clear hbl2 hb2 n1 n2
        go_wp2_with fail
        go_roundw
        case rel =>
          refine ⟨k + 1, by go_num, by omega, ?_, HBW.out.trans (HB2.out.mono (by omega)), (HB2.out.block _ (by omega)).trans HBX.out⟩
          rw [List.take_add_one, HSS.out, List.flatMap_append]
          have := HBL2.out
          rw [ByteArray.data_append, Array.toList_append, ByteArray.data_append, Array.toList_append] at this
          simpa [sortTxt] using this
        case measure => simp [intOf]; omega
      · have hkl : k = g.sorts.length := by omega
        have HKL := Lib.hid hkl
        have hI : ¬ (k : Int) < (g.sorts.length : Int) := by omega
        obtain ⟨⟨x0, x1⟩, _⟩ := blk2 hbx
        clear hkl hbx
        go_wp2_with fail
        clear x0 x1
        have HBLs := Lib.hid HBL.out
        go_loopw [27] (fun y wr => ∃ k : Nat, y = .int .i64 k ∧ k ≤ g.ops.length ∧ XInv g A1 c1 A2 c2 w w1.heap.size (g.sorts.flatMap sortTxt ++ (g.ops.take k).flatMap opTxt) wr) (fun y _ => g.ops.length - (intOf y).toNat)
        case atStart =>
          refine ⟨0, rfl, Nat.zero_le _, ?_, HBW.out, HBX.out⟩
          have h := HBL.out
          rw [HKL.out, List.take_length] at h
          simpa using h
        case round =>
          clear HBL HBW HBX HBLs hws
          obtain ⟨j, rfl, hj, hbl, hbw, hbx⟩ := hrel
          have HBL := Lib.hid hbl
          have HBW := Lib.hid hbw
          have HBX := Lib.hid hbx
          have hws := hbw.size
          have hw1 : w1.heap.size < wr.heap.size := by obtain ⟨p, v, _, hb, _⟩ := hbl.ex; exact (Array.getElem?_eq_some_iff.1 hb).1
          have hxl1 : (g.sorts.flatMap sortTxt).length ≤ 46 * 40 := Nat.le_trans (fm_len sortTxt 46 _ (fun x hx => sortTxt_len (HP.out.2.2.1 x hx))) (Nat.mul_le_mul_left _ HP.out.1)
          have hxl2 : ((g.ops.take j).flatMap opTxt).length ≤ 342 * 100 := Nat.le_trans (fm_len opTxt 342 _ (fun x hx => by
            obtain ⟨p1, p2, p3, p4⟩ := HP.out.2.2.2 x (List.mem_of_mem_take hx)
            exact opTxt_len p1 p2 p3 p4)) (Nat.mul_le_mul_left _ (by rw [List.length_take]; have := HP.out.2.1; omega))
          have hxl3 : (g.sorts.flatMap sortTxt ++ (g.ops.take j).flatMap opTxt).length ≤ 36040 := by
            rw [List.length_append]; omega
          have HXL := Lib.hid hxl3
          clear hbl hbw hxl1 hxl2 hxl3
          by_cases hjt : j < g.ops.length
          · obtain ⟨d, hd⟩ : ∃ d, g.ops[j]? = some d := ⟨g.ops[j]'hjt, List.getElem?_eq_getElem _⟩
            have hmd := List.mem_of_getElem? hd
            obtain ⟨b, off, rfl, hbl, hc⟩ := (HD.out.later HBW.out) (by omega)
            obtain ⟨A', c', d0, d1, d2, d3⟩ := hc j d hd
            obtain ⟨p1, p2, p3, p4⟩ := HP.out.2.2.2 d hmd
            have hjl := joinC_len d.args p3
            rw [size_toList] at p1 p4
            have HDD := Lib.hid hd
            have HB0' := Lib.hid ((Below.refl wr.heap.size wr).alloc (Nat.le_refl _) (.cells #[.string d.nm, .slice A' d.args.length c', .string d.res] 140))
            have HJC := Lib.hid (HJ.out j d b off A' c' hd rfl ((HBW.out.cell (p := ⟨b, off + j * 3 + 1, none⟩) hbl).symm.trans d1) A' w.heap.size (wr.alloc (.cells #[.string d.nm, .slice A' d.args.length c', .string d.res] 140)).drew (d3.later (HB0'.out.mono hws).drew) (by simp; omega) p2 p3)
            have hfact : ∀ w5 : World, Below (wr.alloc (.cells #[.string d.nm, .slice A' d.args.length c', .string d.res] 140)).drew.heap.size (wr.alloc (.cells #[.string d.nm, .slice A' d.args.length c', .string d.res] 140)).drew w5 →
                (w5.cell? ⟨wr.heap.size, 0, none⟩ = some (.string d.nm) ∧ w5.cell? ⟨wr.heap.size, 2, none⟩ = some (.string d.res)) ∧ Bld w5 w1.heap.size (g.sorts.flatMap sortTxt ++ (g.ops.take j).flatMap opTxt) ∧ Below wr.heap.size wr w5 := fun w5 hb5 => by
              have hb : Below (wr.alloc (.cells #[.string d.nm, .slice A' d.args.length c', .string d.res] 140)).heap.size (wr.alloc (.cells #[.string d.nm, .slice A' d.args.length c', .string d.res] 140)) w5 := (Below.refl _ _).drew.trans hb5
              obtain ⟨⟨z0, z1, z2⟩, _⟩ := blk3 (cells_below (heap_alloc_new wr (.cells #[.string d.nm, .slice A' d.args.length c', .string d.res] 140)) hb)
              have hbb := HB0'.out.trans (hb.mono HB0'.out.size)
              exact ⟨⟨z0, z2⟩, HBL.out.below hbb, hbb⟩
            have HF := Lib.hid hfact
            have hI : (j : Int) < (g.ops.length : Int) := by omega
            have n1 : ¬ 9223372036854775807 < 3 + d.nm.size := by omega
            have n2 : ¬ 9223372036854775807 < 3 + d.nm.size + 1 := by omega
            clear hc hd hbx d3 hfact
            go_wp2_with fail
            go_region_with (first
              | (go_at_call 102; refine HJC.out.mono ?_; rintro e w5 ⟨⟨js, rfl, hjs⟩, hb5⟩; obtain ⟨⟨z0, z2⟩, hbl5, hb6⟩ := HF.out w5 hb5; have hjz : js.size ≤ 252 := (by rw [← size_toList, hjs]; omega); have HJS := Lib.hid hjs; have HBL5 := Lib.hid hbl5; have HB6 := Lib.hid hb6; have n3 : ¬ 9223372036854775807 < 3 + d.nm.size + 1 + js.size := (by omega); have n4 : ¬ 9223372036854775807 < 3 + d.nm.size + 1 + js.size + 5 := (by omega); have n5 : ¬ 9223372036854775807 < 3 + d.nm.size + 1 + js.size + 5 + d.res.size := (by omega); have n6 : ¬ 9223372036854775807 < 3 + d.nm.size + 1 + js.size + 5 + d.res.size + 1 := (by omega); clear hjs hb5 hbl5 hb6)
              | (go_at_call 28; refine (writeString_any w1.heap.size _ _ _ HBL5.out (by rw [ByteArray.size_append, ByteArray.size_append, ByteArray.size_append, ByteArray.size_append, ByteArray.size_append, ByteArray.size_append]; have := HXL.out; show _ + (3 + d.nm.size + 1 + js.size + 5 + d.res.size + 1) ≤ _; omega)).mono ?_; rintro e w7 ⟨rfl, hbl7, hb7⟩; have HBL7 := Lib.hid hbl7; have HB7 := Lib.hid hb7; clear hbl7 hb7))
            all_goals
              go_wp2_with fail
              go_roundw
              case rel =>
                refine ⟨j + 1, by go_num, by omega, ?_, (HBW.out.trans (HB6.out.mono hws)).trans (HB7.out.mono (by have := HB6.out.size; omega)), (HB7.out.block _ (by omega)).trans ((HB6.out.block _ (by omega)).trans HBX.out)⟩
                have h := HBL7.out
                rw [ByteArray.data_append, Array.toList_append, ByteArray.data_append, Array.toList_append, ByteArray.data_append, Array.toList_append, ByteArray.data_append, Array.toList_append, ByteArray.data_append, Array.toList_append, ByteArray.data_append, Array.toList_append, HJS.out] at h
                rw [List.take_add_one, HDD.out, List.flatMap_append, ← List.append_assoc]
                simpa [opTxt] using h
              case measure => simp [intOf]; omega
          · have hjl : j = g.ops.length := by omega
            have HJL := Lib.hid hjl
            have hI : ¬ (j : Int) < (g.ops.length : Int) := by omega
            have hB := HBe.out
            have hl := HBL.out
            rw [hB, HJL.out, List.take_length] at hl
            have HLM := Lib.hid (limited_any B (sigTxt g) wr hl)
            have HBn : Hid (w.heap.size ≤ B) := Lib.hid (by omega)
            clear hjl hl
            rw [hB]
            clear hB
            go_wp2_with fail
            refine HLM.out.mono ?_
            rintro e w9 ⟨rfl, hb9⟩
            have HB9 := Lib.hid hb9
            have HT := Lib.hid (txtSig_ok HVG.out)
            clear hb9 HLM
            unfold limRes at HT ⊢
            by_cases hbig : 65536 < (sigTxt g).length
            · rw [if_pos hbig] at HT ⊢
              go_wp2_with fail
              go_ret2
              exact ⟨by rw [HT.out]; rfl, HBW.out.trans (HB9.out.mono HBn.out)⟩
            · rw [if_neg hbig] at HT ⊢
              go_wp2_with fail
              go_ret2
              exact ⟨by rw [HT.out]; rfl, HBW.out.trans (HB9.out.mono HBn.out)⟩
end Go.Proofs.YthbcfcbonmphfaaDoor
namespace Go.Proofs.YthbcfcbonmphfaaDoor
open Go.RowKit Go.Shelf
set_option maxRecDepth 100000

theorem tlen_mem : ∀ {L : List Tk} {x : Tk}, x ∈ L → x.t.length ≤ tlen L
  | [], x, h => by cases h
  | y :: L, x, h => by
    unfold tlen
    rcases List.mem_cons.1 h with rfl | h
    · omega
    · have := tlen_mem h; omega

set_option maxHeartbeats 16000000 in
theorem Parse_ok (s : ByteArray) (w : World) (hle : s.size ≤ 65536) (hp : Pairs w) (L : List Tk) (htk : toks s.data.toList 1 1 = .ok L) : Calls Tryd.prog 41 #[.string s] w (ParsePost s w) := by
  have H0 := Lib.hid (RW.start w)
  have HP0 := Lib.hid ((hp.alloc (.cells #[.string ⟨#[]⟩, .string ⟨#[]⟩, .slice none 0 0] 56)).alloc (.cells #[.int .i64 0, .int .i64 0] 23))
  clear hp
  · have HS : Hid (s.size ≤ 65536) := Lib.hid (by omega)
    have HT := Lib.hid (tokens_any s ((w.alloc (.cells #[.string ⟨#[]⟩, .string ⟨#[]⟩, .slice none 0 0] 56)).alloc (.cells #[.int .i64 0, .int .i64 0] 23)) (by omega) HP0.out)
    clear hle
    go_enter Tryd.func41, Tryd.ntmps41
    go_wp2_with fail
    refine HT.out.mono ?_
    rintro e w1 ⟨hb1, hT⟩
    have H1 := Lib.hid (H0.out.next hb1)
    have H2 := Lib.hid (H1.out.next ((Below.refl _ _).alloc (Nat.le_refl _) (.cells #[.int .i64 0, .int .i64 0] 23)))
    have hs1' := hb1.size
    simp at hs1'
    have hlt0 : w.heap.size < w1.heap.size := by omega
    have hlt1 : w.heap.size + 1 < w1.heap.size := by omega
    clear HT
    · rw [htk] at hT
      simp only at hT
      obtain ⟨v, rfl, ho⟩ := hT
      obtain ⟨hval, _, hends, htl, hln⟩ := toks_places _ _ htk
      have hek := ends_k hends
      have hne : 0 < L.length := by obtain ⟨a, b, e⟩ := hek.ne; rw [e]; simp
      obtain ⟨g, c, rfl, hc1, hc2, hg, htat⟩ := pb_of_own ho hne
      rw [size_toList] at hln
      have hLn : L.length ≤ 65537 := by have := HS.out; omega
      have hpb := pb_new hc1 hc2 hg htat (.cells #[.int .i64 0, .int .i64 0] 23)
      have HTT := Lib.hid (term_any (w1.heap.size + 1) L.length L _ (Nat.le_refl _) (by omega) hpb hek)
      unfold TermOk at HTT
      have HTK := Lib.hid htk
      have H3 := Lib.hid (H2.out.next ((Below.refl _ _).alloc (Nat.le_refl _) (.cells #[.slice (some ⟨g, 0, none⟩) L.length c] 127)))
      have HPX : Hid (((w1.alloc (.cells #[.int .i64 0, .int .i64 0] 23)).alloc (.cells #[.slice (some ⟨g, 0, none⟩) L.length c] 127)).heap[w1.heap.size]? = some (.cells #[.int .i64 0, .int .i64 0] 23 (0, 0))) := Lib.hid ((Below.heap_alloc _ _ _ (by simp)).trans (heap_alloc_new w1 _))
      have HPM := Lib.hid (fun x (hx : x ∈ L) => Nat.le_trans (tlen_mem hx) htl)
      clear htk hb1 ho hval hends htl hpb hek htat hc1 hc2 hne
      go_wp2_with fail
      refine HTT.out.mono ?_
      rintro e w3 ⟨l', hp3, he3, hl3, hg3, hcase⟩
      obtain ⟨x, lr, rfl⟩ := he3.ne
      have H4 := Lib.hid (H3.out.grown hg3 (by omega))
      have HPX3 := Lib.hid (grown_block HPX.out hg3 (by omega))
      have HP3 := Lib.hid hp3
      have HG3 := Lib.hid hg3
      have hs3 := hg3.size
      simp at hs3
      clear hp3 he3 hg3 HTT
      rcases hcase with ⟨t, A, ct, hpt, rfl, htx⟩ | ⟨n, hpt, rfl⟩
      · have HPT := Lib.hid hpt
        have HTX := Lib.hid htx
        have HBX := Lib.hid ((Below.refl w3.heap.size w3).alloc (Nat.le_refl _) (.cells (tcells t A ct) 56))
        have HE := Lib.hid (atEnd_any (w1.heap.size + 1) x lr _ (HP3.out.below HBX.out))
        have H5 := Lib.hid (H4.out.next HBX.out)
        obtain ⟨_, hokt⟩ := PT_ok (M := 65537) hpt (fun y hy => Nat.le_trans (HPM.out y hy) (by rw [size_toList]; have := HS.out; omega)) hLn
        obtain ⟨hok0, hsz0⟩ := hokt t rfl
        have HOKT := Lib.hid (hok0.mono (m' := maxLen) (by unfold maxLen; omega))
        have hsz : t.size ≤ 140737488355326 := by omega
        have hdp : t.depth ≤ 140737488355326 := Nat.le_trans (Tm.depth_le t).2 hsz
        have hrep := ((htx.rep (n₀ := w3.heap.size) (fun b hb => hb.2)).later HBX.out).mono HBX.out.size
        have HREP := Lib.hid hrep
        have HBT := Lib.hid (heap_alloc_new w3 (.cells (tcells t A ct) 56))
        clear hpt htx hokt hok0 hsz0 hrep
        unfold TV
        by_cases hk : x.k = 5
        · have hkb : (x.k == 5) = true := by rw [hk]; rfl
          have HK := Lib.hid hk
          obtain ⟨⟨b0, b1, b2⟩, _⟩ := blk3 HBT.out
          have HFI := Lib.hid (fits_any t A ct _ HREP.out HOKT.out hdp)
          clear hk
          unfold TV at HFI
          go_wp2_with fail
          refine HE.out.mono ?_
          rintro e w4 ⟨rfl, rfl⟩
          go_wp2_with fail
          refine HFI.out.mono ?_
          rintro e w4 ⟨rfl, hb4⟩
          have H6 := Lib.hid (H5.out.next hb4)
          have HBT4 := Lib.hid (cells_below HBT.out hb4)
          have HB4 := Lib.hid (HBX.out.trans (hb4.mono HBX.out.size))
          have hs4 := hb4.size
          simp at hs4
          clear hb4 b0 b1 b2 HFI HE
          generalize hf : fitsL (t.pre 1) = f
          cases f
          · obtain ⟨⟨x0, x1, x2⟩, xf0, xf1, xf2⟩ := blk3 H6.out.c0
            obtain ⟨⟨y0, y1⟩, yf0, yf1⟩ := blk2 H6.out.c1
            have HF := Lib.hid hf
            clear hf
            go_wp2_with fail
            refine bodyPost_ret (v := .tuple #[TV0, .agg #[.int .i64 0, .int .i64 0], .int .i64 4]) (by simp [results, Tryd.results41, go_sem, x0, x1, x2, y0, y1, TV0]) rfl ?_
            refine ⟨?_, .inr (.inr (.inr ⟨HS.out, L, t, x, lr, HTK.out, HPT.out, HK.out, .inl ⟨HF.out, rfl⟩⟩))⟩
            (repeat' (first | exact H6.out.below | refine Below.drew ?_ | refine Below.setCell ?_ (by simp) _ | refine Below.alloc ?_ (by simp <;> omega) _))
          · have HF := Lib.hid hf
            have HVS := Lib.hid (varSorts_any t A ct w4 (((HREP.out.later (by exact (Below.refl _ _))).later (by exact (Below.refl _ _))) |> fun _ => ((HTX.out.rep (n₀ := w3.heap.size) (fun b hb => hb.2)).later HB4.out).mono (by omega)) HOKT.out hdp hsz)
            obtain ⟨⟨b0, b1, b2⟩, _⟩ := blk3 HBT4.out
            clear hf
            unfold TV at HVS
            go_wp2_with fail
            refine HVS.out.mono ?_
            rintro e w5 ⟨⟨m, rfl, _⟩, hb5⟩
            have H7 := Lib.hid (H6.out.next hb5)
            have HBT5 := Lib.hid (cells_below HBT4.out hb5)
            have HB5 := Lib.hid (HB4.out.trans (hb5.mono (by omega)))
            have hs5 := hb5.size
            obtain ⟨⟨x0, x1, x2⟩, xf0, xf1, xf2⟩ := blk3 H7.out.c0
            obtain ⟨⟨y0, y1⟩, yf0, yf1⟩ := blk2 H7.out.c1
            clear hb5 b0 b1 b2 HVS
            obtain ⟨⟨b0, b1, b2⟩, _⟩ := blk3 HBT5.out
            generalize hg : agreeL (t.pre 1) = ag
            have HAG := Lib.hid hg
            clear hg
            cases ag
            · go_wp2_with fail
              refine bodyPost_ret (v := .tuple #[TV0, .agg #[.int .i64 0, .int .i64 0], .int .i64 11]) (by simp [results, Tryd.results41, go_sem, x0, x1, x2, y0, y1, TV0]) rfl ?_
              refine ⟨?_, .inr (.inr (.inr ⟨HS.out, L, t, x, lr, HTK.out, HPT.out, HK.out, .inr (.inl ⟨HF.out, HAG.out, rfl⟩)⟩))⟩
              (repeat' (first | exact H7.out.below | refine Below.drew ?_ | refine Below.setCell ?_ (by simp) _ | refine Below.alloc ?_ (by simp <;> omega) _))
            · go_wp2_with fail
              refine bodyPost_ret (v := .tuple #[TV t A ct, .agg #[.int .i64 0, .int .i64 0], .int .i64 0]) (by simp [results, Tryd.results41, go_sem, x0, x1, x2, y0, y1, TV]) rfl ?_
              refine ⟨?_, .inr (.inr (.inr ⟨HS.out, L, t, x, lr, HTK.out, HPT.out, HK.out, .inr (.inr ⟨HF.out, HAG.out, A, ct, rfl, ?_⟩)⟩))⟩
              · (repeat' (first | exact H7.out.below | refine Below.drew ?_ | refine Below.setCell ?_ (by simp) _ | refine Below.alloc ?_ (by simp <;> omega) _))
              · refine ((HTX.out.keep (fun b hb => HB5.out.block b hb.2)).keep (fun b hb => ?_)).imp (fun b hb => ⟨by have := hb.1; simp at this; omega, by simp; omega⟩)
                have h1 := hb.1
                simp at h1
                (repeat' (first | rfl | refine (Below.heap_setCell _ _ _ _ (by simp; omega)).trans ?_))
        · have hkb : (x.k == 5) = false := beq_eq_false_iff_ne.2 hk
          have HK := Lib.hid hk
          have HF := Lib.hid (fault_any (w1.heap.size + 1) x lr _ (HP3.out.below HBX.out))
          clear hk
          go_wp2_with fail
          refine HE.out.mono ?_
          rintro e w4 ⟨rfl, rfl⟩
          clear H5
          go_wp2_with fail
          refine HF.out.mono ?_
          rintro e w4 ⟨rfl, hb4⟩
          have H5 := Lib.hid ((H4.out.next HBX.out).next hb4)
          have q0 := cells_below (cells_below HPX3.out HBX.out) hb4
          obtain ⟨⟨p0, p1⟩, pf0, pf1⟩ := blk2 q0
          have hs4 := hb4.size
          simp at hs4
          have r0 := heap_setCell_same _ w1.heap.size 1 _ _ (.int .i64 x.b) (heap_setCell_same w4 w1.heap.size 0 _ _ (.int .i64 x.a) q0)
          have H6 : RW w ((w4.setCell ⟨w1.heap.size, 0, none⟩ (.int .i64 x.a)).setCell ⟨w1.heap.size, 1, none⟩ (.int .i64 x.b)) :=
            ⟨(H5.out.below.setCell (p := ⟨w1.heap.size, 0, none⟩) (by show w.heap.size ≤ w1.heap.size; omega) _).setCell (p := ⟨w1.heap.size, 1, none⟩) (by show w.heap.size ≤ w1.heap.size; omega) _,
              (Below.heap_setCell _ _ _ _ (by simp; omega)).trans ((Below.heap_setCell _ _ _ _ (by simp; omega)).trans H5.out.c0),
              (Below.heap_setCell _ _ _ _ (by simp; omega)).trans ((Below.heap_setCell _ _ _ _ (by simp; omega)).trans H5.out.c1)⟩
          have hlt5 : w1.heap.size < ((w4.setCell ⟨w1.heap.size, 0, none⟩ (.int .i64 x.a)).setCell ⟨w1.heap.size, 1, none⟩ (.int .i64 x.b)).heap.size := by simp; omega
          clear q0 hb4 HF
          go_wp2_with fail
          clear p0 p1 pf0 pf1
          generalize ((w4.setCell ⟨w1.heap.size, 0, none⟩ (.int .i64 x.a)).setCell ⟨w1.heap.size, 1, none⟩ (.int .i64 x.b)) = W5 at r0 H6 hlt5 ⊢
          obtain ⟨⟨p0, p1⟩, pf0, pf1⟩ := blk2 r0
          obtain ⟨⟨x0, x1, x2⟩, xf0, xf1, xf2⟩ := blk3 H6.c0
          obtain ⟨⟨y0, y1⟩, yf0, yf1⟩ := blk2 H6.c1
          have HB6 := Lib.hid H6.below
          clear r0 H6
          go_region
          all_goals
            go_wp2
            refine bodyPost_ret (v := .tuple #[TV0, .agg #[.int .i64 x.a, .int .i64 x.b], .int .i64 (fE x)]) (by simp [results, Tryd.results41, go_sem, x0, x1, x2, y0, y1, TV0]) rfl ?_
            refine ⟨?_, .inr (.inr (.inl ⟨HS.out, L, some t, x, lr, HTK.out, HPT.out, .inr HK.out, rfl⟩))⟩
            (repeat' (first | exact HB6.out | refine Below.drew ?_ | refine Below.setCell ?_ (by simp) _ | refine Below.alloc ?_ (by simp <;> omega) _))
      · have HPT := Lib.hid hpt
        have HBX := Lib.hid ((Below.refl w3.heap.size w3).alloc (Nat.le_refl _) (.cells #[.string n, .string ⟨#[]⟩, .slice none 0 0] 56))
        have HF := Lib.hid (fault_any (w1.heap.size + 1) x lr _ (HP3.out.below HBX.out))
        clear hpt
        go_wp2_with fail
        refine HF.out.mono ?_
        rintro e w4 ⟨rfl, hb4⟩
        have H5 := Lib.hid ((H4.out.next HBX.out).next hb4)
        have q0 := cells_below (cells_below HPX3.out HBX.out) hb4
        obtain ⟨⟨p0, p1⟩, pf0, pf1⟩ := blk2 q0
        have hs4 := hb4.size
        simp at hs4
        have r0 := heap_setCell_same _ w1.heap.size 1 _ _ (.int .i64 x.b) (heap_setCell_same w4 w1.heap.size 0 _ _ (.int .i64 x.a) q0)
        have H6 : RW w ((w4.setCell ⟨w1.heap.size, 0, none⟩ (.int .i64 x.a)).setCell ⟨w1.heap.size, 1, none⟩ (.int .i64 x.b)) :=
          ⟨(H5.out.below.setCell (p := ⟨w1.heap.size, 0, none⟩) (by show w.heap.size ≤ w1.heap.size; omega) _).setCell (p := ⟨w1.heap.size, 1, none⟩) (by show w.heap.size ≤ w1.heap.size; omega) _,
            (Below.heap_setCell _ _ _ _ (by simp; omega)).trans ((Below.heap_setCell _ _ _ _ (by simp; omega)).trans H5.out.c0),
            (Below.heap_setCell _ _ _ _ (by simp; omega)).trans ((Below.heap_setCell _ _ _ _ (by simp; omega)).trans H5.out.c1)⟩
        have hlt5 : w1.heap.size < ((w4.setCell ⟨w1.heap.size, 0, none⟩ (.int .i64 x.a)).setCell ⟨w1.heap.size, 1, none⟩ (.int .i64 x.b)).heap.size := by simp; omega
        clear q0 hb4 HF
        go_wp2_with fail
        clear p0 p1 pf0 pf1
        generalize ((w4.setCell ⟨w1.heap.size, 0, none⟩ (.int .i64 x.a)).setCell ⟨w1.heap.size, 1, none⟩ (.int .i64 x.b)) = W5 at r0 H6 hlt5 ⊢
        obtain ⟨⟨p0, p1⟩, pf0, pf1⟩ := blk2 r0
        obtain ⟨⟨x0, x1, x2⟩, xf0, xf1, xf2⟩ := blk3 H6.c0
        obtain ⟨⟨y0, y1⟩, yf0, yf1⟩ := blk2 H6.c1
        have HB6 := Lib.hid H6.below
        clear r0 H6
        go_region
        all_goals
          go_wp2
          refine bodyPost_ret (v := .tuple #[TV0, .agg #[.int .i64 x.a, .int .i64 x.b], .int .i64 (fE x)]) (by simp [results, Tryd.results41, go_sem, x0, x1, x2, y0, y1, TV0]) rfl ?_
          refine ⟨?_, .inr (.inr (.inl ⟨HS.out, L, none, x, lr, HTK.out, HPT.out, .inl rfl, rfl⟩))⟩
          (repeat' (first | exact HB6.out | refine Below.drew ?_ | refine Below.setCell ?_ (by simp) _ | refine Below.alloc ?_ (by simp <;> omega) _))
end Go.Proofs.YthbcfcbonmphfaaDoor
