/- TextSignature. -/
import Derived.Deep.RegionWith
import Derived.Test.YthbcfcbonmphfaaDoorPlacC
import Derived.Test.YthbcfcbonmphfaaDoorTermG
namespace Go.Proofs.YthbcfcbonmphfaaDoor
open Go.RowKit Go.Shelf
set_option maxRecDepth 100000

def limRes (xs : List UInt8) : Value := if 65536 < xs.length then .tuple #[.string ⟨#[]⟩, .int .i64 4] else .tuple #[.string ⟨xs.toArray⟩, .int .i64 0]
set_option maxHeartbeats 1000000 in
theorem bldLen_any (b : Nat) (xs : List UInt8) (w : World) (h : Bld w b xs) : Calls Tryd.prog 130 #[.pointer (some ⟨b, 0, none⟩)] w fun e w' => e = .returned (.int .i64 xs.length) ∧ w' = w := by
  obtain ⟨p, v, hp, hb, ho⟩ := h.ex
  obtain ⟨A, cap, rfl⟩ := own_slice ho
  obtain ⟨⟨a0, a1⟩, _⟩ := blk2 hb
  clear h hp hb ho
  go_enter Tryd.func130, Tryd.ntmps130
  go_wp2_with fail
  go_ret
  exact ⟨rfl, rfl⟩
set_option maxHeartbeats 1000000 in
theorem limited_any (b : Nat) (xs : List UInt8) (w : World) (h : Bld w (b + 1) xs) : Calls Tryd.prog 92 #[.pointer (some ⟨b + 1, 0, none⟩)] w fun e w' => e = .returned (limRes xs) ∧ Below b w w' := by
  have H := Lib.hid h
  have hlt : b + 1 < w.heap.size := by obtain ⟨p, v, _, hb, _⟩ := h.ex; exact (Array.getElem?_eq_some_iff.1 hb).1
  clear h
  by_cases hl : 65536 < xs.length
  · have hr : limRes xs = .tuple #[.string ⟨#[]⟩, .int .i64 4] := by unfold limRes; rw [if_pos hl]
    rw [hr]
    have hI : decide ((65536 : Int) < (xs.length : Int)) = true := decide_eq_true (by omega)
    clear hl hr
    go_enter Tryd.func92, Tryd.ntmps92
    go_wp2_with fail
    refine (bldLen_any (b + 1) xs w H.out).mono ?_
    rintro e w1 ⟨rfl, rfl⟩
    go_wp2_with fail
    go_ret2
    exact ⟨rfl, Below.refl _ _⟩
  · have hr : limRes xs = .tuple #[.string ⟨xs.toArray⟩, .int .i64 0] := by unfold limRes; rw [if_neg hl]
    rw [hr]
    have hI : decide ((65536 : Int) < (xs.length : Int)) = false := decide_eq_false (by omega)
    clear hl hr
    go_enter Tryd.func92, Tryd.ntmps92
    go_wp2_with fail
    refine (bldLen_any (b + 1) xs w H.out).mono ?_
    rintro e w1 ⟨rfl, rfl⟩
    go_wp2_with fail
    refine (string_any b (b + 1) xs w1 H.out.isF (by omega)).mono ?_
    rintro e w2 ⟨rfl, _, hb2, _⟩
    have HB2 := Lib.hid hb2
    clear hb2
    go_wp2_with fail
    go_ret2
    exact ⟨rfl, HB2.out⟩

def joinC : List ByteArray → List UInt8
  | [] => []
  | [s] => s.data.toList
  | s :: t :: l => s.data.toList ++ [44, 32] ++ joinC (t :: l)
set_option maxHeartbeats 1000000 in
theorem join2_any (A : Option Addr) (c : Nat) (L : List ByteArray) (n₀ : Nat) (w : World) (hs : SlS n₀ w A L) (h1 : L.length ≤ 1) :
    Calls Tryd.prog 102 #[.slice A L.length c, .string ⟨#[44, 32]⟩] w fun e w' => (∃ js : ByteArray, e = .returned (.string js) ∧ js.data.toList = joinC L) ∧ Below w.heap.size w w' := by
  match L, hs, h1 with
  | [], _, _ =>
    go_enter Tryd.func102, Tryd.ntmps102
    go_wp2_with fail
    go_ret
    exact ⟨⟨⟨#[]⟩, rfl, rfl⟩, Below.refl _ _⟩
  | [s], hs, _ =>
    obtain ⟨b, off, rfl, _, hc⟩ := hs (by simp)
    have y := hc 0 s rfl
    clear hc hs
    simp only [Nat.add_zero] at y
    go_enter Tryd.func102, Tryd.ntmps102
    go_wp2_with fail
    go_ret
    exact ⟨⟨s, rfl, rfl⟩, Below.refl _ _⟩
  | _ :: _ :: _, _, h1 => exact absurd h1 (by simp)

def sortTxt (s : ByteArray) : List UInt8 := [115, 111, 114, 116, 32] ++ s.data.toList ++ [10]
def opTxt (d : Dc) : List UInt8 := [111, 112, 32] ++ d.nm.data.toList ++ [40] ++ joinC d.args ++ [41, 32, 45, 62, 32] ++ d.res.data.toList ++ [10]
def sigTxt (g : Sg) : List UInt8 := g.sorts.flatMap sortTxt ++ g.ops.flatMap opTxt

theorem isName_len40 {l : List UInt8} (h : isName l = true) : l.length ≤ 40 := by
  unfold isName at h
  simp only [Bool.and_eq_true, decide_eq_true_eq] at h
  exact h.1.1.1.2
theorem valid_parts {g : Sg} (h : validSg g = true) : g.sorts.length ≤ 40 ∧ g.ops.length ≤ 100 ∧ (∀ s, s ∈ g.sorts → s.data.toList.length ≤ 40) ∧ ∀ d, d ∈ g.ops → d.nm.data.toList.length ≤ 40 ∧ d.args.length ≤ 6 ∧ (∀ a, a ∈ d.args → a.data.toList.length ≤ 40) ∧ d.res.data.toList.length ≤ 40 := by
  unfold validSg diffL at h
  simp only [Bool.and_eq_true, decide_eq_true_eq, List.all_eq_true] at h
  obtain ⟨⟨⟨⟨h1, h2⟩, h3, _⟩, h4⟩, h5, _⟩ := h
  have hs : ∀ s, s ∈ g.sorts → s.data.toList.length ≤ 40 := fun s hs => by
    have := isName_len40 (h3 s hs)
    rwa [Lib.toList_data] at this
  refine ⟨h1, h2, hs, fun d hd => ?_⟩
  have hv := h4 d hd
  unfold validDc at hv
  simp only [Bool.and_eq_true, decide_eq_true_eq, List.all_eq_true] at hv
  obtain ⟨⟨v1, v2⟩, v3⟩ := hv
  refine ⟨?_, v1, fun a ha => hs a ((memS_iff a g.sorts).1 (v2 a ha)), hs _ ((memS_iff _ g.sorts).1 v3)⟩
  have := isName_len40 (h5 d.nm (List.mem_map.2 ⟨d, hd, rfl⟩))
  rwa [Lib.toList_data] at this

theorem fm_len {α : Type} (f : α → List UInt8) (m : Nat) : ∀ L : List α, (∀ x, x ∈ L → (f x).length ≤ m) → (L.flatMap f).length ≤ m * L.length
  | [], _ => by simp
  | x :: L, h => by
    have h1 := h x (by simp)
    have h2 := fm_len f m L (fun y hy => h y (by simp [hy]))
    rw [List.flatMap_cons, List.length_append, List.length_cons, Nat.mul_add]
    omega
theorem joinC_len : ∀ L : List ByteArray, (∀ x, x ∈ L → x.data.toList.length ≤ 40) → (joinC L).length ≤ 42 * L.length
  | [], _ => by simp [joinC]
  | [s], h => by
    have := h s (by simp)
    simp only [joinC, List.length_cons, List.length_nil]; omega
  | s :: t :: l, h => by
    have h1 := h s (by simp)
    have h2 := joinC_len (t :: l) (fun y hy => h y (by simp at hy ⊢; exact .inr hy))
    rw [joinC, List.length_append, List.length_append, List.length_cons (a := s)]
    simp only [List.length_cons, List.length_nil] at h2 ⊢
    omega
theorem sortTxt_len {s : ByteArray} (h : s.data.toList.length ≤ 40) : (sortTxt s).length ≤ 46 := by
  unfold sortTxt; simp only [List.length_append, List.length_cons, List.length_nil]; omega
theorem opTxt_len {d : Dc} (h1 : d.nm.data.toList.length ≤ 40) (h2 : d.args.length ≤ 6) (h3 : ∀ a, a ∈ d.args → a.data.toList.length ≤ 40) (h4 : d.res.data.toList.length ≤ 40) : (opTxt d).length ≤ 342 := by
  have := joinC_len d.args h3
  unfold opTxt; simp only [List.length_append, List.length_cons, List.length_nil]; omega

/-- What TextSignature hands back. -/
def txtSig (g : Sg) : Value := if validSg g = true then limRes (sigTxt g) else .tuple #[.string ⟨#[]⟩, .int .i64 1]
theorem txtSig_ok {g : Sg} (h : validSg g = true) : txtSig g = limRes (sigTxt g) := by unfold txtSig; rw [if_pos h]
theorem txtSig_bad {g : Sg} (h : validSg g = false) : txtSig g = .tuple #[.string ⟨#[]⟩, .int .i64 1] := by unfold txtSig; rw [h]; rfl

def XInv (g : Sg) (A1 : Option Addr) (c1 : Nat) (A2 : Option Addr) (c2 : Nat) (w : World) (B : Nat) (xs : List UInt8) (wr : World) : Prop :=
  Bld wr B xs ∧ Below w.heap.size w wr ∧ wr.heap[w.heap.size]? = some (.cells (gcells g A1 c1 A2 c2) 82 (0, 0))

set_option maxHeartbeats 4000000 in
theorem TextSignature_any (g : Sg) (A1 : Option Addr) (c1 : Nat) (A2 : Option Addr) (c2 : Nat) (w : World) (hs : SlS w.heap.size w A1 g.sorts) (hd : SlD w.heap.size w A2 g.ops) (hok : okG g) (hJ : ∀ d, d ∈ g.ops → d.args.length ≤ 1) :
    Calls Tryd.prog 49 #[GV g A1 c1 A2 c2] w fun e w' => e = .returned (txtSig g) ∧ Below w.heap.size w w' := by
  have HS := Lib.hid hs
  have HD := Lib.hid hd
  have HOK := Lib.hid hok
  have HJ := Lib.hid hJ
  have hbx := heap_alloc_new w (.cells (gcells g A1 c1 A2 c2) 82)
  have HBX := Lib.hid hbx
  obtain ⟨⟨x0, x1⟩, _⟩ := blk2 hbx
  have HB0 := Lib.hid ((Below.refl w.heap.size w).alloc (Nat.le_refl _) (.cells (gcells g A1 c1 A2 c2) 82))
  have hl1 := hok.1.1
  have hl2 := hok.2.1
  unfold maxLen at hl1 hl2
  clear hs hd hok hbx hJ
  unfold GV
  go_enter Tryd.func49, Tryd.ntmps49
  go_wp2_with fail
  refine (validSignature_any g A1 c1 A2 c2 _ ((HS.out.later HB0.out).mono HB0.out.size) ((HD.out.later HB0.out).mono HB0.out.size) HOK.out).mono ?_
  rintro e w1 ⟨rfl, hb1⟩
  have hs1 := hb1.size
  simp at hs1
  have HB1 := Lib.hid (HB0.out.trans (hb1.mono HB0.out.size))
  have HBX1 := Lib.hid (cells_below HBX.out hb1)
  clear hb1 x0 x1 HBX
  obtain ⟨⟨x0, x1⟩, _⟩ := blk2 HBX1.out
  generalize hvg : validSg g = vg
  have HVG := Lib.hid hvg
  cases vg
  · clear hvg
    go_wp2_with fail
    go_ret2
    exact ⟨by rw [txtSig_bad HVG.out]; rfl, HB1.out⟩
  · have HP := Lib.hid (valid_parts hvg)
    clear hvg
    obtain ⟨B, hB⟩ : ∃ B, w1.heap.size = B + 1 := ⟨w1.heap.size - 1, by omega⟩
    have HBe := Lib.hid hB
    have hx0 := (Below.heap_alloc w1 (.cells #[.pointer none, .slice none 0 0] 46) _ (by omega)).trans HBX1.out
    have HX0 := Lib.hid hx0
    clear x0 x1
    obtain ⟨⟨x0, x1⟩, _⟩ := blk2 hx0
    clear hx0 hB
    go_wp2_with fail
    go_loopw [15] (fun y wr => ∃ k : Nat, y = .int .i64 k ∧ k ≤ g.sorts.length ∧ XInv g A1 c1 A2 c2 w w1.heap.size ((g.sorts.take k).flatMap sortTxt) wr) (fun y _ => g.sorts.length - (intOf y).toNat)
    case atStart =>
      refine ⟨0, rfl, Nat.zero_le _, ⟨_, _, .inl rfl, heap_alloc_new _ _, World.ownsRow_nil _ _ _ _⟩, HB1.out.alloc HB1.out.size _, HX0.out⟩
    case round =>
      clear x0 x1 HX0
      obtain ⟨k, rfl, hk, hbl, hbw, hbx⟩ := hrel
      have HBL := Lib.hid hbl
      have HBW := Lib.hid hbw
      have HBX := Lib.hid hbx
      have hws := hbw.size
      clear hbl hbw
      by_cases hlt : k < g.sorts.length
      · obtain ⟨s, hs⟩ : ∃ s, g.sorts[k]? = some s := ⟨g.sorts[k]'hlt, List.getElem?_eq_getElem _⟩
        obtain ⟨b, off, rfl, hbl, hc⟩ := (HS.out.later HBW.out) (by omega)
        have y := hc k s hs
        have HSS := Lib.hid hs
        have hI : (k : Int) < (g.sorts.length : Int) := by omega
        have hsz : s.size ≤ 40 := by have := HP.out.2.2.1 s (List.mem_of_getElem? hs); rwa [size_toList] at this
        have n1 : ¬ 9223372036854775807 < 5 + s.size := by omega
        have n2 : ¬ 9223372036854775807 < 5 + s.size + 1 := by omega
        have hxl : ((g.sorts.take k).flatMap sortTxt).length ≤ 46 * 40 := Nat.le_trans (fm_len sortTxt 46 _ (fun x hx => sortTxt_len (HP.out.2.2.1 x (List.mem_of_mem_take hx)))) (Nat.mul_le_mul_left _ (by rw [List.length_take]; have := HP.out.1; omega))
        have HXL := Lib.hid hxl
        clear hc hs hbx hxl
        go_wp2_with fail
        refine (writeString_any w1.heap.size _ _ wr HBL.out (by rw [ByteArray.size_append, ByteArray.size_append]; have := HXL.out; show _ + (5 + s.size + 1) ≤ _; omega)).mono ?_
        rintro e w2 ⟨rfl, hbl2, hb2⟩
        have HBL2 := Lib.hid hbl2
        have HB2 := Lib.hid hb2
        clear hbl2 hb2 n1 n2
        go_wp2_with fail
        go_roundw
        case rel =>
          refine ⟨k + 1, by go_num, by omega, ?_, HBW.out.trans (HB2.out.mono (by omega)), (HB2.out.block _ (by omega)).trans HBX.out⟩
          rw [List.take_add_one, HSS.out, List.flatMap_append]
          have := HBL2.out
          rw [ByteArray.data_append, Array.toList_append, ByteArray.data_append, Array.toList_append] at this
          simpa [sortTxt] using this
        case measure => simp [intOf]; omega
      · have hkl : k = g.sorts.length := by omega
        have HKL := Lib.hid hkl
        have hI : ¬ (k : Int) < (g.sorts.length : Int) := by omega
        obtain ⟨⟨x0, x1⟩, _⟩ := blk2 hbx
        clear hkl hbx
        go_wp2_with fail
        clear x0 x1
        have HBLs := Lib.hid HBL.out
        go_loopw [27] (fun y wr => ∃ k : Nat, y = .int .i64 k ∧ k ≤ g.ops.length ∧ XInv g A1 c1 A2 c2 w w1.heap.size (g.sorts.flatMap sortTxt ++ (g.ops.take k).flatMap opTxt) wr) (fun y _ => g.ops.length - (intOf y).toNat)
        case atStart =>
          refine ⟨0, rfl, Nat.zero_le _, ?_, HBW.out, HBX.out⟩
          have h := HBL.out
          rw [HKL.out, List.take_length] at h
          simpa using h
        case round =>
          clear HBL HBW HBX HBLs hws
          obtain ⟨j, rfl, hj, hbl, hbw, hbx⟩ := hrel
          have HBL := Lib.hid hbl
          have HBW := Lib.hid hbw
          have HBX := Lib.hid hbx
          have hws := hbw.size
          have hw1 : w1.heap.size < wr.heap.size := by obtain ⟨p, v, _, hb, _⟩ := hbl.ex; exact (Array.getElem?_eq_some_iff.1 hb).1
          have hxl1 : (g.sorts.flatMap sortTxt).length ≤ 46 * 40 := Nat.le_trans (fm_len sortTxt 46 _ (fun x hx => sortTxt_len (HP.out.2.2.1 x hx))) (Nat.mul_le_mul_left _ HP.out.1)
          have hxl2 : ((g.ops.take j).flatMap opTxt).length ≤ 342 * 100 := Nat.le_trans (fm_len opTxt 342 _ (fun x hx => by
            obtain ⟨p1, p2, p3, p4⟩ := HP.out.2.2.2 x (List.mem_of_mem_take hx)
            exact opTxt_len p1 p2 p3 p4)) (Nat.mul_le_mul_left _ (by rw [List.length_take]; have := HP.out.2.1; omega))
          have hxl3 : (g.sorts.flatMap sortTxt ++ (g.ops.take j).flatMap opTxt).length ≤ 36040 := by
            rw [List.length_append]; omega
          have HXL := Lib.hid hxl3
          clear hbl hbw hxl1 hxl2 hxl3
          by_cases hjt : j < g.ops.length
          · obtain ⟨d, hd⟩ : ∃ d, g.ops[j]? = some d := ⟨g.ops[j]'hjt, List.getElem?_eq_getElem _⟩
            have hmd := List.mem_of_getElem? hd
            obtain ⟨b, off, rfl, hbl, hc⟩ := (HD.out.later HBW.out) (by omega)
            obtain ⟨A', c', d0, d1, d2, d3⟩ := hc j d hd
            obtain ⟨p1, p2, p3, p4⟩ := HP.out.2.2.2 d hmd
            have hjl := joinC_len d.args p3
            rw [size_toList] at p1 p4
            have HDD := Lib.hid hd
            have HB0' := Lib.hid ((Below.refl wr.heap.size wr).alloc (Nat.le_refl _) (.cells #[.string d.nm, .slice A' d.args.length c', .string d.res] 140))
            have HJC := Lib.hid (join2_any A' c' d.args w.heap.size (wr.alloc (.cells #[.string d.nm, .slice A' d.args.length c', .string d.res] 140)).drew (d3.later (HB0'.out.mono hws).drew) (HJ.out d hmd))
            have hfact : ∀ w5 : World, Below (wr.alloc (.cells #[.string d.nm, .slice A' d.args.length c', .string d.res] 140)).drew.heap.size (wr.alloc (.cells #[.string d.nm, .slice A' d.args.length c', .string d.res] 140)).drew w5 →
                (w5.cell? ⟨wr.heap.size, 0, none⟩ = some (.string d.nm) ∧ w5.cell? ⟨wr.heap.size, 2, none⟩ = some (.string d.res)) ∧ Bld w5 w1.heap.size (g.sorts.flatMap sortTxt ++ (g.ops.take j).flatMap opTxt) ∧ Below wr.heap.size wr w5 := fun w5 hb5 => by
              have hb : Below (wr.alloc (.cells #[.string d.nm, .slice A' d.args.length c', .string d.res] 140)).heap.size (wr.alloc (.cells #[.string d.nm, .slice A' d.args.length c', .string d.res] 140)) w5 := (Below.refl _ _).drew.trans hb5
              obtain ⟨⟨z0, z1, z2⟩, _⟩ := blk3 (cells_below (heap_alloc_new wr (.cells #[.string d.nm, .slice A' d.args.length c', .string d.res] 140)) hb)
              have hbb := HB0'.out.trans (hb.mono HB0'.out.size)
              exact ⟨⟨z0, z2⟩, HBL.out.below hbb, hbb⟩
            have HF := Lib.hid hfact
            have hI : (j : Int) < (g.ops.length : Int) := by omega
            have n1 : ¬ 9223372036854775807 < 3 + d.nm.size := by omega
            have n2 : ¬ 9223372036854775807 < 3 + d.nm.size + 1 := by omega
            clear hc hd hbx d3 hfact
            go_wp2_with fail
            go_region_with (first
              | (go_at_call 102; refine HJC.out.mono ?_; rintro e w5 ⟨⟨js, rfl, hjs⟩, hb5⟩; obtain ⟨⟨z0, z2⟩, hbl5, hb6⟩ := HF.out w5 hb5; have hjz : js.size ≤ 252 := (by rw [← size_toList, hjs]; omega); have HJS := Lib.hid hjs; have HBL5 := Lib.hid hbl5; have HB6 := Lib.hid hb6; have n3 : ¬ 9223372036854775807 < 3 + d.nm.size + 1 + js.size := (by omega); have n4 : ¬ 9223372036854775807 < 3 + d.nm.size + 1 + js.size + 5 := (by omega); have n5 : ¬ 9223372036854775807 < 3 + d.nm.size + 1 + js.size + 5 + d.res.size := (by omega); have n6 : ¬ 9223372036854775807 < 3 + d.nm.size + 1 + js.size + 5 + d.res.size + 1 := (by omega); clear hjs hb5 hbl5 hb6)
              | (go_at_call 28; refine (writeString_any w1.heap.size _ _ _ HBL5.out (by rw [ByteArray.size_append, ByteArray.size_append, ByteArray.size_append, ByteArray.size_append, ByteArray.size_append, ByteArray.size_append]; have := HXL.out; show _ + (3 + d.nm.size + 1 + js.size + 5 + d.res.size + 1) ≤ _; omega)).mono ?_; rintro e w7 ⟨rfl, hbl7, hb7⟩; have HBL7 := Lib.hid hbl7; have HB7 := Lib.hid hb7; clear hbl7 hb7))
            all_goals
              go_wp2_with fail
              go_roundw
              case rel =>
                refine ⟨j + 1, by go_num, by omega, ?_, (HBW.out.trans (HB6.out.mono hws)).trans (HB7.out.mono (by have := HB6.out.size; omega)), (HB7.out.block _ (by omega)).trans ((HB6.out.block _ (by omega)).trans HBX.out)⟩
                have h := HBL7.out
                rw [ByteArray.data_append, Array.toList_append, ByteArray.data_append, Array.toList_append, ByteArray.data_append, Array.toList_append, ByteArray.data_append, Array.toList_append, ByteArray.data_append, Array.toList_append, ByteArray.data_append, Array.toList_append, HJS.out] at h
                rw [List.take_add_one, HDD.out, List.flatMap_append, ← List.append_assoc]
                simpa [opTxt] using h
              case measure => simp [intOf]; omega
          · have hjl : j = g.ops.length := by omega
            have HJL := Lib.hid hjl
            have hI : ¬ (j : Int) < (g.ops.length : Int) := by omega
            have hB := HBe.out
            have hl := HBL.out
            rw [hB, HJL.out, List.take_length] at hl
            have HLM := Lib.hid (limited_any B (sigTxt g) wr hl)
            have HBn : Hid (w.heap.size ≤ B) := Lib.hid (by omega)
            clear hjl hl
            rw [hB]
            clear hB
            go_wp2_with fail
            refine HLM.out.mono ?_
            rintro e w9 ⟨rfl, hb9⟩
            have HB9 := Lib.hid hb9
            have HT := Lib.hid (txtSig_ok HVG.out)
            clear hb9 HLM
            unfold limRes at HT ⊢
            by_cases hbig : 65536 < (sigTxt g).length
            · rw [if_pos hbig] at HT ⊢
              go_wp2_with fail
              go_ret2
              exact ⟨by rw [HT.out]; rfl, HBW.out.trans (HB9.out.mono HBn.out)⟩
            · rw [if_neg hbig] at HT ⊢
              go_wp2_with fail
              go_ret2
              exact ⟨by rw [HT.out]; rfl, HBW.out.trans (HB9.out.mono HBn.out)⟩
end Go.Proofs.YthbcfcbonmphfaaDoor
