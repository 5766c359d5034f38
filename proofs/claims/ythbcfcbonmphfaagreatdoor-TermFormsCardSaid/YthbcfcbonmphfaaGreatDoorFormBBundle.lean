/- The reference's Own, wrong: plain; Own. -/
import Derived.Deep.RegionWith
import Derived.Test.YthbcfcbonmphfaaGreatDoorPlacCBundle
import Derived.Test.YthbcfcbonmphfaaGreatDoorTermGBundle
import Derived.StillTailTactics
import Derived.Test.YthbcfcbonmphfaaGreatDoorTermSvBundle
import Derived.Test.YthbcfcbonmphfaaGreatDoorTermJBundle
import Derived.Test.YthbcfcbonmphfaaGreatDoorJoinSBundle
/- TextSignature. -/
namespace Go.Proofs.YthbcfcbonmphfaaGreatDoor
open Go.RowKit Go.Shelf
set_option maxRecDepth 100000

def limRes (xs : List UInt8) : Value := if 65536 < xs.length then .tuple #[.string ⟨#[]⟩, .int .i64 4] else .tuple #[.string ⟨xs.toArray⟩, .int .i64 0]
set_option maxHeartbeats 1000000 in
theorem bldLen_any (b : Nat) (xs : List UInt8) (w : World) (h : Bld w b xs) : Calls Tryz.prog 78 #[.pointer (some ⟨b, 0, none⟩)] w fun e w' => e = .returned (.int .i64 xs.length) ∧ w' = w := by
  obtain ⟨p, v, hp, hb, ho⟩ := h.ex
  obtain ⟨A, cap, rfl⟩ := own_slice ho
  obtain ⟨⟨a0, a1⟩, _⟩ := blk2 hb
  clear h hp hb ho
  go_enter Tryz.func78, Tryz.ntmps78
  go_wp2_with fail
  go_ret
  exact ⟨rfl, rfl⟩
set_option maxHeartbeats 1000000 in
theorem limited_any (b : Nat) (xs : List UInt8) (w : World) (h : Bld w (b + 1) xs) : Calls Tryz.prog 53 #[.pointer (some ⟨b + 1, 0, none⟩)] w fun e w' => e = .returned (limRes xs) ∧ Below b w w' := by
  have H := Lib.hid h
  have hlt : b + 1 < w.heap.size := by obtain ⟨p, v, _, hb, _⟩ := h.ex; exact (Array.getElem?_eq_some_iff.1 hb).1
  clear h
  by_cases hl : 65536 < xs.length
  · have hr : limRes xs = .tuple #[.string ⟨#[]⟩, .int .i64 4] := by unfold limRes; rw [if_pos hl]
    rw [hr]
    have hI : decide ((65536 : Int) < (xs.length : Int)) = true := decide_eq_true (by omega)
    clear hl hr
    go_enter Tryz.func53, Tryz.ntmps53
    go_wp2_with fail
    refine (bldLen_any (b + 1) xs w H.out).mono ?_
    rintro e w1 ⟨rfl, rfl⟩
    go_wp2_with fail
    go_ret2
    exact ⟨rfl, Below.refl _ _⟩
  · have hr : limRes xs = .tuple #[.string ⟨xs.toArray⟩, .int .i64 0] := by unfold limRes; rw [if_neg hl]
    rw [hr]
    have hI : decide ((65536 : Int) < (xs.length : Int)) = false := decide_eq_false (by omega)
    clear hl hr
    go_enter Tryz.func53, Tryz.ntmps53
    go_wp2_with fail
    refine (bldLen_any (b + 1) xs w H.out).mono ?_
    rintro e w1 ⟨rfl, rfl⟩
    go_wp2_with fail
    refine (string_any b (b + 1) xs w1 H.out.isF (by omega)).mono ?_
    rintro e w2 ⟨rfl, _, hb2, _⟩
    have HB2 := Lib.hid hb2
    clear hb2
    go_wp2_with fail
    go_ret2
    exact ⟨rfl, HB2.out⟩

def joinC : List ByteArray → List UInt8
  | [] => []
  | [s] => s.data.toList
  | s :: t :: l => s.data.toList ++ [44, 32] ++ joinC (t :: l)
set_option maxHeartbeats 1000000 in
theorem join2_any (A : Option Addr) (c : Nat) (L : List ByteArray) (n₀ : Nat) (w : World) (hs : SlS n₀ w A L) (h1 : L.length ≤ 1) :
    Calls Tryz.prog 52 #[.slice A L.length c, .string ⟨#[44, 32]⟩] w fun e w' => (∃ js : ByteArray, e = .returned (.string js) ∧ js.data.toList = joinC L) ∧ Below w.heap.size w w' := by
  match L, hs, h1 with
  | [], _, _ =>
    go_enter Tryz.func52, Tryz.ntmps52
    go_wp2_with fail
    go_ret
    exact ⟨⟨⟨#[]⟩, rfl, rfl⟩, Below.refl _ _⟩
  | [s], hs, _ =>
    obtain ⟨b, off, rfl, _, hc⟩ := hs (by simp)
    have y := hc 0 s rfl
    clear hc hs
    simp only [Nat.add_zero] at y
    go_enter Tryz.func52, Tryz.ntmps52
    go_wp2_with fail
    go_ret
    exact ⟨⟨s, rfl, rfl⟩, Below.refl _ _⟩
  | _ :: _ :: _, _, h1 => exact absurd h1 (by simp)

/-- Join answers as it should on a list of short strings. -/
def JoinsOk (L : List ByteArray) (c : Nat) : Prop := ∀ (A : Option Addr) (n₀ : Nat) (w : World), SlS n₀ w A L → n₀ ≤ w.heap.size → L.length ≤ 6 → (∀ a, a ∈ L → a.data.toList.length ≤ 40) →
    Calls Tryz.prog 52 #[.slice A L.length c, .string ⟨#[44, 32]⟩] w fun e w' => (∃ js : ByteArray, e = .returned (.string js) ∧ js.data.toList = joinC L) ∧ Below w.heap.size w w'
theorem joins_two {L : List ByteArray} (h : L.length ≤ 1) (c : Nat) : JoinsOk L c := fun A n₀ w hs _ _ _ => join2_any A c L n₀ w hs h

def sortTxt (s : ByteArray) : List UInt8 := [115, 111, 114, 116, 32] ++ s.data.toList ++ [10]
def opTxt (d : Dc) : List UInt8 := [111, 112, 32] ++ d.nm.data.toList ++ [40] ++ joinC d.args ++ [41, 32, 45, 62, 32] ++ d.res.data.toList ++ [10]
def sigTxt (g : Sg) : List UInt8 := g.sorts.flatMap sortTxt ++ g.ops.flatMap opTxt

theorem isName_len40 {l : List UInt8} (h : isName l = true) : l.length ≤ 40 := by
  unfold isName at h
  simp only [Bool.and_eq_true, decide_eq_true_eq] at h
  exact h.1.1.1.2
theorem valid_parts {g : Sg} (h : validSg g = true) : g.sorts.length ≤ 40 ∧ g.ops.length ≤ 100 ∧ (∀ s, s ∈ g.sorts → s.data.toList.length ≤ 40) ∧ ∀ d, d ∈ g.ops → d.nm.data.toList.length ≤ 40 ∧ d.args.length ≤ 6 ∧ (∀ a, a ∈ d.args → a.data.toList.length ≤ 40) ∧ d.res.data.toList.length ≤ 40 := by
  unfold validSg diffL at h
  simp only [Bool.and_eq_true, decide_eq_true_eq, List.all_eq_true] at h
  obtain ⟨⟨⟨⟨h1, h2⟩, h3, _⟩, h4⟩, h5, _⟩ := h
  have hs : ∀ s, s ∈ g.sorts → s.data.toList.length ≤ 40 := fun s hs => by
    have := isName_len40 (h3 s hs)
    rwa [Lib.toList_data] at this
  refine ⟨h1, h2, hs, fun d hd => ?_⟩
  have hv := h4 d hd
  unfold validDc at hv
  simp only [Bool.and_eq_true, decide_eq_true_eq, List.all_eq_true] at hv
  obtain ⟨⟨v1, v2⟩, v3⟩ := hv
  refine ⟨?_, v1, fun a ha => hs a ((memS_iff a g.sorts).1 (v2 a ha)), hs _ ((memS_iff _ g.sorts).1 v3)⟩
  have := isName_len40 (h5 d.nm (List.mem_map.2 ⟨d, hd, rfl⟩))
  rwa [Lib.toList_data] at this

theorem fm_len {α : Type} (f : α → List UInt8) (m : Nat) : ∀ L : List α, (∀ x, x ∈ L → (f x).length ≤ m) → (L.flatMap f).length ≤ m * L.length
  | [], _ => by simp
  | x :: L, h => by
    have h1 := h x (by simp)
    have h2 := fm_len f m L (fun y hy => h y (by simp [hy]))
    rw [List.flatMap_cons, List.length_append, List.length_cons, Nat.mul_add]
    omega
theorem joinC_len : ∀ L : List ByteArray, (∀ x, x ∈ L → x.data.toList.length ≤ 40) → (joinC L).length ≤ 42 * L.length
  | [], _ => by simp [joinC]
  | [s], h => by
    have := h s (by simp)
    simp only [joinC, List.length_cons, List.length_nil]; omega
  | s :: t :: l, h => by
    have h1 := h s (by simp)
    have h2 := joinC_len (t :: l) (fun y hy => h y (by simp at hy ⊢; exact .inr hy))
    rw [joinC, List.length_append, List.length_append, List.length_cons (a := s)]
    simp only [List.length_cons, List.length_nil] at h2 ⊢
    omega
theorem sortTxt_len {s : ByteArray} (h : s.data.toList.length ≤ 40) : (sortTxt s).length ≤ 46 := by
  unfold sortTxt; simp only [List.length_append, List.length_cons, List.length_nil]; omega
theorem opTxt_len {d : Dc} (h1 : d.nm.data.toList.length ≤ 40) (h2 : d.args.length ≤ 6) (h3 : ∀ a, a ∈ d.args → a.data.toList.length ≤ 40) (h4 : d.res.data.toList.length ≤ 40) : (opTxt d).length ≤ 342 := by
  have := joinC_len d.args h3
  unfold opTxt; simp only [List.length_append, List.length_cons, List.length_nil]; omega

/-- What TextSignature hands back. -/
def txtSig (g : Sg) : Value := if validSg g = true then limRes (sigTxt g) else .tuple #[.string ⟨#[]⟩, .int .i64 1]
theorem txtSig_ok {g : Sg} (h : validSg g = true) : txtSig g = limRes (sigTxt g) := by unfold txtSig; rw [if_pos h]
theorem txtSig_bad {g : Sg} (h : validSg g = false) : txtSig g = .tuple #[.string ⟨#[]⟩, .int .i64 1] := by unfold txtSig; rw [h]; rfl

def XInv (g : Sg) (A1 : Option Addr) (c1 : Nat) (A2 : Option Addr) (c2 : Nat) (w : World) (B : Nat) (xs : List UInt8) (wr : World) : Prop :=
  Bld wr B xs ∧ Below w.heap.size w wr ∧ wr.heap[w.heap.size]? = some (.cells (gcells g A1 c1 A2 c2) 25 (0, 0))

set_option maxHeartbeats 4000000 in
theorem TextSignature_any (g : Sg) (A1 : Option Addr) (c1 : Nat) (A2 : Option Addr) (c2 : Nat) (w : World) (hs : SlS w.heap.size w A1 g.sorts) (hd : SlD w.heap.size w A2 g.ops) (hok : okG g) (hJ : ∀ (i : Nat) (d : Dc) (b off : Nat) (A' : Option Addr) (c' : Nat), g.ops[i]? = some d → A2 = some ⟨b, off, none⟩ → w.cell? ⟨b, off + i * 3 + 1, none⟩ = some (.slice A' d.args.length c') → JoinsOk d.args c') :
    Calls Tryz.prog 23 #[GV g A1 c1 A2 c2] w fun e w' => e = .returned (txtSig g) ∧ Below w.heap.size w w' := by
  have HS := Lib.hid hs
  have HD := Lib.hid hd
  have HOK := Lib.hid hok
  have HJ := Lib.hid hJ
  have hbx := heap_alloc_new w (.cells (gcells g A1 c1 A2 c2) 25)
  have HBX := Lib.hid hbx
  obtain ⟨⟨x0, x1⟩, _⟩ := blk2 hbx
  have HB0 := Lib.hid ((Below.refl w.heap.size w).alloc (Nat.le_refl _) (.cells (gcells g A1 c1 A2 c2) 25))
  have hl1 := hok.1.1
  have hl2 := hok.2.1
  unfold maxLen at hl1 hl2
  clear hs hd hok hbx hJ
  unfold GV
  go_enter Tryz.func23, Tryz.ntmps23
  go_wp2_with fail
  refine (validSignature_any g A1 c1 A2 c2 _ ((HS.out.later HB0.out).mono HB0.out.size) ((HD.out.later HB0.out).mono HB0.out.size) HOK.out).mono ?_
  rintro e w1 ⟨rfl, hb1⟩
  have hs1 := hb1.size
  simp at hs1
  have HB1 := Lib.hid (HB0.out.trans (hb1.mono HB0.out.size))
  have HBX1 := Lib.hid (cells_below HBX.out hb1)
  clear hb1 x0 x1 HBX
  obtain ⟨⟨x0, x1⟩, _⟩ := blk2 HBX1.out
  generalize hvg : validSg g = vg
  have HVG := Lib.hid hvg
  cases vg
  · clear hvg
    go_wp2_with fail
    go_ret2
    exact ⟨by rw [txtSig_bad HVG.out]; rfl, HB1.out⟩
  · have HP := Lib.hid (valid_parts hvg)
    clear hvg
    obtain ⟨B, hB⟩ : ∃ B, w1.heap.size = B + 1 := ⟨w1.heap.size - 1, by omega⟩
    have HBe := Lib.hid hB
    have hx0 := (Below.heap_alloc w1 (.cells #[.pointer none, .slice none 0 0] 95) _ (by omega)).trans HBX1.out
    have HX0 := Lib.hid hx0
    clear x0 x1
    obtain ⟨⟨x0, x1⟩, _⟩ := blk2 hx0
    clear hx0 hB
    go_wp2_with fail
    go_loopw [15] (fun y wr => ∃ k : Nat, y = .int .i64 k ∧ k ≤ g.sorts.length ∧ XInv g A1 c1 A2 c2 w w1.heap.size ((g.sorts.take k).flatMap sortTxt) wr) (fun y _ => g.sorts.length - (intOf y).toNat)
    case atStart =>
      refine ⟨0, rfl, Nat.zero_le _, ⟨_, _, .inl rfl, heap_alloc_new _ _, World.ownsRow_nil _ _ _ _⟩, HB1.out.alloc HB1.out.size _, HX0.out⟩
    case round =>
      clear x0 x1 HX0
      obtain ⟨k, rfl, hk, hbl, hbw, hbx⟩ := hrel
      have HBL := Lib.hid hbl
      have HBW := Lib.hid hbw
      have HBX := Lib.hid hbx
      have hws := hbw.size
      clear hbl hbw
      by_cases hlt : k < g.sorts.length
      · obtain ⟨s, hs⟩ : ∃ s, g.sorts[k]? = some s := ⟨g.sorts[k]'hlt, List.getElem?_eq_getElem _⟩
        obtain ⟨b, off, rfl, hbl, hc⟩ := (HS.out.later HBW.out) (by omega)
        have y := hc k s hs
        have HSS := Lib.hid hs
        have hI : (k : Int) < (g.sorts.length : Int) := by omega
        have hsz : s.size ≤ 40 := by have := HP.out.2.2.1 s (List.mem_of_getElem? hs); rwa [size_toList] at this
        have n1 : ¬ 9223372036854775807 < 5 + s.size := by omega
        have n2 : ¬ 9223372036854775807 < 5 + s.size + 1 := by omega
        have hxl : ((g.sorts.take k).flatMap sortTxt).length ≤ 46 * 40 := Nat.le_trans (fm_len sortTxt 46 _ (fun x hx => sortTxt_len (HP.out.2.2.1 x (List.mem_of_mem_take hx)))) (Nat.mul_le_mul_left _ (by rw [List.length_take]; have := HP.out.1; omega))
        have HXL := Lib.hid hxl
        clear hc hs hbx hxl
        go_wp2_with fail
        refine (writeString_any w1.heap.size _ _ wr HBL.out (by rw [ByteArray.size_append, ByteArray.size_append]; have := HXL.out; show _ + (5 + s.size + 1) ≤ _; omega)).mono ?_
        rintro e w2 ⟨rfl, hbl2, hb2⟩
        have HBL2 := Lib.hid hbl2
        have HB2 := Lib.hid hb2
        clear hbl2 hb2 n1 n2
        go_wp2_with fail
        go_roundw
        case rel =>
          refine ⟨k + 1, by go_num, by omega, ?_, HBW.out.trans (HB2.out.mono (by omega)), (HB2.out.block _ (by omega)).trans HBX.out⟩
          rw [List.take_add_one, HSS.out, List.flatMap_append]
          have := HBL2.out
          rw [ByteArray.data_append, Array.toList_append, ByteArray.data_append, Array.toList_append] at this
          simpa [sortTxt] using this
        case measure => simp [intOf]; omega
      · have hkl : k = g.sorts.length := by omega
        have HKL := Lib.hid hkl
        have hI : ¬ (k : Int) < (g.sorts.length : Int) := by omega
        obtain ⟨⟨x0, x1⟩, _⟩ := blk2 hbx
        clear hkl hbx
        go_wp2_with fail
        clear x0 x1
        have HBLs := Lib.hid HBL.out
        go_loopw [27] (fun y wr => ∃ k : Nat, y = .int .i64 k ∧ k ≤ g.ops.length ∧ XInv g A1 c1 A2 c2 w w1.heap.size (g.sorts.flatMap sortTxt ++ (g.ops.take k).flatMap opTxt) wr) (fun y _ => g.ops.length - (intOf y).toNat)
        case atStart =>
          refine ⟨0, rfl, Nat.zero_le _, ?_, HBW.out, HBX.out⟩
          have h := HBL.out
          rw [HKL.out, List.take_length] at h
          simpa using h
        case round =>
          clear HBL HBW HBX HBLs hws
          obtain ⟨j, rfl, hj, hbl, hbw, hbx⟩ := hrel
          have HBL := Lib.hid hbl
          have HBW := Lib.hid hbw
          have HBX := Lib.hid hbx
          have hws := hbw.size
          have hw1 : w1.heap.size < wr.heap.size := by obtain ⟨p, v, _, hb, _⟩ := hbl.ex; exact (Array.getElem?_eq_some_iff.1 hb).1
          have hxl1 : (g.sorts.flatMap sortTxt).length ≤ 46 * 40 := Nat.le_trans (fm_len sortTxt 46 _ (fun x hx => sortTxt_len (HP.out.2.2.1 x hx))) (Nat.mul_le_mul_left _ HP.out.1)
          have hxl2 : ((g.ops.take j).flatMap opTxt).length ≤ 342 * 100 := Nat.le_trans (fm_len opTxt 342 _ (fun x hx => by
            obtain ⟨p1, p2, p3, p4⟩ := HP.out.2.2.2 x (List.mem_of_mem_take hx)
            exact opTxt_len p1 p2 p3 p4)) (Nat.mul_le_mul_left _ (by rw [List.length_take]; have := HP.out.2.1; omega))
          have hxl3 : (g.sorts.flatMap sortTxt ++ (g.ops.take j).flatMap opTxt).length ≤ 36040 := by
            rw [List.length_append]; omega
          have HXL := Lib.hid hxl3
          clear hbl hbw hxl1 hxl2 hxl3
          by_cases hjt : j < g.ops.length
          · obtain ⟨d, hd⟩ : ∃ d, g.ops[j]? = some d := ⟨g.ops[j]'hjt, List.getElem?_eq_getElem _⟩
            have hmd := List.mem_of_getElem? hd
            obtain ⟨b, off, rfl, hbl, hc⟩ := (HD.out.later HBW.out) (by omega)
            obtain ⟨A', c', d0, d1, d2, d3⟩ := hc j d hd
            obtain ⟨p1, p2, p3, p4⟩ := HP.out.2.2.2 d hmd
            have hjl := joinC_len d.args p3
            rw [size_toList] at p1 p4
            have HDD := Lib.hid hd
            have HB0' := Lib.hid ((Below.refl wr.heap.size wr).alloc (Nat.le_refl _) (.cells #[.string d.nm, .slice A' d.args.length c', .string d.res] 61))
            have HJC := Lib.hid (HJ.out j d b off A' c' hd rfl ((HBW.out.cell (p := ⟨b, off + j * 3 + 1, none⟩) hbl).symm.trans d1) A' w.heap.size (wr.alloc (.cells #[.string d.nm, .slice A' d.args.length c', .string d.res] 61)).drew (d3.later (HB0'.out.mono hws).drew) (by simp; omega) p2 p3)
            have hfact : ∀ w5 : World, Below (wr.alloc (.cells #[.string d.nm, .slice A' d.args.length c', .string d.res] 61)).drew.heap.size (wr.alloc (.cells #[.string d.nm, .slice A' d.args.length c', .string d.res] 61)).drew w5 →
                (w5.cell? ⟨wr.heap.size, 0, none⟩ = some (.string d.nm) ∧ w5.cell? ⟨wr.heap.size, 2, none⟩ = some (.string d.res)) ∧ Bld w5 w1.heap.size (g.sorts.flatMap sortTxt ++ (g.ops.take j).flatMap opTxt) ∧ Below wr.heap.size wr w5 := fun w5 hb5 => by
              have hb : Below (wr.alloc (.cells #[.string d.nm, .slice A' d.args.length c', .string d.res] 61)).heap.size (wr.alloc (.cells #[.string d.nm, .slice A' d.args.length c', .string d.res] 61)) w5 := (Below.refl _ _).drew.trans hb5
              obtain ⟨⟨z0, z1, z2⟩, _⟩ := blk3 (cells_below (heap_alloc_new wr (.cells #[.string d.nm, .slice A' d.args.length c', .string d.res] 61)) hb)
              have hbb := HB0'.out.trans (hb.mono HB0'.out.size)
              exact ⟨⟨z0, z2⟩, HBL.out.below hbb, hbb⟩
            have HF := Lib.hid hfact
            have hI : (j : Int) < (g.ops.length : Int) := by omega
            have n1 : ¬ 9223372036854775807 < 3 + d.nm.size := by omega
            have n2 : ¬ 9223372036854775807 < 3 + d.nm.size + 1 := by omega
            clear hc hd hbx d3 hfact
            go_wp2_with fail
            go_region_with (first
              | (go_at_call 52; refine HJC.out.mono ?_; rintro e w5 ⟨⟨js, rfl, hjs⟩, hb5⟩; obtain ⟨⟨z0, z2⟩, hbl5, hb6⟩ := HF.out w5 hb5; have hjz : js.size ≤ 252 := (by rw [← size_toList, hjs]; omega); have HJS := Lib.hid hjs; have HBL5 := Lib.hid hbl5; have HB6 := Lib.hid hb6; have n3 : ¬ 9223372036854775807 < 3 + d.nm.size + 1 + js.size := (by omega); have n4 : ¬ 9223372036854775807 < 3 + d.nm.size + 1 + js.size + 5 := (by omega); have n5 : ¬ 9223372036854775807 < 3 + d.nm.size + 1 + js.size + 5 + d.res.size := (by omega); have n6 : ¬ 9223372036854775807 < 3 + d.nm.size + 1 + js.size + 5 + d.res.size + 1 := (by omega); clear hjs hb5 hbl5 hb6)
              | (go_at_call 51; refine (writeString_any w1.heap.size _ _ _ HBL5.out (by rw [ByteArray.size_append, ByteArray.size_append, ByteArray.size_append, ByteArray.size_append, ByteArray.size_append, ByteArray.size_append]; have := HXL.out; show _ + (3 + d.nm.size + 1 + js.size + 5 + d.res.size + 1) ≤ _; omega)).mono ?_; rintro e w7 ⟨rfl, hbl7, hb7⟩; have HBL7 := Lib.hid hbl7; have HB7 := Lib.hid hb7; clear hbl7 hb7))
            all_goals
              go_wp2_with fail
              go_roundw
              case rel =>
                refine ⟨j + 1, by go_num, by omega, ?_, (HBW.out.trans (HB6.out.mono hws)).trans (HB7.out.mono (by have := HB6.out.size; omega)), (HB7.out.block _ (by omega)).trans ((HB6.out.block _ (by omega)).trans HBX.out)⟩
                have h := HBL7.out
                rw [ByteArray.data_append, Array.toList_append, ByteArray.data_append, Array.toList_append, ByteArray.data_append, Array.toList_append, ByteArray.data_append, Array.toList_append, ByteArray.data_append, Array.toList_append, ByteArray.data_append, Array.toList_append, HJS.out] at h
                rw [List.take_add_one, HDD.out, List.flatMap_append, ← List.append_assoc]
                simpa [opTxt] using h
              case measure => simp [intOf]; omega
          · have hjl : j = g.ops.length := by omega
            have HJL := Lib.hid hjl
            have hI : ¬ (j : Int) < (g.ops.length : Int) := by omega
            have hB := HBe.out
            have hl := HBL.out
            rw [hB, HJL.out, List.take_length] at hl
            have HLM := Lib.hid (limited_any B (sigTxt g) wr hl)
            have HBn : Hid (w.heap.size ≤ B) := Lib.hid (by omega)
            clear hjl hl
            rw [hB]
            clear hB
            go_wp2_with fail
            refine HLM.out.mono ?_
            rintro e w9 ⟨rfl, hb9⟩
            have HB9 := Lib.hid hb9
            have HT := Lib.hid (txtSig_ok HVG.out)
            clear hb9 HLM
            unfold limRes at HT ⊢
            by_cases hbig : 65536 < (sigTxt g).length
            · rw [if_pos hbig] at HT ⊢
              go_wp2_with fail
              go_ret2
              exact ⟨by rw [HT.out]; rfl, HBW.out.trans (HB9.out.mono HBn.out)⟩
            · rw [if_neg hbig] at HT ⊢
              go_wp2_with fail
              go_ret2
              exact ⟨by rw [HT.out]; rfl, HBW.out.trans (HB9.out.mono HBn.out)⟩
end Go.Proofs.YthbcfcbonmphfaaGreatDoor
namespace Go.Proofs.YthbcfcbonmphfaaGreatDoor
open Go.RowKit Go.Shelf
set_option maxRecDepth 100000

theorem idxL_find {α : Type} {p : α → Bool} : ∀ (L : List α) (k : Nat), (L.find? p = none ∧ idxL p k L = -1) ∨ ∃ (i : Nat) (d : α), L[i]? = some d ∧ L.find? p = some d ∧ idxL p k L = ((k + i : Nat) : Int)
  | [], k => .inl ⟨rfl, rfl⟩
  | x :: L, k => by
    by_cases hx : p x = true
    · exact .inr ⟨0, x, rfl, by rw [List.find?_cons, hx], by rw [idxL, if_pos hx]; rfl⟩
    · have hx' : p x = false := by simpa using hx
      rcases idxL_find L (k + 1) with ⟨h1, h2⟩ | ⟨i, d, h1, h2, h3⟩
      · exact .inl ⟨by rw [List.find?_cons, hx']; exact h1, by rw [idxL, if_neg hx, h2]⟩
      · exact .inr ⟨i + 1, d, by simpa using h1, by rw [List.find?_cons, hx']; exact h2, by rw [idxL, if_neg hx, h3]; congr 1; omega⟩
theorem nodup_one : ∀ (L : List Dc), (L.map Dc.nm).Nodup → ∀ d d', d ∈ L → d' ∈ L → d.nm = d'.nm → d = d'
  | [], _, d, _, hd, _, _ => by cases hd
  | x :: L, h, d, d', hd, hd', e => by
    rw [List.map_cons, List.nodup_cons] at h
    rcases List.mem_cons.1 hd with h1 | h1
    · rcases List.mem_cons.1 hd' with h2 | h2
      · rw [h1, h2]
      · exact absurd (List.mem_map.2 ⟨d', h2, by rw [← e, h1]⟩) h.1
    · rcases List.mem_cons.1 hd' with h2 | h2
      · exact absurd (List.mem_map.2 ⟨d, h1, by rw [e, h2]⟩) h.1
      · exact nodup_one L h.2 d d' h1 h2 e
theorem look_find {L : List Dc} (h : (L.map Dc.nm).Nodup) (s : ByteArray) : lookD L s = L.find? (nmS s) := by
  cases h1 : lookD L s with
  | none =>
    symm
    rw [List.find?_eq_none]
    intro d hd hp
    unfold lookD at h1
    rw [List.find?_eq_none] at h1
    exact h1 d (List.mem_reverse.2 hd) hp
  | some d =>
    obtain ⟨hm, hn⟩ := lookD_mem h1
    cases h2 : L.find? (nmS s) with
    | none =>
      rw [List.find?_eq_none] at h2
      exact absurd (by unfold nmS; exact decide_eq_true hn) (h2 d hm)
    | some d' =>
      have h3 := List.mem_of_find?_eq_some h2
      have h4 : d'.nm = s := by
        have := List.find?_some h2
        unfold nmS at this
        simpa using this
      rw [nodup_one L h d d' hm h3 (hn.trans h4.symm)]
theorem valid_nodup {g : Sg} (h : validSg g = true) : (g.ops.map Dc.nm).Nodup := by
  unfold validSg diffL at h
  simp only [Bool.and_eq_true, decide_eq_true_eq] at h
  exact h.2.2
theorem valid_res {g : Sg} (h : validSg g = true) {d : Dc} (hd : d ∈ g.ops) : isName d.res.toList = true := by
  unfold validSg diffL at h
  simp only [Bool.and_eq_true, decide_eq_true_eq, List.all_eq_true] at h
  obtain ⟨⟨⟨⟨_, _⟩, h3, _⟩, h4⟩, _, _⟩ := h
  have h5 := h4 d hd
  unfold validDc at h5
  simp only [Bool.and_eq_true] at h5
  exact h3 _ ((memS_iff _ _).1 h5.2)
/-- What Find says of a valid signature. -/
theorem find_said {g : Sg} (h : validSg g = true) (s : ByteArray) : (lookD g.ops s = none ∧ idxL (nmS s) 0 g.ops = -1) ∨ ∃ (i : Nat) (d : Dc), g.ops[i]? = some d ∧ lookD g.ops s = some d ∧ idxL (nmS s) 0 g.ops = (i : Int) := by
  rw [look_find (valid_nodup h)]
  rcases idxL_find (p := nmS s) g.ops 0 with h1 | ⟨i, d, h1, h2, h3⟩
  · exact .inl h1
  · exact .inr ⟨i, d, h1, h2, by rw [h3, Nat.zero_add]⟩
theorem name_ne {s : ByteArray} (h : isName s.toList = true) : s.toList ≠ [] := by
  intro e
  rw [e] at h
  exact absurd h (by decide)
theorem own_has {g : Sg} (h : validSg g = true) (t : Tm) : (ownS g.ops t).2 = true ↔ (ownS g.ops t).1.toList ≠ [] := by
  unfold ownS
  cases hv : isV t with
  | true =>
    rw [if_pos rfl]
    refine ⟨fun _ => ?_, fun _ => rfl⟩
    unfold isV at hv
    intro e
    rw [show t.st.toList = [] from e] at hv
    cases hv
  | false =>
    rw [if_neg (by decide)]
    cases hl : lookD g.ops t.nm with
    | none => exact ⟨fun e => absurd e Bool.false_ne_true, fun e => absurd (show (ByteArray.mk #[]).toList = [] by rw [Lib.toList_data]) e⟩
    | some d => exact ⟨fun _ => name_ne (valid_res h (lookD_mem hl).1), fun _ => rfl⟩
mutual
/-- The reference's wrong, as a function. -/
def wrT (g : Sg) : Tm → Int
  | .mk n s ks => if chk g (.mk n s ks) ≠ 0 then chk g (.mk n s ks) else wrL g ks
def wrL (g : Sg) : List Tm → Int
  | [] => 0
  | k :: ks => if wrT g k ≠ 0 then wrT g k else wrL g ks
end
def fstW (g : Sg) (l : List (Nat × Tm)) : Int := match l.find? (fun x => decide (chk g x.2 ≠ 0)) with | some x => chk g x.2 | none => 0
theorem fstW_append (g : Sg) (a b : List (Nat × Tm)) : fstW g (a ++ b) = if fstW g a ≠ 0 then fstW g a else fstW g b := by
  unfold fstW
  rw [List.find?_append]
  cases h : a.find? (fun x => decide (chk g x.2 ≠ 0)) with
  | none => simp
  | some x =>
    have := List.find?_some h
    simp only [decide_eq_true_eq] at this
    simp [this]
mutual
theorem wr_pre (g : Sg) : ∀ (t : Tm) (d : Nat), wrT g t = fstW g (t.pre d)
  | .mk n s ks, d => by
    rw [Tm.pre, show ((d, Tm.mk n s ks) :: pres (d + 1) ks) = [(d, Tm.mk n s ks)] ++ pres (d + 1) ks from rfl, fstW_append, wrT, ← wrs_pre g ks (d + 1)]
    have e : fstW g [(d, Tm.mk n s ks)] = chk g (.mk n s ks) := by
      unfold fstW
      rw [List.find?_cons]
      by_cases h : chk g (.mk n s ks) = 0
      · simp [h]
      · simp [h]
    rw [e]
theorem wrs_pre (g : Sg) : ∀ (ks : List Tm) (d : Nat), wrL g ks = fstW g (pres d ks)
  | [], d => rfl
  | k :: ks, d => by rw [pres, fstW_append, wrL, wr_pre g k d, wrs_pre g ks d]
end
theorem sortRes_wr {g : Sg} {t : Tm} (h1 : validSg g = true) (h2 : formed t = true) : sortRes g t = if wrT g t ≠ 0 then (⟨#[]⟩, wrT g t) else ((ownS g.ops t).1, 0) := by
  rw [wr_pre g t 1]
  unfold sortRes fstW
  rw [h1, h2]
  cases h : (t.pre 1).find? (fun x => decide (chk g x.2 ≠ 0)) with
  | none => simp
  | some x =>
    have := List.find?_some h
    simp only [decide_eq_true_eq] at this
    simp [this]
theorem wrs_at {g : Sg} {L : List Tm} {k : Nat} {x : Tm} (hx : L[k]? = some x) : wrL g (L.drop k) = if wrT g x ≠ 0 then wrT g x else wrL g (L.drop (k + 1)) := by
  obtain ⟨h1, e1⟩ := List.getElem?_eq_some_iff.1 hx
  rw [List.drop_eq_getElem_cons h1, e1, wrL]
theorem wr_bad {g : Sg} {n s : ByteArray} {ks : List Tm} {v : Int} (h : chk g (.mk n s ks) = v) (hv : v ≠ 0) : wrT g (.mk n s ks) = v := by rw [wrT, h, if_pos hv]
theorem wr_good {g : Sg} {n s : ByteArray} {ks : List Tm} (h : chk g (.mk n s ks) = 0) : wrT g (.mk n s ks) = wrL g ks := by rw [wrT, h, if_neg (fun e => e rfl)]
theorem isV_mk (n s : ByteArray) (ks : List Tm) : isV (.mk n s ks) = !s.toList.isEmpty := rfl

/-- The boxes of a signature and a term. -/
structure RB (g : Sg) (A1 : Option Addr) (c1 : Nat) (A2 : Option Addr) (c2 : Nat) (t : Tm) (A : Option Addr) (c : Nat) (w w' : World) : Prop where
  below : Below w.heap.size w w'
  bs : w'.heap[w.heap.size]? = some (.cells (gcells g A1 c1 A2 c2) 25 (0, 0))
  bt : w'.heap[w.heap.size + 1]? = some (.cells (tcells t A c) 28 (0, 0))
theorem RB.next {g : Sg} {A1 : Option Addr} {c1 : Nat} {A2 : Option Addr} {c2 : Nat} {t : Tm} {A : Option Addr} {c : Nat} {w w1 w2 : World} (h : RB g A1 c1 A2 c2 t A c w w1) (hb : Below w1.heap.size w1 w2) : RB g A1 c1 A2 c2 t A c w w2 :=
  ⟨h.below.trans (hb.mono h.below.size), cells_below h.bs hb, cells_below h.bt hb⟩
theorem RB.start (g : Sg) (A1 : Option Addr) (c1 : Nat) (A2 : Option Addr) (c2 : Nat) (t : Tm) (A : Option Addr) (c : Nat) (w : World) :
    RB g A1 c1 A2 c2 t A c w ((w.alloc (.cells (gcells g A1 c1 A2 c2) 25)).alloc (.cells (tcells t A c) 28)) := by
  have h1 := heap_alloc_new w (.cells (gcells g A1 c1 A2 c2) 25)
  have h2 := heap_alloc_new (w.alloc (.cells (gcells g A1 c1 A2 c2) 25)) (.cells (tcells t A c) 28)
  simp only [World.size_alloc] at h2
  exact ⟨((Below.refl _ _).alloc (Nat.le_refl _) _).alloc (by simp) _, (Below.heap_alloc _ _ _ (by simp)).trans h1, h2⟩
theorem RB.drew {g : Sg} {A1 : Option Addr} {c1 : Nat} {A2 : Option Addr} {c2 : Nat} {t : Tm} {A : Option Addr} {c : Nat} {w w1 : World} (h : RB g A1 c1 A2 c2 t A c w w1) : RB g A1 c1 A2 c2 t A c w w1.drew := ⟨h.below.drew, h.bs, h.bt⟩
theorem RB.drewN {g : Sg} {A1 : Option Addr} {c1 : Nat} {A2 : Option Addr} {c2 : Nat} {t : Tm} {A : Option Addr} {c : Nat} {w w1 : World} (h : RB g A1 c1 A2 c2 t A c w w1) (n : Nat) : RB g A1 c1 A2 c2 t A c w (w1.drewN n) := ⟨below_drewN h.below n, h.bs, h.bt⟩

set_option maxHeartbeats 4000000 in
theorem refOwn_any (g : Sg) (A1 : Option Addr) (c1 : Nat) (A2 : Option Addr) (c2 : Nat) (t : Tm) (A : Option Addr) (c n₀ : Nat) (w : World) (hd : SlD n₀ w A2 g.ops) (hn : n₀ ≤ w.heap.size) (hv : validSg g = true) :
    Calls Tryz.prog 37 #[GV g A1 c1 A2 c2, TV t A c] w fun e w' => e = .returned (.string (ownS g.ops t).1) ∧ Below w.heap.size w w' := by
  have HD := Lib.hid hd
  have HF := Lib.hid (find_said hv t.nm)
  have hlen := (valid_parts hv).2.1
  have H0 := Lib.hid (RB.start g A1 c1 A2 c2 t A c w)
  obtain ⟨⟨x0, x1⟩, _⟩ := blk2 H0.out.bs
  obtain ⟨⟨y0, y1, y2⟩, _⟩ := blk3 H0.out.bt
  clear hd hv
  unfold GV TV
  by_cases h5 : t.st.toList.isEmpty = true
  · have e5 : (t.st.toList == []) = true := by rw [List.isEmpty_iff.1 h5]; rfl
    have HO : Hid (ownS g.ops t = match lookD g.ops t.nm with | none => (⟨#[]⟩, false) | some d => (d.res, true)) := Lib.hid (by unfold ownS isV; rw [h5]; rfl)
    clear h5
    go_enter Tryz.func37, Tryz.ntmps37
    go_upto_region 3 with fail
    generalize (w.alloc (.cells #[.slice A1 g.sorts.length c1, .slice A2 g.ops.length c2] 25)).alloc (.cells (tcells t A c) 28) = W0 at H0 x0 x1 y0 y1 y2 ⊢
    have HC := Lib.hid (Find_any g A1 c1 A2 c2 t.nm n₀ W0 (HD.out.later (H0.out.below.mono hn)) (by have := H0.out.below.size; omega) (by omega))
    unfold GV at HC
    go_wp2_with fail
    refine HC.out.mono ?_
    rintro e w1 ⟨rfl, hb1⟩
    have H1 := Lib.hid (H0.out.next hb1)
    clear hb1 HC H0 x0 x1 y0 y1 y2
    rcases HF.out with ⟨hl, hi⟩ | ⟨i, d, hg, hl, hi⟩
    · rw [hi]
      have HL := Lib.hid hl
      clear hl hi
      go_wp2_with fail
      go_ret
      exact ⟨by rw [HO.out, HL.out]; rfl, H1.out.below⟩
    · rw [hi]
      have HL := Lib.hid hl
      have hlt : i < g.ops.length := (List.getElem?_eq_some_iff.1 hg).1
      obtain ⟨b, off, rfl, hbl, hc⟩ := HD.out (by omega)
      obtain ⟨A', c', _, _, d2, _⟩ := hc i d hg
      replace d2 := (H1.out.below.cell (p := ⟨b, _, none⟩) (Nat.lt_of_lt_of_le hbl hn)).trans d2
      obtain ⟨⟨x0, x1⟩, _⟩ := blk2 H1.out.bs
      have hI : (i : Int) < (g.ops.length : Int) := by omega
      have hI' : decide ((i : Int) < 0) = false := decide_eq_false (by omega)
      clear hl hi hg hc
      go_wp2_with fail
      go_ret
      exact ⟨by rw [HO.out, HL.out]; rfl, H1.out.below⟩
  · have e5 : (t.st.toList == []) = false := by
      cases hst : t.st.toList with
      | nil => rw [hst] at h5; exact absurd rfl h5
      | cons a b => rfl
    have HO : Hid (ownS g.ops t = (t.st, true)) := Lib.hid (by unfold ownS isV; rw [show t.st.toList.isEmpty = false by simpa using h5]; rfl)
    clear h5
    go_enter Tryz.func37, Tryz.ntmps37
    go_wp2_with fail
    go_ret
    exact ⟨by rw [HO.out]; rfl, H0.out.below⟩
end Go.Proofs.YthbcfcbonmphfaaGreatDoor
