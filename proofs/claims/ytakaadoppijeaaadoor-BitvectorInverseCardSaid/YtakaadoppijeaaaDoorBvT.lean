/- Walks: Encode. -/
import Derived.BigRegion
import Derived.Test.YtakaadoppijeaaaDoorBvQ
namespace Go.Proofs.YtakaadoppijeaaaDoor
open Go.RowKit
set_option maxRecDepth 100000
theorem Tryd.infoU8 : (Tryd.prog.info? 5).map (fun i => (i.zero, i.size, i.bytes)) = some (some (.int .u8 0), 1, 1) := by kernel_rfl
/-- How many bytes the bits take. -/
def nby (l : List Bool) : Nat := (l.length + 7) / 8
/-- What Encode keeps. -/
structure EncS (l : List Bool) (w : World) (k : Nat) (W : World) : Prop where
  row : ∃ cs : Array Value, cs.size = 4 + nby l ∧ W.heap[w.heap.size]? = some (.cells cs 5 (0, 0)) ∧ cs[0]? = some (.int .u8 (l.length / 16777216 % 256 : Nat)) ∧ cs[1]? = some (.int .u8 (l.length / 65536 % 256 : Nat)) ∧ cs[2]? = some (.int .u8 (l.length / 256 % 256 : Nat)) ∧ cs[3]? = some (.int .u8 (l.length % 256 : Nat)) ∧
    ∀ j, j < nby l → cs[4 + j]? = some (.int .u8 (enB l k j))
  below : Below w.heap.size w W
theorem EncS.drewN {l : List Bool} {w W : World} {k : Nat} (h : EncS l w k W) (q : Nat) : EncS l w k (W.drewN q) := ⟨h.row, bdN h.below q⟩
theorem EncS.off {l : List Bool} {w W : World} {k : Nat} (h : EncS l w k W) (hk : l[k]? = some false) : EncS l w (k + 1) W := by
  obtain ⟨cs, h0, h1, h2, h3, h4, h5, h6⟩ := h.row
  exact ⟨⟨cs, h0, h1, h2, h3, h4, h5, fun j hj => by rw [enB_off _ _ _ hk]; exact h6 j hj⟩, h.below⟩
theorem EncS.on {l : List Bool} {w W : World} {k : Nat} (h : EncS l w k W) (_hk : l[k]? = some true) (q : Nat) : EncS l w (k + 1) ((W.drewN q).setCell ⟨w.heap.size, 4 + k / 8, none⟩ (.int .u8 (enB l (k + 1) (k / 8)))) := by
  obtain ⟨cs, h0, h1, h2, h3, h4, h5, h6⟩ := h.row
  refine ⟨⟨_, by simpa using h0, setAt h1, ?_, ?_, ?_, ?_, fun j hj => ?_⟩, (bdN h.below q).setCell (by simp) _⟩
  · rw [Array.getElem?_setIfInBounds, if_neg (by omega)]; exact h2
  · rw [Array.getElem?_setIfInBounds, if_neg (by omega)]; exact h3
  · rw [Array.getElem?_setIfInBounds, if_neg (by omega)]; exact h4
  · rw [Array.getElem?_setIfInBounds, if_neg (by omega)]; exact h5
  · rw [Array.getElem?_setIfInBounds]
    by_cases e : k / 8 = j
    · subst e; simp; omega
    · rw [if_neg (by omega), enB_other _ _ _ (fun h => e h.symm)]; exact h6 j hj
/-- Bytes in memory. -/
def BytesAt (W : World) (g : Nat) (L : List Nat) : Prop := ∀ i y, L[i]? = some y → W.cell? ⟨g, i, none⟩ = some (.int .u8 (y : Nat))
theorem EncS.at {l : List Bool} {w W : World} (h : EncS l w l.length W) : BytesAt W w.heap.size (enc l) := fun i y hy => by
  obtain ⟨cs, h0, h1, h2, h3, h4, h5, h6⟩ := h.row
  rw [cell_of_row _ _ _ _ _ _ h1]
  match i, hy with
  | 0, hy => rw [h2]; unfold enc at hy; simp at hy; rw [hy]
  | 1, hy => rw [h3]; unfold enc at hy; simp at hy; rw [hy]
  | 2, hy => rw [h4]; unfold enc at hy; simp at hy; rw [hy]
  | 3, hy => rw [h5]; unfold enc at hy; simp at hy; rw [hy]
  | j + 4, hy =>
    have hj : j < nby l := by
      have := (List.getElem?_eq_some_iff.1 hy).1
      rw [enc_len] at this
      unfold nby; omega
    rw [Nat.add_comm j 4, enc_get l hj] at hy
    rw [Nat.add_comm j 4, h6 j hj]
    rw [Option.some.inj hy]
theorem encS_zero (l : List Bool) (w : World) (a b c d : Value) (ha : a = .int .u8 (l.length / 16777216 % 256 : Nat)) (hb : b = .int .u8 (l.length / 65536 % 256 : Nat)) (hc : c = .int .u8 (l.length / 256 % 256 : Nat)) (hd : d = .int .u8 (l.length % 256 : Nat)) :
    EncS l w 0 (((((w.alloc (.cells (madeCells #[.int .u8 0] (4 + nby l)) 5)).setCell ⟨w.heap.size, 0, none⟩ a).setCell ⟨w.heap.size, 1, none⟩ b).setCell ⟨w.heap.size, 2, none⟩ c).setCell ⟨w.heap.size, 3, none⟩ d).drew := by
  have hn := bdNew w (.cells (madeCells #[.int .u8 0] (4 + nby l)) 5)
  subst ha hb hc hd
  refine ⟨⟨_, ?_, setAt (setAt (setAt (setAt hn))), ?_, ?_, ?_, ?_, fun j hj => ?_⟩, ((((((Below.refl _ _).alloc (Nat.le_refl _) _).setCell (by simp) _).setCell (by simp) _).setCell (by simp) _).setCell (by simp) _).drew⟩
  · simp [size_madeCells]
  · simp [Array.getElem?_setIfInBounds, size_madeCells] <;> omega
  · simp [Array.getElem?_setIfInBounds, size_madeCells] <;> omega
  · simp [Array.getElem?_setIfInBounds, size_madeCells] <;> omega
  · simp [Array.getElem?_setIfInBounds, size_madeCells] <;> omega
  · rw [Array.getElem?_setIfInBounds, if_neg (by omega), Array.getElem?_setIfInBounds, if_neg (by omega), Array.getElem?_setIfInBounds, if_neg (by omega), Array.getElem?_setIfInBounds, if_neg (by omega), enB_zero, ← Array.getElem?_toList, toList_madeCells_one]
    simp [hj]
theorem vU8 {a b : Int} (h : a = b) : Value.int .u8 a = .int .u8 b := by rw [h]
theorem u8_in (p : Nat) (h : p < 256) : IntKind.u8.wrap (p : Int) = (p : Int) := by
  simp [IntKind.wrap, IntKind.bits, IntKind.signed]
  omega
theorem or_u8 (y t z : Nat) (hy : y < 256) (ht : t < 8) (h : y ||| 2 ^ t = z) : bits .or .u8 (y : Int) (IntKind.u8.wrap (2 ^ t)) = (z : Int) := by
  have hp : 2 ^ t ≤ 2 ^ 7 := Nat.pow_le_pow_right (by decide) (by omega)
  have e : ((2 : Int) ^ t) = ((2 ^ t : Nat) : Int) := by simp
  have e2 := u8_in (2 ^ t) (by omega)
  have h1 : (BitVec.ofInt 8 (y : Int)).toNat = y := by rw [BitVec.ofInt_natCast, BitVec.toNat_ofNat]; exact Nat.mod_eq_of_lt (by omega)
  have h2 : (BitVec.ofInt 8 ((2 ^ t : Nat) : Int)).toNat = 2 ^ t := by rw [BitVec.ofInt_natCast, BitVec.toNat_ofNat]; exact Nat.mod_eq_of_lt (by omega)
  have hz : z < 256 := by rw [← h]; exact Nat.or_lt_two_pow (n := 8) hy (by omega)
  rw [e, e2]
  show IntKind.u8.wrap ((BitVec.ofInt 8 (y : Int) ||| BitVec.ofInt 8 ((2 ^ t : Nat) : Int)).toNat : Int) = _
  rw [BitVec.toNat_or, h1, h2, h]
  exact u8_in z hz
set_option maxHeartbeats 4000000 in
theorem bv_encode (x wb bb : Nat) (l : List Bool) (w : World) (h : BV x wb bb l w) (hl : l.length ≤ 2000000) :
    Calls Tryd.prog 29 #[.pointer (some ⟨x, 0, none⟩)] w fun e w' => e = .returned (.slice (some ⟨w.heap.size, 0, none⟩) (4 + nby l) (4 + nby l)) ∧ BytesAt w' w.heap.size (enc l) ∧ Below w.heap.size w w' := by
  obtain ⟨⟨c0, c1, c2⟩, _, _, _⟩ := bk3 h.box
  have hx0 : x < w.heap.size := bdLt h.box
  have HV := Lib.hid h
  have HZ := Lib.hid (encS_zero l w)
  obtain ⟨n, hn⟩ : ∃ n, n = l.length := ⟨_, rfl⟩
  obtain ⟨m, hm⟩ : ∃ m, m = nby l := ⟨_, rfl⟩
  have hmn : ((n : Int) + 7) / 8 = (m : Int) := by rw [hm, hn]; unfold nby; omega
  rw [← hn] at c0 hl HZ
  rw [← hm] at HZ ⊢
  have HN := Lib.hid hn
  have HM := Lib.hid hm
  have hm2 : m ≤ 300000 := by omega
  obtain ⟨i1, hi1, hy0, hy1, hy2⟩ := info_parts Tryd.infoU8
  have hmk : ∀ W : World, (Instr.makeSlice 43 (.int .i64 (4 + (m : Int))) (.int .i64 (4 + (m : Int)))).run Tryd.prog W = .ok (.slice (some ⟨W.heap.size, 0, none⟩) (4 + m) (4 + m)) (W.alloc (.cells (madeCells #[.int .u8 0] (4 + m)) 5)) := fun W => by
    have h := run_make (P := Tryd.prog) W 43 5 i1 _ Tryd.underlying43 hi1 hy0 .i64 .i64 (4 + (m : Int)) (4 + (m : Int)) (by omega) (Int.le_refl _) (by rw [hy2]; omega) (by omega)
    rw [hy1, Nat.mul_one, show (4 + (m : Int)).toNat = 4 + m by omega] at h
    exact h
  clear h hn hm hi1 hy0 hy1 hy2
  go_enter Tryd.func29, Tryd.ntmps29
  go_wp2_with fail
  obtain ⟨W, hW⟩ : ∃ W, W = w.alloc (.cells (madeCells #[.int .u8 0] (4 + m)) 5) := ⟨_, rfl⟩
  rw [← hW] at HZ ⊢
  have hn0 : W.heap[w.heap.size]? = some (.cells (madeCells #[.int .u8 0] (4 + m)) 5 (0, 0)) := by rw [hW]; exact bdNew _ _
  have hBW : Below w.heap.size w W := by rw [hW]; exact (Below.refl _ _).alloc (Nat.le_refl _) _
  have hz : ∀ i, i < 4 + m → W.cell? ⟨w.heap.size, i, none⟩ = some (.int .u8 0) := fun i hi => by
    rw [cell_of_row _ _ _ _ _ _ hn0, ← Array.getElem?_toList, toList_madeCells_one]
    simp [hi]
  have z0 := hz 0 (by omega)
  have z1 := hz 1 (by omega)
  have z2 := hz 2 (by omega)
  have z3 := hz 3 (by omega)
  have zf0 : W.frozen? ⟨w.heap.size, 0, none⟩ = false := by simp [World.frozen?, hn0]
  have zf1 : W.frozen? ⟨w.heap.size, 1, none⟩ = false := by simp [World.frozen?, hn0]
  have zf2 : W.frozen? ⟨w.heap.size, 2, none⟩ = false := by simp [World.frozen?, hn0]
  have zf3 : W.frozen? ⟨w.heap.size, 3, none⟩ = false := by simp [World.frozen?, hn0]
  have HB := Lib.hid hBW
  have c0' := (hBW.cell (p := ⟨x, 0, none⟩) hx0).trans c0
  have hxs : x ≠ w.heap.size := by omega
  have hi0 : (0 : Int) < 4 + (m : Int) := by omega
  have hi1' : (1 : Int) < 4 + (m : Int) := by omega
  have hi2' : (2 : Int) < 4 + (m : Int) := by omega
  have hi3' : (3 : Int) < 4 + (m : Int) := by omega
  obtain ⟨s, hs⟩ : ∃ s, s = w.heap.size := ⟨_, rfl⟩
  have HSZ := Lib.hid hs
  rw [← hs] at z0 z1 z2 z3 zf0 zf1 zf2 zf3 hxs hx0 HZ ⊢
  clear hW hn0 hBW hz c0 c1 c2 hmk hmn hs
  obtain ⟨pa, ha⟩ : ∃ pa, pa = n / 16777216 := ⟨_, rfl⟩
  obtain ⟨pb, hb⟩ : ∃ pb, pb = n / 65536 := ⟨_, rfl⟩
  obtain ⟨pc, hc⟩ : ∃ pc, pc = n / 256 := ⟨_, rfl⟩
  obtain ⟨pd, hd⟩ : ∃ pd, pd = pc % 256 := ⟨_, rfl⟩
  obtain ⟨pe, he⟩ : ∃ pe, pe = n % 256 := ⟨_, rfl⟩
  have ga : (n : Int) / 16777216 = (pa : Int) := by omega
  have gb : (n : Int) / 65536 = (pb : Int) := by omega
  have gc : (n : Int) / 256 = (pc : Int) := by omega
  have gd : (pc : Int) % 256 = (pd : Int) := by omega
  have ge : (n : Int) % 256 = (pe : Int) := by omega
  have pa2 : pa < 256 := by omega
  have pb2 : pb < 256 := by omega
  have hsx : s ≠ x := by omega
  have HS0 : Hid (EncS l w 0 (((((W.setCell ⟨s, 0, none⟩ (.int .u8 (pa : Int))).setCell ⟨s, 1, none⟩ (.int .u8 (pb : Int))).setCell ⟨s, 2, none⟩ (.int .u8 (pd : Int))).setCell ⟨s, 3, none⟩ (.int .u8 (pe : Int))).drew)) := Lib.hid (HZ.out (.int .u8 pa) (.int .u8 pb) (.int .u8 pd) (.int .u8 pe) (vU8 (by omega)) (vU8 (by omega)) (vU8 (by omega)) (vU8 (by omega)))
  have wa : IntKind.u8.wrap (pa : Int) = (pa : Int) := u8_in pa pa2
  have wb' : IntKind.u8.wrap (pb : Int) = (pb : Int) := u8_in pb pb2
  have wd' : IntKind.u8.wrap (pc : Int) = (pd : Int) := by rw [← gd]; simp [IntKind.wrap, IntKind.bits, IntKind.signed]
  have we : IntKind.u8.wrap (n : Int) = (pe : Int) := by rw [← ge]; simp [IntKind.wrap, IntKind.bits, IntKind.signed]
  clear ha hb hc hd he
  go_region
  have HS := HS0
  clear HS0
  generalize (((((W.setCell ⟨s, 0, none⟩ (.int .u8 (pa : Int))).setCell ⟨s, 1, none⟩ (.int .u8 (pb : Int))).setCell ⟨s, 2, none⟩ (.int .u8 (pd : Int))).setCell ⟨s, 3, none⟩ (.int .u8 (pe : Int))).drew) = W2 at HS ⊢
  clear ga gb gc gd ge wa wb' wd' we
  clear z0 z1 z2 z3 zf0 zf1 zf2 zf3 HZ c0'
  have c0'' := (bk3 (HV.out.below HS.out.below).box).1.1
  rw [← HN.out] at c0''
  go_wp2_with fail
  clear c0''
  go_loopw [50] (fun c wr => ∃ k : Nat, k ≤ n ∧ c = .int .i64 k ∧ EncS l w k wr) (fun c _ => n - (intOf c).toNat)
  case atStart => exact ⟨0, by omega, rfl, HS.out⟩
  case round =>
    clear HS
    obtain ⟨k, hk, rfl, hinv⟩ := hrel
    have HI := Lib.hid hinv
    clear hinv
    by_cases hlt : k < n
    · have hltI : (k : Int) < (n : Int) := by omega
      obtain ⟨v, hv⟩ : ∃ v, l[k]? = some v := ⟨l[k]'(by rw [← HN.out]; exact hlt), List.getElem?_eq_getElem _⟩
      have hbt := bit_any x wb bb k l wr (HV.out.below HI.out.below) (by rw [← HN.out]; exact hl) (by rw [← HN.out]; exact hlt)
      rw [List.getD_eq_getElem?_getD, hv, Option.getD_some] at hbt
      have HBT := Lib.hid hbt
      clear hbt
      cases v
      · have HNX := Lib.hid (HI.out.off hv)
        clear hv
        go_wp2_with fail
        refine HBT.out.mono ?_
        rintro e w1 ⟨rfl, rfl⟩
        go_wp2_with fail
        go_roundw
        case rel => exact ⟨k + 1, by omega, by go_num, HNX.out⟩
        case measure => simp [intOf]; omega
      · have hon := enB_on l k hv
        have HNX := Lib.hid (fun q => HI.out.on hv q)
        obtain ⟨cs, r0, r1, _, _, _, _, r6⟩ := HI.out.row
        have hj : k / 8 < nby l := by unfold nby; rw [← HN.out]; omega
        have y0 := (cell_of_row _ _ _ _ _ _ r1).trans (r6 (k / 8) hj)
        have y2 : wr.frozen? ⟨w.heap.size, 4 + k / 8, none⟩ = false := by simp [World.frozen?, r1]
        rw [← HM.out] at hj
        obtain ⟨y, hy⟩ : ∃ y, y = enB l k (k / 8) := ⟨_, rfl⟩
        obtain ⟨z, hz⟩ : ∃ z, z = enB l (k + 1) (k / 8) := ⟨_, rfl⟩
        have hyb : y < 256 := by rw [hy]; exact enB_lt _ _ _
        rw [← hy] at y0 hon
        rw [← hz] at hon HNX
        obtain ⟨j, hje⟩ : ∃ j, j = k / 8 := ⟨_, rfl⟩
        obtain ⟨r, hre⟩ : ∃ r, r = k % 8 := ⟨_, rfl⟩
        rw [← hje, ← HSZ.out] at y0 y2 HNX
        rw [← hje] at hj
        rw [← hre] at hon
        obtain ⟨t, hte⟩ : ∃ t, t = 7 - r := ⟨_, rfl⟩
        rw [← hte] at hon
        have ht8 : t < 8 := by omega
        have hI1 : (k : Int) / 8 = (j : Int) := by omega
        have hI2 : (k : Int) % 8 = (r : Int) := by omega
        have hI3 : (k : Int).tmod 8 = (r : Int) := by rw [Int.tmod_eq_emod_of_nonneg (by omega)]; exact hI2
        have hr8 : r < 8 := by omega
        have hjw : IntKind.i64.wrap (j : Int) = (j : Int) := IntWalk.i64_in _ (by omega)
        have hrw : IntKind.i64.wrap (r : Int) = (r : Int) := IntWalk.i64_in _ (by omega)
        have h4w : IntKind.i64.wrap (4 + (j : Int)) = 4 + (j : Int) := IntWalk.i64_in _ (by omega)
        have h7t : (7 : Int) - (r : Int) = (t : Int) := by omega
        have h7w : IntKind.i64.wrap (t : Int) = (t : Int) := IntWalk.i64_in _ (by omega)
        have h4j : (4 + (j : Int)).toNat = 4 + j := by omega
        have h4l : 4 + (j : Int) < 4 + (m : Int) := by omega
        have h40 : (0 : Int) ≤ 4 + (j : Int) := by omega
        have hjm : (j : Int) < (m : Int) := by omega
        have ht8I : (t : Int) < 8 := by omega
        have hO := or_u8 y t z hyb ht8 hon
        clear hv hon hy hz hje hre hte r0 r1 r6 hyb hr8
        go_wp2_with fail
        refine HBT.out.mono ?_
        rintro e w1 ⟨rfl, rfl⟩
        go_wp2_with fail
        go_still_tail 11, (by kernel_rfl)
        change wpList _ _ _ _ _ wr.drew
        go_wp2_with fail
        go_roundw
        case rel => exact ⟨k + 1, by omega, by go_num, HNX.out 1⟩
        case measure => simp [intOf]; omega
    · have hkn : k = n := by omega
      subst hkn
      go_wp2_with fail
      go_ret
      exact ⟨by rw [HSZ.out]; rfl, EncS.at (by have := HI.out; rwa [HN.out] at this), HI.out.below⟩
end Go.Proofs.YtakaadoppijeaaaDoor
