/- Walks: Decode. -/
import Derived.Test.YtakaadoppijeaaaDoorBvDc
import Derived.Test.YtakaadoppijeaaaDoorBvMk
namespace Go.Proofs.YtakaadoppijeaaaDoor
open Go.RowKit
set_option maxRecDepth 100000
/-- A slice of bytes reads as a list of numbers. -/
def BytesO (P : Nat → Prop) (w : World) (A : Option Addr) (L : List Nat) : Prop :=
  0 < L.length → ∃ b off, A = some ⟨b, off, none⟩ ∧ P b ∧ ∀ (i x : Nat), L[i]? = some x → w.cell? ⟨b, off + i, none⟩ = some (.int .u8 (x : Int))
theorem BytesO.below {n : Nat} {w w' : World} {A : Option Addr} {L : List Nat} (h : BytesO (· < n) w A L) (hb : Below n w w') : BytesO (· < n) w' A L := fun hl => by
  obtain ⟨b, off, rfl, hp, hc⟩ := h hl
  exact ⟨b, off, rfl, hp, fun i x hi => (hb.cell (p := ⟨b, off + i, none⟩) hp).trans (hc i x hi)⟩
theorem or_i64_nat (a b : Nat) (ha : a < 4294967296) (hb : b < 4294967296) : bits .or .i64 (a : Int) (b : Int) = ((a ||| b : Nat) : Int) := by
  have hx : a ||| b < 2 ^ 32 := Nat.or_lt_two_pow (by omega) (by omega)
  have h1 : (BitVec.ofInt 64 (a : Int)).toNat = a := by rw [BitVec.ofInt_natCast, BitVec.toNat_ofNat]; exact Nat.mod_eq_of_lt (by omega)
  have h2 : (BitVec.ofInt 64 (b : Int)).toNat = b := by rw [BitVec.ofInt_natCast, BitVec.toNat_ofNat]; exact Nat.mod_eq_of_lt (by omega)
  show IntKind.i64.wrap ((BitVec.ofInt 64 (a : Int) ||| BitVec.ofInt 64 (b : Int)).toNat : Int) = _
  rw [BitVec.toNat_or, h1, h2]
  exact IntWalk.i64_in _ (by omega)
theorem or_join (a c k : Nat) (hc : c < 2 ^ k) : (a * 2 ^ k) ||| c = a * 2 ^ k + c := by
  rw [Nat.mul_comm, ← Nat.two_pow_add_eq_or_of_lt hc]
theorem dn_join (b0 b1 b2 b3 : Nat) (h0 : b0 < 256) (h1 : b1 < 256) (h2 : b2 < 256) (h3 : b3 < 256) :
    bits .or .i64 ((b0 : Int) * 16777216) ((b1 : Int) * 65536) = ((b0 * 16777216 + b1 * 65536 : Nat) : Int) ∧
    bits .or .i64 ((b0 * 16777216 + b1 * 65536 : Nat) : Int) ((b2 : Int) * 256) = ((b0 * 16777216 + b1 * 65536 + b2 * 256 : Nat) : Int) ∧
    bits .or .i64 ((b0 * 16777216 + b1 * 65536 + b2 * 256 : Nat) : Int) (b3 : Int) = ((b0 * 16777216 + b1 * 65536 + b2 * 256 + b3 : Nat) : Int) := by
  have e1 := or_join b0 (b1 * 65536) 24 (by omega)
  have e2 := or_join (b0 * 256 + b1) (b2 * 256) 16 (by omega)
  have e3 := or_join (b0 * 65536 + b1 * 256 + b2) b3 8 (by omega)
  have c0 : (b0 : Int) * 16777216 = ((b0 * 16777216 : Nat) : Int) := by omega
  have c1 : (b1 : Int) * 65536 = ((b1 * 65536 : Nat) : Int) := by omega
  have c2 : (b2 : Int) * 256 = ((b2 * 256 : Nat) : Int) := by omega
  rw [c0, c1, c2]
  refine ⟨?_, ?_, ?_⟩
  · have := or_i64_nat (b0 * 16777216) (b1 * 65536) (by omega) (by omega)
    rw [show b0 * 16777216 = b0 * 2 ^ 24 from rfl, e1] at this
    exact this
  · have := or_i64_nat (b0 * 16777216 + b1 * 65536) (b2 * 256) (by omega) (by omega)
    rw [show b0 * 16777216 + b1 * 65536 = (b0 * 256 + b1) * 2 ^ 16 by omega, e2] at this
    rw [show b0 * 16777216 + b1 * 65536 + b2 * 256 = (b0 * 256 + b1) * 2 ^ 16 + b2 * 256 by omega, show b0 * 16777216 + b1 * 65536 = (b0 * 256 + b1) * 2 ^ 16 by omega, ← this]
  · have := or_i64_nat (b0 * 16777216 + b1 * 65536 + b2 * 256) b3 (by omega) (by omega)
    rw [show b0 * 16777216 + b1 * 65536 + b2 * 256 = (b0 * 65536 + b1 * 256 + b2) * 2 ^ 8 by omega, e3] at this
    rw [show b0 * 16777216 + b1 * 65536 + b2 * 256 = (b0 * 65536 + b1 * 256 + b2) * 2 ^ 8 by omega, ← this]
theorem and_u8_nat (a b : Nat) (ha : a < 256) (hb : b < 256) : bits .and .u8 (a : Int) (b : Int) = ((a &&& b : Nat) : Int) := by
  have hx : a &&& b < 256 := Nat.lt_of_le_of_lt Nat.and_le_left ha
  have h1 : (BitVec.ofInt 8 (a : Int)).toNat = a := by rw [BitVec.ofInt_natCast, BitVec.toNat_ofNat]; exact Nat.mod_eq_of_lt (by omega)
  have h2 : (BitVec.ofInt 8 (b : Int)).toNat = b := by rw [BitVec.ofInt_natCast, BitVec.toNat_ofNat]; exact Nat.mod_eq_of_lt (by omega)
  show IntKind.u8.wrap ((BitVec.ofInt 8 (a : Int) &&& BitVec.ofInt 8 (b : Int)).toNat : Int) = _
  rw [BitVec.toNat_and, h1, h2]
  exact u8_in _ hx
theorem bit_val8 (v r : Nat) (hv : v < 256) : (bits .and .u8 ((v : Int) / 2 ^ r) 1 == 1) = v.testBit r := by
  have e : ((v : Int) / 2 ^ r) = ((v / 2 ^ r : Nat) : Int) := by simp
  have hle : v / 2 ^ r ≤ v := Nat.div_le_self _ _
  have h := and_u8_nat (v / 2 ^ r) 1 (by omega) (by decide)
  rw [Nat.and_one_is_mod] at h
  rw [e, show (1 : Int) = ((1 : Nat) : Int) from rfl, h, Nat.testBit_eq_decide_div_mod_eq]
  generalize v / 2 ^ r % 2 = y
  by_cases hy : y = 1
  · subst hy; rfl
  · rw [decide_eq_false hy, beq_eq_false_iff_ne]
    omega
/-- A code was decoded, or the error was returned. -/
def DecV (b : List Nat) (w : World) (e : Ending) (w' : World) : Prop :=
  (errD b ≠ 0 ∧ e = .returned (.tuple #[.pointer none, .int .i64 (errD b)]) ∧ Below w.heap.size w w') ∨ (errD b = 0 ∧ MadeV (decB b (dnum b)) w e w')
set_option maxHeartbeats 8000000 in
theorem decode_any (A : Option Addr) (cp : Nat) (b : List Nat) (w : World) (hm : b.length ≤ 300000) (hc : b.length ≤ cp) (hb : ∀ x ∈ b, x < 256) (hA : BytesO (· < w.heap.size) w A b) :
    Calls Tryd.prog 31 #[.slice A b.length cp] w (DecV b w) := by
  have HA := Lib.hid hA
  obtain ⟨n, hn⟩ : ∃ n, n = b.length := ⟨_, rfl⟩
  rw [← hn] at hm hc ⊢
  have HN := Lib.hid hn
  have HBY := Lib.hid hb
  clear hA hn hb
  by_cases h4 : n < 4
  · have d4 : decide ((n : Int) < 4) = true := decide_eq_true (by omega)
    have HE := Lib.hid (errD_a (b := b) (by rw [← HN.out]; exact h4))
    go_enter Tryd.func31, Tryd.ntmps31
    go_wp2_with fail
    go_ret2
    exact Or.inl ⟨by rw [HE.out]; decide, by rw [HE.out]; rfl, Below.refl _ _⟩
  have d4 : decide ((n : Int) < 4) = false := decide_eq_false (by omega)
  have H4 := Lib.hid (show ¬ b.length < 4 by rw [← HN.out]; exact h4)
  have h4' : 4 ≤ n := by omega
  obtain ⟨p, off, hAe, hp, hcc⟩ := HA.out (by rw [← HN.out]; omega)
  subst hAe
  have hcell : ∀ i, i < b.length → b[i]? = some (b.getD i 0) := fun i hi => by rw [List.getD_eq_getElem?_getD, List.getElem?_eq_getElem hi]; rfl
  have hlt : ∀ i, b.getD i 0 < 256 := fun i => by
    by_cases hi : i < b.length
    · exact HBY.out _ (List.mem_of_getElem? (hcell i hi))
    · rw [List.getD_eq_getElem?_getD, List.getElem?_eq_none (by omega)]; decide
  have x0 := hcc 0 _ (hcell 0 (by rw [← HN.out]; omega))
  have x1 := hcc 1 _ (hcell 1 (by rw [← HN.out]; omega))
  have x2 := hcc 2 _ (hcell 2 (by rw [← HN.out]; omega))
  have x3 := hcc 3 _ (hcell 3 (by rw [← HN.out]; omega))
  have HCC := Lib.hid (fun i (hi : i < b.length) => hcc i _ (hcell i hi))
  have hj := dn_join (b.getD 0 0) (b.getD 1 0) (b.getD 2 0) (b.getD 3 0) (hlt 0) (hlt 1) (hlt 2) (hlt 3)
  have hd : dnum b = b.getD 0 0 * 16777216 + b.getD 1 0 * 65536 + b.getD 2 0 * 256 + b.getD 3 0 := by unfold dnum; omega
  have l0 := hlt 0
  have l1 := hlt 1
  have l2 := hlt 2
  have l3 := hlt 3
  generalize b.getD 0 0 = b0 at x0 hj hd l0
  generalize b.getD 1 0 = b1 at x1 hj hd l1
  generalize b.getD 2 0 = b2 at x2 hj hd l2
  generalize b.getD 3 0 = b3 at x3 hj hd l3
  obtain ⟨j1, j2, j3⟩ := hj
  rw [← hd] at j3
  obtain ⟨m, hm'⟩ : ∃ m, m = dnum b := ⟨_, rfl⟩
  rw [← hm'] at j3 hd
  obtain ⟨m2, hm2⟩ : ∃ m2, m2 = b0 * 16777216 + b1 * 65536 + b2 * 256 := ⟨_, rfl⟩
  obtain ⟨m1, hm1⟩ : ∃ m1, m1 = b0 * 16777216 + b1 * 65536 := ⟨_, rfl⟩
  rw [← hm2] at j2 j3
  rw [← hm1] at j1 j2
  have HM := Lib.hid hm'
  have HLT := Lib.hid hlt
  rw [Nat.add_zero] at x0
  have hmb : m < 4294967296 := by omega
  have hnI1 : (1 : Int) < (n : Int) := by omega
  have hnI2 : (2 : Int) < (n : Int) := by omega
  have hnI3 : (3 : Int) < (n : Int) := by omega
  have hnI0 : (0 : Int) < (n : Int) := by omega
  clear hd hm' hm1 hm2 hlt hcell hcc
  go_enter Tryd.func31, Tryd.ntmps31
  go_wp2_with fail
  go_quiet (fail)
  clear x0 x1 x2 x3 j1 j2 j3 l0 l1 l2 l3
  have HBW : Hid (Below w.heap.size w (w.drewN nq)) := Lib.hid (bdQ w nq)
  generalize w.drewN nq = W at HBW ⊢
  by_cases h5 : 65536 < m
  · have d5 : decide (65536 < (m : Int)) = true := decide_eq_true (by omega)
    have HE := Lib.hid (errD_b H4.out (by rw [← HM.out]; exact h5))
    go_wp2_with fail
    go_ret2
    exact Or.inl ⟨by rw [HE.out]; decide, by rw [HE.out]; rfl, HBW.out⟩
  have d5 : decide (65536 < (m : Int)) = false := decide_eq_false (by omega)
  have H5 := Lib.hid (show ¬ 65536 < dnum b by rw [← HM.out]; exact h5)
  have hm65 : m ≤ 65536 := by omega
  obtain ⟨k, hk⟩ : ∃ k, k = n - 4 := ⟨_, rfl⟩
  obtain ⟨z, hz⟩ : ∃ z, z = (m + 7) / 8 := ⟨_, rfl⟩
  have hkI : (n : Int) - 4 = (k : Int) := by omega
  have hzI : ((m : Int) + 7) / 8 = (z : Int) := by omega
  have h4cI : (4 : Int) ≤ (cp : Int) := by omega
  have h4nI : (4 : Int) ≤ (n : Int) := by omega
  have hkn : (n - 4) = k := by omega
  have hncI : (n : Int) ≤ (cp : Int) := by omega
  have HK := Lib.hid hk
  have HZ := Lib.hid hz
  clear hk hz
  by_cases hkz : k < z
  · have dkz : decide ((k : Int) < (z : Int)) = true := decide_eq_true (by omega)
    have dkz' : decide (k < z) = true := decide_eq_true hkz
    have HE := Lib.hid (errD_c H4.out H5.out (by rw [← HM.out, ← HN.out, ← HK.out, ← HZ.out]; exact hkz))
    by_cases h4c : cp = 4
    · have h4cb : ((cp : Int) == 4) = true := by simp; omega
      subst h4c
      go_wp2_with fail
      go_ret2
      exact Or.inl ⟨by rw [HE.out]; decide, by rw [HE.out]; rfl, HBW.out⟩
    · have h4cb : ((cp : Int) == 4) = false := by simp; omega
      have h4cp : 4 < cp := by omega
      have h4cpI : (4 : Int) < (cp : Int) := by omega
      go_wp2_with fail
      go_ret2
      exact Or.inl ⟨by rw [HE.out]; decide, by rw [HE.out]; rfl, HBW.out⟩
  have dkz : decide ((k : Int) < (z : Int)) = false := decide_eq_false (by omega)
  have dkz' : decide (k < z) = false := decide_eq_false hkz
  have HKZ := Lib.hid (show ¬ b.length - 4 < (dnum b + 7) / 8 by rw [← HM.out, ← HN.out, ← HK.out, ← HZ.out]; exact hkz)
  by_cases h4c : cp = 4
  · have h4cb : ((cp : Int) == 4) = true := by simp; omega
    have hk0 : k = 0 := by have := HK.out; omega
    have hm0 : m = 0 := by have := HZ.out; omega
    have hz0 : z = 0 := by omega
    subst h4c
    have HE := Lib.hid (errD_f H4.out H5.out HKZ.out (by rw [← HM.out, ← HN.out, ← HK.out]; omega) (by rw [← HN.out, ← HK.out]; exact rest_none _ (by omega)))
    have dzk : decide ((z : Int) < (k : Int)) = false := decide_eq_false (by omega)
    have dzk' : decide (z < k) = false := decide_eq_false (by omega)
    have hm8 : (m : Int) % 8 = 0 := by omega
    have hm00 : m ≤ 0 := by omega
    have hS : BitsS (decB b m) W 0 (W.alloc (.cells (madeCells #[.bool false] m) 4)) := ⟨⟨_, by rw [size_madeCells, decB_len], bdNew _ _, fun j hj => absurd hj (by omega)⟩, (Below.refl _ _).alloc (Nat.le_refl _) _⟩
    have HS := Lib.hid hS
    obtain ⟨i1, hi1, hy0, hy1, hy2⟩ := info_parts Tryd.infoBool
    have hmk : ∀ W : World, (Instr.makeSlice 22 (.int .i64 (m : Int)) (.int .i64 (m : Int))).run Tryd.prog W = .ok (.slice (some ⟨W.heap.size, 0, none⟩) m m) (W.alloc (.cells (madeCells #[.bool false] m) 4)) := fun W => by
      have h := run_make (P := Tryd.prog) W 22 4 i1 _ Tryd.underlying22 hi1 hy0 .i64 .i64 (m : Int) (m : Int) (by omega) (Int.le_refl _) (by rw [hy2]; omega) (by omega)
      rw [hy1, Nat.mul_one] at h
      exact h
    clear hS hi1 hy0 hy1 hy2
    clear hm0 hk0 hz0
    go_wp2_with fail
    clear hmk
    go_loopw [68] (fun c wr => ∃ j : Nat, j ≤ m ∧ c = .int .i64 j ∧ BitsS (decB b m) W j wr) (fun c _ => m - (intOf c).toNat)
    case atStart => exact ⟨0, by omega, rfl, HS.out⟩
    case round =>
      clear HS
      obtain ⟨j, hj, rfl, hinv⟩ := hrel
      have HI := Lib.hid hinv
      clear hinv
      by_cases hlt : j < m
      · exfalso; omega
      · have hjm : j = m := by omega
        subst hjm
        have HF : Hid (BitsS (decB b j) W (decB b j).length wr) := Lib.hid (by rw [decB_len]; exact HI.out)
        have hmk2 := make_any (some ⟨W.heap.size, 0, none⟩) j (decB b j) (· = W.heap.size) wr (fun q hq => by rw [hq]; obtain ⟨cs, r0, r1, r2⟩ := HF.out.row; exact bdLt r1) HF.out.at (by rw [decB_len]; exact hm65)
        rw [decB_len] at hmk2
        have HMK := Lib.hid hmk2
        clear hmk2
        go_wp2_with fail
        refine HMK.out.mono ?_
        rintro e w3 ⟨x, wb, bb, rfl, hv, hb⟩
        have HVV := Lib.hid hv
        have HB3 := Lib.hid (HBW.out.trans ((HI.out.below.mono HBW.out.size).trans (hb.mono (Nat.le_trans HBW.out.size HI.out.below.size))))
        clear hv hb
        go_wp2_with fail
        go_ret2
        exact Or.inr ⟨HE.out, x, wb, bb, rfl, by rw [← HM.out]; exact HVV.out, HB3.out⟩
  have h4cb : ((cp : Int) == 4) = false := by simp; omega
  have h4cp : 4 < cp := by omega
  have h4cpI : (4 : Int) < (cp : Int) := by omega
  by_cases hzk : z < k
  · have dzk : decide ((z : Int) < (k : Int)) = true := decide_eq_true (by omega)
    have dzk' : decide (z < k) = true := decide_eq_true hzk
    have HE := Lib.hid (errD_d H4.out H5.out HKZ.out (by rw [← HM.out, ← HN.out, ← HK.out, ← HZ.out]; exact hzk))
    go_wp2_with fail
    go_ret2
    exact Or.inl ⟨by rw [HE.out]; decide, by rw [HE.out]; rfl, HBW.out⟩
  have dzk : decide ((z : Int) < (k : Int)) = false := decide_eq_false (by omega)
  have dzk' : decide (z < k) = false := decide_eq_false hzk
  have HZK := Lib.hid (show ¬ (dnum b + 7) / 8 < b.length - 4 by rw [← HM.out, ← HN.out, ← HK.out, ← HZ.out]; exact hzk)
  have hkz2 : k = (m + 7) / 8 := by have := HZ.out; omega
  have HKE := Lib.hid hkz2
  have hk8 : 8 * (b.length - 4) = 8 * ((m + 7) / 8) := by rw [← HN.out, ← HK.out, ← hkz2]
  have HK8 := Lib.hid hk8
  obtain ⟨r0, hr0⟩ : ∃ r0, r0 = m % 8 := ⟨_, rfl⟩
  have hr0I : (m : Int) % 8 = (r0 : Int) := by omega
  have HR0 := Lib.hid hr0
  have hr8 : r0 < 8 := by omega
  clear hkz2 hk8 hr0
  by_cases hrz : r0 = 0
  · subst hrz
    have HE := Lib.hid (errD_f H4.out H5.out HKZ.out HZK.out (by rw [← HM.out, HK8.out]; exact rest_none _ (by have := HR0.out; omega)))
    have hm8 : (m + 7) / 8 * 8 = m := by have := HR0.out; omega
    have HM8 := Lib.hid hm8
    clear hm8
    have hS : BitsS (decB b m) W 0 (W.alloc (.cells (madeCells #[.bool false] m) 4)) := ⟨⟨_, by rw [size_madeCells, decB_len], bdNew _ _, fun j hj => absurd hj (by omega)⟩, (Below.refl _ _).alloc (Nat.le_refl _) _⟩
    have HS := Lib.hid hS
    obtain ⟨i1, hi1, hy0, hy1, hy2⟩ := info_parts Tryd.infoBool
    have hmk : ∀ W : World, (Instr.makeSlice 22 (.int .i64 (m : Int)) (.int .i64 (m : Int))).run Tryd.prog W = .ok (.slice (some ⟨W.heap.size, 0, none⟩) m m) (W.alloc (.cells (madeCells #[.bool false] m) 4)) := fun W => by
      have h := run_make (P := Tryd.prog) W 22 4 i1 _ Tryd.underlying22 hi1 hy0 .i64 .i64 (m : Int) (m : Int) (by omega) (Int.le_refl _) (by rw [hy2]; omega) (by omega)
      rw [hy1, Nat.mul_one] at h
      exact h
    clear hS hi1 hy0 hy1 hy2
    go_wp2_with fail
    clear hmk
    go_loopw [68] (fun c wr => ∃ j : Nat, j ≤ m ∧ c = .int .i64 j ∧ BitsS (decB b m) W j wr) (fun c _ => m - (intOf c).toNat)
    case atStart => exact ⟨0, by omega, rfl, HS.out⟩
    case round =>
      clear HS
      obtain ⟨j, hj, rfl, hinv⟩ := hrel
      have HI := Lib.hid hinv
      clear hinv
      by_cases hlt : j < m
      · have hltI : (j : Int) < (m : Int) := by omega
        obtain ⟨cs, r0, r1, r2⟩ := HI.out.row
        rw [decB_len] at r0
        have y2 : wr.frozen? ⟨W.heap.size, j, none⟩ = false := by simp [World.frozen?, r1]
        obtain ⟨u0, y1⟩ : ∃ u0, wr.cell? ⟨W.heap.size, j, none⟩ = some u0 := ⟨_, (cell_of_row wr _ j _ _ _ r1).trans (Array.getElem?_eq_getElem (by rw [r0]; exact hlt))⟩
        have hjz : j / 8 < k := by omega
        have x0 := (HI.out.below.cell (p := ⟨p, off + (4 + j / 8), none⟩) (Nat.lt_of_lt_of_le hp HBW.out.size)).trans ((HBW.out.cell (p := ⟨p, off + (4 + j / 8), none⟩) hp).trans (HCC.out (4 + j / 8) (by rw [← HN.out]; omega)))
        have hyb := HLT.out (4 + j / 8)
        have hNX := HI.out.next (by rw [decB_len]; exact hlt)
        have hv : (decB b m).getD j false = (b.getD (4 + j / 8) 0).testBit (7 - j % 8) := by rw [List.getD_eq_getElem?_getD, decB_get b hlt]; rfl
        rw [hv] at hNX
        have hbv := bit_val8 (b.getD (4 + j / 8) 0) (7 - j % 8) hyb
        generalize b.getD (4 + j / 8) 0 = y at x0 hyb hNX hbv
        obtain ⟨v, hv'⟩ : ∃ v, v = y.testBit (7 - j % 8) := ⟨_, rfl⟩
        rw [← hv'] at hNX hbv
        have HNX := Lib.hid hNX
        obtain ⟨q, hq⟩ : ∃ q, q = j / 8 := ⟨_, rfl⟩
        obtain ⟨r, hr⟩ : ∃ r, r = j % 8 := ⟨_, rfl⟩
        obtain ⟨t, ht⟩ : ∃ t, t = 7 - r := ⟨_, rfl⟩
        rw [← hq] at x0 hjz
        rw [← hr, ← ht] at hbv
        rw [← Nat.add_assoc] at x0
        have hI1 : (j : Int) / 8 = (q : Int) := by omega
        have hI2 : (j : Int) % 8 = (r : Int) := by omega
        have hI3 : (7 : Int) - (r : Int) = (t : Int) := by omega
        have hqk : (q : Int) < (k : Int) := by omega
        have ht8 : t < 8 := by omega
        have ht8I : (t : Int) < 8 := by omega
        clear hNX hv hv' hq hr ht r0 r1 r2 hyb
        go_wp2_with fail
        go_roundw
        case rel => exact ⟨j + 1, by omega, by go_num, HNX.out⟩
        case measure => simp [intOf]; omega
      · have hjm : j = m := by omega
        subst hjm
        have HF : Hid (BitsS (decB b j) W (decB b j).length wr) := Lib.hid (by rw [decB_len]; exact HI.out)
        have hmk2 := make_any (some ⟨W.heap.size, 0, none⟩) j (decB b j) (· = W.heap.size) wr (fun q hq => by rw [hq]; obtain ⟨cs, r0, r1, r2⟩ := HF.out.row; exact bdLt r1) HF.out.at (by rw [decB_len]; exact hm65)
        rw [decB_len] at hmk2
        have HMK := Lib.hid hmk2
        clear hmk2
        go_wp2_with fail
        refine HMK.out.mono ?_
        rintro e w3 ⟨x, wb, bb, rfl, hv, hb⟩
        have HVV := Lib.hid hv
        have HB3 := Lib.hid (HBW.out.trans ((HI.out.below.mono HBW.out.size).trans (hb.mono (Nat.le_trans HBW.out.size HI.out.below.size))))
        clear hv hb
        go_wp2_with fail
        go_ret2
        exact Or.inr ⟨HE.out, x, wb, bb, rfl, by rw [← HM.out]; exact HVV.out, HB3.out⟩
  · have hr0p : 0 < r0 := by omega
    have hr0pI : (0 : Int) < (r0 : Int) := by omega
    have dr0 : decide ((0 : Int) < (r0 : Int)) = true := decide_eq_true hr0pI
    have hmk8 : m / 8 < k := by have := HKE.out; have := HR0.out; omega
    have x0 := (HBW.out.cell (p := ⟨p, off + (4 + m / 8), none⟩) hp).trans (HCC.out (4 + m / 8) (by rw [← HN.out]; omega))
    have hyb := HLT.out (4 + m / 8)
    obtain ⟨y, hy⟩ : ∃ y, y = b.getD (4 + m / 8) 0 := ⟨_, rfl⟩
    rw [← hy] at x0 hyb
    have hrl := rest_last HR0.out hr0p hy.symm hyb
    rw [← HKE.out] at hrl
    obtain ⟨q0, hq0⟩ : ∃ q0, q0 = m / 8 := ⟨_, rfl⟩
    rw [← hq0, ← Nat.add_assoc] at x0
    rw [← hq0] at hmk8
    have hq0I : (m : Int) / 8 = (q0 : Int) := by omega
    have hq0k : (q0 : Int) < (k : Int) := by omega
    have hr8I : (r0 : Int) < 8 := by omega
    have HRL := Lib.hid hrl
    clear hy hq0 hrl
    have hcast : ((y * 2 ^ r0 % 256 : Nat) : Int) = (y : Int) * 2 ^ r0 % 256 := by simp
    by_cases hzr : y * 2 ^ r0 % 256 = 0
    · have hbb : ((y : Int) * 2 ^ r0 % 256 != 0) = false := by rw [← hcast, hzr]; rfl
      have HE := Lib.hid (errD_f H4.out H5.out HKZ.out HZK.out (by rw [← HM.out, HK8.out, ← HKE.out]; exact HRL.out.2 hzr))
      clear hcast hzr
      have hS : BitsS (decB b m) W 0 (W.alloc (.cells (madeCells #[.bool false] m) 4)) := ⟨⟨_, by rw [size_madeCells, decB_len], bdNew _ _, fun j hj => absurd hj (by omega)⟩, (Below.refl _ _).alloc (Nat.le_refl _) _⟩
      have HS := Lib.hid hS
      obtain ⟨i1, hi1, hy0, hy1, hy2⟩ := info_parts Tryd.infoBool
      have hmk : ∀ W : World, (Instr.makeSlice 22 (.int .i64 (m : Int)) (.int .i64 (m : Int))).run Tryd.prog W = .ok (.slice (some ⟨W.heap.size, 0, none⟩) m m) (W.alloc (.cells (madeCells #[.bool false] m) 4)) := fun W => by
        have h := run_make (P := Tryd.prog) W 22 4 i1 _ Tryd.underlying22 hi1 hy0 .i64 .i64 (m : Int) (m : Int) (by omega) (Int.le_refl _) (by rw [hy2]; omega) (by omega)
        rw [hy1, Nat.mul_one] at h
        exact h
      clear hS hi1 hy0 hy1 hy2
      go_wp2_with fail
      clear hq0I hbb
      clear hmk x0
      go_loopw [68] (fun c wr => ∃ j : Nat, j ≤ m ∧ c = .int .i64 j ∧ BitsS (decB b m) W j wr) (fun c _ => m - (intOf c).toNat)
      case atStart => exact ⟨0, by omega, rfl, HS.out⟩
      case round =>
        clear HS
        obtain ⟨j, hj, rfl, hinv⟩ := hrel
        have HI := Lib.hid hinv
        clear hinv
        by_cases hlt : j < m
        · have hltI : (j : Int) < (m : Int) := by omega
          obtain ⟨cs, r0, r1, r2⟩ := HI.out.row
          rw [decB_len] at r0
          have y2 : wr.frozen? ⟨W.heap.size, j, none⟩ = false := by simp [World.frozen?, r1]
          obtain ⟨u0, y1⟩ : ∃ u0, wr.cell? ⟨W.heap.size, j, none⟩ = some u0 := ⟨_, (cell_of_row wr _ j _ _ _ r1).trans (Array.getElem?_eq_getElem (by rw [r0]; exact hlt))⟩
          have hjz : j / 8 < k := by omega
          have x0 := (HI.out.below.cell (p := ⟨p, off + (4 + j / 8), none⟩) (Nat.lt_of_lt_of_le hp HBW.out.size)).trans ((HBW.out.cell (p := ⟨p, off + (4 + j / 8), none⟩) hp).trans (HCC.out (4 + j / 8) (by rw [← HN.out]; omega)))
          have hyb := HLT.out (4 + j / 8)
          have hNX := HI.out.next (by rw [decB_len]; exact hlt)
          have hv : (decB b m).getD j false = (b.getD (4 + j / 8) 0).testBit (7 - j % 8) := by rw [List.getD_eq_getElem?_getD, decB_get b hlt]; rfl
          rw [hv] at hNX
          have hbv := bit_val8 (b.getD (4 + j / 8) 0) (7 - j % 8) hyb
          generalize b.getD (4 + j / 8) 0 = y at x0 hyb hNX hbv
          obtain ⟨v, hv'⟩ : ∃ v, v = y.testBit (7 - j % 8) := ⟨_, rfl⟩
          rw [← hv'] at hNX hbv
          have HNX := Lib.hid hNX
          obtain ⟨q, hq⟩ : ∃ q, q = j / 8 := ⟨_, rfl⟩
          obtain ⟨r, hr⟩ : ∃ r, r = j % 8 := ⟨_, rfl⟩
          obtain ⟨t, ht⟩ : ∃ t, t = 7 - r := ⟨_, rfl⟩
          rw [← hq] at x0 hjz
          rw [← hr, ← ht] at hbv
          rw [← Nat.add_assoc] at x0
          have hI1 : (j : Int) / 8 = (q : Int) := by omega
          have hI2 : (j : Int) % 8 = (r : Int) := by omega
          have hI3 : (7 : Int) - (r : Int) = (t : Int) := by omega
          have hqk : (q : Int) < (k : Int) := by omega
          have ht8 : t < 8 := by omega
          have ht8I : (t : Int) < 8 := by omega
          clear hNX hv hv' hq hr ht r0 r1 r2 hyb
          go_wp2_with fail
          go_roundw
          case rel => exact ⟨j + 1, by omega, by go_num, HNX.out⟩
          case measure => simp [intOf]; omega
        · have hjm : j = m := by omega
          subst hjm
          have HF : Hid (BitsS (decB b j) W (decB b j).length wr) := Lib.hid (by rw [decB_len]; exact HI.out)
          have hmk2 := make_any (some ⟨W.heap.size, 0, none⟩) j (decB b j) (· = W.heap.size) wr (fun q hq => by rw [hq]; obtain ⟨cs, r0, r1, r2⟩ := HF.out.row; exact bdLt r1) HF.out.at (by rw [decB_len]; exact hm65)
          rw [decB_len] at hmk2
          have HMK := Lib.hid hmk2
          clear hmk2
          go_wp2_with fail
          refine HMK.out.mono ?_
          rintro e w3 ⟨x, wb, bb, rfl, hv, hb⟩
          have HVV := Lib.hid hv
          have HB3 := Lib.hid (HBW.out.trans ((HI.out.below.mono HBW.out.size).trans (hb.mono (Nat.le_trans HBW.out.size HI.out.below.size))))
          clear hv hb
          go_wp2_with fail
          go_ret2
          exact Or.inr ⟨HE.out, x, wb, bb, rfl, by rw [← HM.out]; exact HVV.out, HB3.out⟩
    · have hbb : ((y : Int) * 2 ^ r0 % 256 != 0) = true := by rw [← hcast]; simp only [bne_iff_ne, ne_eq]; omega
      have HE := Lib.hid (errD_e H4.out H5.out HKZ.out HZK.out (by
        cases hq : restB b (dnum b) (8 * (b.length - 4)) with
        | false => rfl
        | true => rw [← HM.out, HK8.out, ← HKE.out] at hq; exact absurd (HRL.out.1 hq) hzr))
      clear hcast hzr
      go_wp2_with fail
      go_ret2
      exact Or.inl ⟨by rw [HE.out]; decide, by rw [HE.out]; rfl, HBW.out⟩
end Go.Proofs.YtakaadoppijeaaaDoor
