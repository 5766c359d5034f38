/- Walks: the reference's Decode. -/
import Derived.Test.YtakaadoppijeaaaDoorBvDe
namespace Go.Proofs.YtakaadoppijeaaaDoor
open Go.RowKit
set_option maxRecDepth 100000
def valsB (L : List Bool) : List Value := L.map Value.bool
theorem valsB_snoc (L : List Bool) (x : Bool) : valsB (L ++ [x]) = valsB L ++ [.bool x] := by simp [valsB]
theorem own_bools {w₀ W : World} {G : Option Addr} {n cap : Nat} {L : List Bool} (h : W.ownsRow w₀.heap.size 4 1 (.slice G n cap) n (valsB L)) : BitsAt (fun x => w₀.heap.size ≤ x ∧ x < W.heap.size) W G L := fun hl => by
  have hn : 0 < n := by
    have := h.1
    unfold valsB at this
    rw [List.length_map] at this
    omega
  obtain ⟨g, cap', hv, hg, hlt⟩ := h.form hn
  have hA : G = some ⟨g, 0, none⟩ := by injection hv
  subst hA
  refine ⟨g, 0, rfl, ⟨hg, hlt⟩, fun i x hx => ?_⟩
  have := h.cells (g := g) rfl i (.bool x) (by unfold valsB; rw [List.getElem?_map, hx]; rfl)
  have e : ({ block := g, off := 0 } : Addr).add i = ⟨g, 0 + i, none⟩ := by
    unfold Addr.add
    split
    · simp_all
    · rfl
  rwa [e] at this
/-- What the reference answers. -/
def RefD (b : List Nat) (w : World) (e : Ending) (w' : World) : Prop :=
  ∃ (A : Option Addr) (cap : Nat) (L : List Bool), e = .returned (.tuple #[.slice A L.length cap, .int .i64 (errD b)]) ∧ (errD b = 0 → L = decB b (dnum b)) ∧ BitsAt (fun x => w.heap.size ≤ x ∧ x < w'.heap.size) w' A L ∧ Below w.heap.size w w'
theorem RefD.err {b : List Nat} {w w' : World} {k : Nat} (hk : errD b = k) (h0 : k ≠ 0) (hb : Below w.heap.size w w') : RefD b w (.returned (.tuple #[.slice none 0 0, .int .i64 k])) w' :=
  ⟨none, 0, [], by rw [hk]; rfl, fun h => absurd (hk.symm.trans h) h0, fun h => absurd h (by simp), hb⟩
set_option maxHeartbeats 8000000 in
theorem refDecode_any (A : Option Addr) (cp : Nat) (b : List Nat) (w : World) (hm : b.length ≤ 300000) (hb : ∀ x ∈ b, x < 256) (hA : BytesO (· < w.heap.size) w A b) :
    Calls Tryd.prog 32 #[.slice A b.length cp] w (RefD b w) := by
  have HA := Lib.hid hA
  obtain ⟨n, hn⟩ : ∃ n, n = b.length := ⟨_, rfl⟩
  rw [← hn] at hm ⊢
  have HN := Lib.hid hn
  have HBY := Lib.hid hb
  clear hA hn hb
  by_cases h4 : n < 4
  · have d4 : decide ((n : Int) < 4) = true := decide_eq_true (by omega)
    have HE := Lib.hid (errD_a (b := b) (by rw [← HN.out]; exact h4))
    go_enter Tryd.func32, Tryd.ntmps32
    go_wp2_with fail
    go_ret2
    exact RefD.err HE.out (by decide) (Below.refl _ _)
  have d4 : decide ((n : Int) < 4) = false := decide_eq_false (by omega)
  have H4 := Lib.hid (show ¬ b.length < 4 by rw [← HN.out]; exact h4)
  have h4' : 4 ≤ n := by omega
  obtain ⟨p, off, hAe, hp, hcc⟩ := HA.out (by rw [← HN.out]; omega)
  subst hAe
  have hcell : ∀ i, i < b.length → b[i]? = some (b.getD i 0) := fun i hi => by rw [List.getD_eq_getElem?_getD, List.getElem?_eq_getElem hi]; rfl
  have hlt : ∀ i, b.getD i 0 < 256 := fun i => by
    by_cases hi : i < b.length
    · exact HBY.out _ (List.mem_of_getElem? (hcell i hi))
    · rw [List.getD_eq_getElem?_getD, List.getElem?_eq_none (by omega)]; decide
  have x0 := hcc 0 _ (hcell 0 (by rw [← HN.out]; omega))
  have x1 := hcc 1 _ (hcell 1 (by rw [← HN.out]; omega))
  have x2 := hcc 2 _ (hcell 2 (by rw [← HN.out]; omega))
  have x3 := hcc 3 _ (hcell 3 (by rw [← HN.out]; omega))
  have HCC := Lib.hid (fun i (hi : i < b.length) => hcc i _ (hcell i hi))
  have hd : dnum b = ((b.getD 0 0 * 256 + b.getD 1 0) * 256 + b.getD 2 0) * 256 + b.getD 3 0 := rfl
  have l0 := hlt 0
  have l1 := hlt 1
  have l2 := hlt 2
  have l3 := hlt 3
  generalize b.getD 0 0 = b0 at x0 hd l0
  generalize b.getD 1 0 = b1 at x1 hd l1
  generalize b.getD 2 0 = b2 at x2 hd l2
  generalize b.getD 3 0 = b3 at x3 hd l3
  obtain ⟨m, hm'⟩ : ∃ m, m = dnum b := ⟨_, rfl⟩
  rw [← hm'] at hd
  obtain ⟨a1, ha1⟩ : ∃ a1, a1 = b0 * 256 := ⟨_, rfl⟩
  obtain ⟨c1, hc1⟩ : ∃ c1, c1 = a1 + b1 := ⟨_, rfl⟩
  obtain ⟨a2, ha2⟩ : ∃ a2, a2 = c1 * 256 := ⟨_, rfl⟩
  obtain ⟨c2, hc2⟩ : ∃ c2, c2 = a2 + b2 := ⟨_, rfl⟩
  obtain ⟨a3, ha3⟩ : ∃ a3, a3 = c2 * 256 := ⟨_, rfl⟩
  have e1 : (b0 : Int) * 256 = (a1 : Int) := by omega
  have e2 : (a1 : Int) + (b1 : Int) = (c1 : Int) := by omega
  have e3 : (c1 : Int) * 256 = (a2 : Int) := by omega
  have e4 : (a2 : Int) + (b2 : Int) = (c2 : Int) := by omega
  have e5 : (c2 : Int) * 256 = (a3 : Int) := by omega
  have e6 : (a3 : Int) + (b3 : Int) = (m : Int) := by omega
  have hmb : m < 4294967296 := by omega
  have w1 : IntKind.i64.wrap (a1 : Int) = (a1 : Int) := IntWalk.i64_in _ (by omega)
  have w2 : IntKind.i64.wrap (c1 : Int) = (c1 : Int) := IntWalk.i64_in _ (by omega)
  have w3 : IntKind.i64.wrap (a2 : Int) = (a2 : Int) := IntWalk.i64_in _ (by omega)
  have w4 : IntKind.i64.wrap (c2 : Int) = (c2 : Int) := IntWalk.i64_in _ (by omega)
  have w5 : IntKind.i64.wrap (a3 : Int) = (a3 : Int) := IntWalk.i64_in _ (by omega)
  have w6 : IntKind.i64.wrap (m : Int) = (m : Int) := IntWalk.i64_in _ (by omega)
  have HM := Lib.hid hm'
  have HLT := Lib.hid hlt
  rw [Nat.add_zero] at x0
  have hnI1 : (1 : Int) < (n : Int) := by omega
  have hnI2 : (2 : Int) < (n : Int) := by omega
  have hnI3 : (3 : Int) < (n : Int) := by omega
  have hnI0 : (0 : Int) < (n : Int) := by omega
  clear hd hm' ha1 hc1 ha2 hc2 ha3 hlt hcell hcc
  go_enter Tryd.func32, Tryd.ntmps32
  go_wp2_with fail
  go_quiet (fail)
  clear x0 x1 x2 x3 l0 l1 l2 l3 e1 e2 e3 e4 e5 e6 w1 w2 w3 w4 w5 w6
  have HBW : Hid (Below w.heap.size w (w.drewN nq)) := Lib.hid (bdQ w nq)
  generalize w.drewN nq = W at HBW ⊢
  by_cases h5 : 65536 < m
  · have d5 : decide (65536 < (m : Int)) = true := decide_eq_true (by omega)
    have HE := Lib.hid (errD_b H4.out (by rw [← HM.out]; exact h5))
    go_wp2_with fail
    go_ret2
    exact RefD.err HE.out (by decide) HBW.out
  have d5 : decide (65536 < (m : Int)) = false := decide_eq_false (by omega)
  have H5 := Lib.hid (show ¬ 65536 < dnum b by rw [← HM.out]; exact h5)
  have hm65 : m ≤ 65536 := by omega
  obtain ⟨k, hk⟩ : ∃ k, k = n - 4 := ⟨_, rfl⟩
  obtain ⟨z, hz⟩ : ∃ z, z = (m + 7) / 8 := ⟨_, rfl⟩
  have hkI : (n : Int) - 4 = (k : Int) := by omega
  have hzI : ((m : Int) + 7) / 8 = (z : Int) := by omega
  have HK := Lib.hid hk
  have HZ := Lib.hid hz
  clear hk hz
  by_cases hkz : k < z
  · have dkz : decide ((k : Int) < (z : Int)) = true := decide_eq_true (by omega)
    have dkz' : decide (k < z) = true := decide_eq_true hkz
    have HE := Lib.hid (errD_c H4.out H5.out (by rw [← HM.out, ← HN.out, ← HK.out, ← HZ.out]; exact hkz))
    go_wp2_with fail
    go_ret2
    exact RefD.err HE.out (by decide) HBW.out
  have dkz : decide ((k : Int) < (z : Int)) = false := decide_eq_false (by omega)
  have dkz' : decide (k < z) = false := decide_eq_false hkz
  have HKZ := Lib.hid (show ¬ b.length - 4 < (dnum b + 7) / 8 by rw [← HM.out, ← HN.out, ← HK.out, ← HZ.out]; exact hkz)
  by_cases hzk : z < k
  · have dzk : decide ((z : Int) < (k : Int)) = true := decide_eq_true (by omega)
    have dzk' : decide (z < k) = true := decide_eq_true hzk
    have HE := Lib.hid (errD_d H4.out H5.out HKZ.out (by rw [← HM.out, ← HN.out, ← HK.out, ← HZ.out]; exact hzk))
    go_wp2_with fail
    go_ret2
    exact RefD.err HE.out (by decide) HBW.out
  have dzk : decide ((z : Int) < (k : Int)) = false := decide_eq_false (by omega)
  have dzk' : decide (z < k) = false := decide_eq_false hzk
  have HZK := Lib.hid (show ¬ (dnum b + 7) / 8 < b.length - 4 by rw [← HM.out, ← HN.out, ← HK.out, ← HZ.out]; exact hzk)
  have hkz2 : k = (m + 7) / 8 := by have := HZ.out; omega
  have HKE := Lib.hid hkz2
  obtain ⟨i1, hi1, hy0, hy1, hy2⟩ := info_parts Tryd.infoBool
  clear hkz2
  have HRZ : Hid (restB b m (8 * 0) = true) := Lib.hid (rest_none b (by omega))
  go_wp2_with fail
  clear hkI hzI
  go_loopw [5, 6] (fun s5 s6 wr => ∃ (j cap D : Nat) (G : Option Addr), j ≤ k ∧ s6 = .int .i64 ((4 + j : Nat) : Int) ∧ s5 = .slice G D cap ∧ D = min m (8 * j) ∧ restB b m (8 * j) = true ∧ wr.ownsRow w.heap.size 4 1 (.slice G D cap) D (valsB (decB b D)) ∧ Below w.heap.size w wr) (fun _ s6 _ => n - (intOf s6).toNat)
  case atStart => exact ⟨0, 0, 0, none, by omega, rfl, rfl, by omega, HRZ.out, World.ownsRow_nil _ _ _ _, HBW.out⟩
  case round =>
    clear HRZ
    obtain ⟨j, cap, D, G, hj, rfl, rfl, hD, hrz, ho, hbl⟩ := hrel
    have HD := Lib.hid hD
    have HRZ := Lib.hid hrz
    have HW := Lib.hid ho
    have HB := Lib.hid hbl
    have hDm : D ≤ m := by omega
    clear hD hrz ho hbl
    obtain ⟨i, hi⟩ : ∃ i, i = 4 + j := ⟨_, rfl⟩
    rw [← hi]
    have HIJ := Lib.hid hi
    have hkn : k + 4 = n := by have := HK.out; omega
    by_cases hlt : j < k
    · have hin : i < n := by omega
      have hinI : (i : Int) < (n : Int) := by omega
      have hx := HCC.out i (by rw [← HN.out]; exact hin)
      have x0 := (HB.out.cell (p := ⟨p, off + i, none⟩) hp).trans hx
      obtain ⟨x, hxe⟩ : ∃ x, x = b.getD i 0 := ⟨_, rfl⟩
      rw [← hxe] at x0
      have hxb : x < 256 := by rw [hxe]; exact HLT.out i
      have HXE := Lib.hid hxe
      clear hx hxe hi hkn
      go_wp2_with fail
      go_loopw [5, 7, 8] (fun s5 s7 s8 wi => ∃ (t cap D cc : Nat) (G : Option Addr), t ≤ 8 ∧ s8 = .int .i64 t ∧ s7 = .int .i64 cc ∧ cc = x * 2 ^ t % 256 ∧ s5 = .slice G D cap ∧ D = min m (8 * j + t) ∧ restB b m (8 * j + t) = true ∧ wi.ownsRow w.heap.size 4 1 (.slice G D cap) D (valsB (decB b D)) ∧ Below w.heap.size w wi) (fun _ _ s8 _ => 8 - (intOf s8).toNat)
      case atStart => exact ⟨0, cap, D, x, G, by omega, rfl, rfl, by simp; omega, rfl, by rw [HD.out]; rfl, HRZ.out, HW.out, HB.out⟩
      case round =>
        clear HD HRZ HW HB hDm x0
        obtain ⟨t, cap', D', cc, G', ht, rfl, rfl, hcc, rfl, hD, hrz, ho, hbl⟩ := hrel
        have HD := Lib.hid hD
        have HRZ := Lib.hid hrz
        have HW := Lib.hid ho
        have HB := Lib.hid hbl
        have HCCx := Lib.hid hcc
        have hDm : D' ≤ m := by omega
        have hDt : D' < m → D' = 8 * j + t := by omega
        have hmt : ¬ D' < m → m ≤ 8 * j + t := by omega
        have hccb : cc < 256 := by rw [hcc]; exact Nat.mod_lt _ (by decide)
        have hsz : w.heap.size ≤ wr.heap.size := hbl.size
        clear hD hrz ho hbl hcc
        by_cases ht8 : t < 8
        · have ht8I : (t : Int) < 8 := by omega
          obtain ⟨v, hv⟩ : ∃ v, v = dbit b (8 * j + t) := ⟨_, rfl⟩
          have hbit : decide (128 ≤ cc) = v := by
            rw [HCCx.out, hi_bit x t hxb ht8, hv]
            unfold dbit
            rw [show (8 * j + t) / 8 = j by omega, show (8 * j + t) % 8 = t by omega, ← HIJ.out, ← HXE.out]
          have hbitI : decide ((128 : Int) ≤ (cc : Int)) = v := by rw [← hbit]; exact decide_eq_decide.2 (by omega)
          obtain ⟨c2, hc2⟩ : ∃ c2, c2 = cc * 2 % 256 := ⟨_, rfl⟩
          have hc2I : (cc : Int) * 2 % 256 = (c2 : Int) := by omega
          have hNC : Hid (c2 = x * 2 ^ (t + 1) % 256) := Lib.hid (by rw [hc2, HCCx.out, Nat.pow_succ, ← Nat.mul_assoc, ← Nat.mod_mul_mod (x * 2 ^ t)])
          have HV := Lib.hid hv
          have HC2 := Lib.hid hc2I
          clear hv hc2
          by_cases hDl : D' < m
          · have hDlI : (D' : Int) < (m : Int) := by omega
            have HDE := Lib.hid (hDt hDl)
            have HND : Hid (D' + 1 = min m (8 * j + (t + 1))) := Lib.hid (by have := HDE.out; omega)
            have HNR : Hid (restB b m (8 * j + (t + 1)) = true) := Lib.hid (rest_none b (by have := HDE.out; omega))
            clear hDt hmt
            go_wp2_with (at_builtin; refine wpList_append_lies _ rfl (.tmp 75) (.tmp 77) 22 rfl w.heap.size 4 i1 _ 1 1 Tryd.underlying22 hi1 hy0 hy1 hy2 rfl (by decide) (.slice G' D' cap') D' (valsB (decB b D')) rfl (HW.out.alloc _) ⟨wr.heap.size, 0, none⟩ 1 1 [.bool v] rfl rfl (World.news_of_block (cs := #[.bool v]) (t := 4) (fr := (0, 0)) (heap_alloc_new wr _)) (by simp [Value.oneCell']) (by omega) (by unfold maxLen; omega) (by omega) (by simp; omega) (wr.heap.size + 1) (by simp) ?_)
            intro g2 cap2 W6 hown6 hgrow6 hat6 hlt6
            have hb6 : Below w.heap.size w W6 := (HB.out.alloc hsz _).grown hgrow6 (by simp; omega) (fun k' e => by have := (HW.out.lt k' e).1; omega)
            have HB6 := Lib.hid hb6
            have HO6 : Hid (W6.ownsRow w.heap.size 4 1 (.slice (some ⟨g2, 0, none⟩) (D' + 1) cap2) (D' + 1) (valsB (decB b (D' + 1)))) := Lib.hid (by rw [decB_succ, valsB_snoc, HDE.out, ← HV.out, ← HDE.out]; exact hown6)
            clear hown6 hgrow6 hat6 hlt6 hb6
            go_wp2_with fail
            go_roundw
            case rel => exact ⟨t + 1, cap2, D' + 1, c2, some ⟨g2, 0, none⟩, by omega, by go_num, rfl, hNC.out, rfl, HND.out, HNR.out, HO6.out, HB6.out⟩
            case measure => simp [intOf]; omega
          · have hDlI : decide ((D' : Int) < (m : Int)) = false := decide_eq_false (by omega)
            have hDlN : decide (D' < m) = false := decide_eq_false hDl
            have HMT := Lib.hid (hmt hDl)
            clear hDt hmt
            cases v
            · have HND : Hid (D' = min m (8 * j + (t + 1))) := Lib.hid (by have := HMT.out; have := HD.out; omega)
              have HNR : Hid (restB b m (8 * j + (t + 1)) = true) := Lib.hid (by
                rw [restB_iff]
                intro i' hi' hm'
                rcases Nat.lt_or_ge i' (8 * j + t) with h | h
                · exact (restB_iff _ _ _).1 HRZ.out i' h hm'
                · rw [show i' = 8 * j + t by omega]; exact HV.out.symm)
              go_wp2_with fail
              go_roundw
              case rel => exact ⟨t + 1, cap', D', c2, G', by omega, by go_num, by first | rfl | rw [HC2.out], hNC.out, rfl, HND.out, HNR.out, HW.out, HB.out⟩
              case measure => simp [intOf]; omega
            · have HE := Lib.hid (errD_e H4.out H5.out HKZ.out HZK.out (by
                cases hq : restB b (dnum b) (8 * (b.length - 4)) with
                | false => rfl
                | true =>
                  have h1 := (restB_iff _ _ _).1 hq (8 * j + t) (by rw [← HN.out, ← HK.out]; omega) (by rw [← HM.out]; exact HMT.out)
                  rw [← HV.out] at h1
                  cases h1))
              go_wp2_with fail
              go_ret2
              exact RefD.err HE.out (by decide) HB.out
        · have ht8' : t = 8 := by omega
          have HND : Hid (D' = min m (8 * (j + 1))) := Lib.hid (by have := HD.out; rw [ht8'] at this; rw [this]; rfl)
          have HNR : Hid (restB b m (8 * (j + 1)) = true) := Lib.hid (by have := HRZ.out; rw [ht8'] at this; exact this)
          have HII : Hid (i + 1 = 4 + (j + 1)) := Lib.hid (by have := HIJ.out; omega)
          clear hDt hmt
          subst ht8'
          go_wp2_with fail
          go_roundw
          case rel => exact ⟨j + 1, cap', D', G', by omega, by rw [← HII.out]; go_num, rfl, HND.out, HNR.out, HW.out, HB.out⟩
          case measure => simp [intOf]; omega
    · have hjk : j = k := by omega
      have hin : decide ((i : Int) < (n : Int)) = false := decide_eq_false (by omega)
      have hinN : decide (i < n) = false := decide_eq_false (by omega)
      have hDe : D = m := by have := HD.out; have := HKE.out; omega
      have HE := Lib.hid (errD_f H4.out H5.out HKZ.out HZK.out (by rw [← HM.out, ← HN.out, ← HK.out, ← hjk]; exact HRZ.out))
      have HDE := Lib.hid hDe
      clear hi hkn hjk hDe
      go_wp2_with fail
      go_ret2
      refine ⟨G, cap, decB b D, by rw [HE.out, decB_len]; rfl, fun _ => by rw [HDE.out, HM.out], own_bools HW.out, HB.out⟩
end Go.Proofs.YtakaadoppijeaaaDoor
