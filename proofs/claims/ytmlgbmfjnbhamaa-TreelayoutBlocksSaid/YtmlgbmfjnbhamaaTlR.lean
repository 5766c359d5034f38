/- bits.Mul of one; slices.Repeat of one element. -/
import Derived.Test.YtmlgbmfjnbhamaaTlL0
import Derived.Laws.CopyOwn
namespace Go.Proofs.Ytmlgbmfjnbhamaa
open Go.RowKit
set_option maxRecDepth 100000
theorem and_low (v : Nat) (hv : v < 4294967296) : bits .and .u64 (v : Int) 4294967295 = (v : Int) := by
  have h1 : v &&& 4294967295 = v := by
    rw [show (4294967295 : Nat) = 2 ^ 32 - 1 by decide, Nat.and_two_pow_sub_one_eq_mod]
    exact Nat.mod_eq_of_lt hv
  show IntKind.u64.wrap ((BitVec.ofInt 64 (v : Int) &&& BitVec.ofInt 64 4294967295).toNat : Int) = _
  have h2 : (BitVec.ofInt 64 (v : Int) &&& BitVec.ofInt 64 4294967295).toNat = v := by
    rw [BitVec.toNat_and, BitVec.toNat_ofInt, BitVec.toNat_ofInt]
    have e1 : ((v : Int) % ((2 ^ 64 : Nat) : Int)).toNat = v := by omega
    have e2 : ((4294967295 : Int) % ((2 ^ 64 : Nat) : Int)).toNat = 4294967295 := by decide
    rw [e1, e2, h1]
  rw [h2]
  show (v : Int) % 18446744073709551616 = _
  omega
theorem mul64_one (n : Nat) (hn : n ≤ 65535) (w : World) : Calls Try.prog 55 #[.int .u64 1, .int .u64 (n : Int)] w fun e w' => e = .returned (.tuple #[.int .u64 0, .int .u64 (n : Int)]) ∧ w = w' := by
  have b1 : bits .and .u64 1 4294967295 = 1 := and_low 1 (by decide)
  have b2 : bits .and .u64 (n : Int) 4294967295 = (n : Int) := and_low n (by omega)
  have b3 : (n : Int) / 4294967296 = 0 := by omega
  have b4 : bits .and .u64 0 4294967295 = 0 := and_low 0 (by decide)
  go_enter Try.func55, Try.ntmps55
  go_wp2_with fail
  go_ret2
  exact ⟨rfl, rfl⟩
theorem mul_one' (n : Nat) (hn : n ≤ 65535) (w : World) : Calls Try.prog 52 #[.int .u64 1, .int .u64 (n : Int)] w fun e w' => e = .returned (.tuple #[.int .u64 0, .int .u64 (n : Int)]) ∧ w = w' := by
  have HM := Lib.hid (mul64_one n hn w)
  go_enter Try.func52, Try.ntmps52
  go_wp2_with fail
  refine HM.out.mono ?_
  rintro er w1 ⟨rfl, rfl⟩
  go_wp2_with fail
  go_ret2
  exact ⟨rfl, rfl⟩
/-- A row as Repeat has filled it: m of the element, the rest still zeros. -/
def repF (n m : Nat) : List Value := ((List.replicate m (-1 : Int)) ++ List.replicate (n - m) 0).map (Value.int .i64)
theorem repF_len {n m : Nat} (h : m ≤ n) : (repF n m).length = n := by unfold repF; simp; omega
theorem repF_next {n m k : Nat} (h : m + k ≤ n) : splice (repF n m) m ((List.replicate k (-1 : Int)).map (Value.int .i64)) = repF n (m + k) := by
  have e1 : repF n m = List.replicate m (Value.int .i64 (-1)) ++ List.replicate (n - m) (Value.int .i64 0) := by unfold repF; simp
  have e2 : repF n (m + k) = List.replicate (m + k) (Value.int .i64 (-1)) ++ List.replicate (n - (m + k)) (Value.int .i64 0) := by unfold repF; simp
  unfold splice
  rw [e1, e2, List.map_replicate, List.length_replicate, List.take_left' (List.length_replicate ..), List.drop_append, List.length_replicate, List.drop_eq_nil_of_le (by simp), List.drop_replicate, List.nil_append, ← List.append_assoc, List.replicate_append_replicate]
  congr 2
  omega
theorem repF_zero (n : Nat) : repF n 0 = (List.replicate n (0 : Int)).map (Value.int .i64) := by unfold repF; simp
theorem repF_full (n : Nat) : repF n n = (List.replicate n (-1 : Int)).map (Value.int .i64) := by unfold repF; simp
theorem repF_at {n m i : Nat} (h : i < m) : (repF n m)[i]? = some (.int .i64 (-1)) := by
  unfold repF
  rw [List.getElem?_map, List.getElem?_append_left (by simpa using h), List.getElem?_replicate, if_pos h]
  rfl
set_option maxHeartbeats 4000000 in
theorem repeat_any (n : Nat) (w : World) (B b : Nat) (hn : n ≤ 65535) (hB : B ≤ w.heap.size) (hb : w.heap[b]? = some (.cells #[.int .i64 (-1)] 3 (0, 0))) :
    Calls Try.prog 42 #[.slice (some ⟨b, 0, none⟩) 1 1, .int .i64 (n : Int)] w fun e w' => (∃ g, e = .returned (.slice (some ⟨g, 0, none⟩) n n) ∧ ORow B w' (some ⟨g, 0, none⟩) n (List.replicate n (-1))) ∧ Below B w w' := by
  have HM := Lib.hid (fun w => mul_one' n hn w)
  have hmk := run_mk n (by omega) w
  obtain ⟨x0, f0⟩ := bk1 hb
  have hbl : b < w.heap.size := World.block_lt_of_cell? w _ x0
  obtain ⟨i1, hi1, hy0, hy1, hy2⟩ := info_parts Try.infoInt
  have hsz1 : (Try.prog.info? 3).map (·.size) = some 1 := by rw [hi1]; simp [hy1]
  obtain ⟨W1, hW1⟩ : ∃ W1, W1 = w.alloc (.cells (madeCells #[.int .i64 0] n) 3) := ⟨_, rfl⟩
  have HG1 : Hid (W1.heap[w.heap.size]? = some (.cells (repF n 0).toArray 3 (0, 0))) := Lib.hid (by rw [hW1, repF_zero, ← madeZ]; exact bdNew w _)
  have HB1 : Hid (Below B w W1) := Lib.hid (by rw [hW1]; exact (Below.refl _ _).alloc hB _)
  have hbB : W1.cell? ⟨b, 0, none⟩ = some (.int .i64 (-1)) := by
    have : W1.heap[b]? = some (.cells #[.int .i64 (-1)] 3 (0, 0)) := by rw [hW1]; exact bdOld hb
    exact (bk1 this).1
  have HBB := Lib.hid hbB
  have HW1 := Lib.hid hW1
  have d1 : decide ((n : Int) < 0) = false := decide_eq_false (by omega)
  have d2 : decide ((9223372036854775807 : Int) < (n : Int)) = false := decide_eq_false (by omega)
  have d3 : decide ((9223372036854775807 : Nat) < n) = false := decide_eq_false (by omega)
  obtain ⟨q, hq⟩ : ∃ q, q = Nat.min 1 n := ⟨_, rfl⟩
  have hq1 : q ≤ 1 := by rw [hq]; exact Nat.min_le_left _ _
  have hqn : q ≤ n := by rw [hq]; exact Nat.min_le_right _ _
  have hq0 : n = 0 ∨ 1 ≤ q := by rw [hq]; rcases Nat.eq_zero_or_pos n with h | h; exact Or.inl h; exact Or.inr (Nat.le_min.2 ⟨Nat.le_refl _, h⟩)
  obtain ⟨C1, hC1⟩ : ∃ C1, C1 = (List.replicate q (-1 : Int)).map (Value.int .i64) := ⟨_, rfl⟩
  have hC1l : C1.length = q := by rw [hC1]; simp
  have HC1L := Lib.hid hC1l
  have HC1 := Lib.hid hC1
  have HQ := Lib.hid hq
  have h1c : ∀ v ∈ C1, v.oneCell' = true := by rw [hC1, List.map_replicate]; intro v hv; rw [List.eq_of_mem_replicate hv]; rfl
  have H1C := Lib.hid h1c
  have HSP := Lib.hid (show splice (repF n 0) 0 C1 = repF n q by rw [hC1, repF_next (by omega), Nat.zero_add])
  have HCP := Lib.hid (show ∀ j v, C1[j]? = some v → (w.alloc (.cells (madeCells #[.int .i64 0] n) 3)).cell? ((⟨b, 0, none⟩ : Addr).add j) = some v from fun j v hj => by
    have hjq : j < q := by have := (List.getElem?_eq_some_iff.1 hj).1; rw [hC1l] at this; exact this
    obtain rfl : j = 0 := by omega
    rw [hC1, List.map_replicate, List.getElem?_replicate, if_pos hjq] at hj
    rw [← Option.some.inj hj, ← hW1]
    exact hbB)
  clear hb hW1 hbB hC1 hC1l hq h1c
  go_enter Try.func42, Try.ntmps42
  go_wp2_with fail
  refine (HM.out w).mono ?_
  rintro er wz ⟨rfl, rfl⟩
  go_wp2_with (with_reducible refine wpList_copy_splice rfl (.tmp 31) (.tmp 32) 23 23 rfl 3 Try.underlying23 hsz1 (some ⟨w.heap.size, 0, none⟩) (some ⟨b, 0, none⟩) n n 1 1 rfl rfl w.heap.size 0 (repF n 0) 3 (by rw [← HW1.out]; exact HG1.out) C1 (by rw [HC1L.out, HQ.out]) (fun _ => ⟨rfl, ⟨b, 0, none⟩, rfl, HCP.out⟩) (by rw [HC1L.out, repF_len (by omega)]; omega) H1C.out B w (by rw [← HW1.out]; exact HB1.out) hB ?_)
  intro w2 HG2 hB2
  rw [HSP.out] at HG2
  rw [HC1L.out]
  have HB2 := Lib.hid hB2
  clear hB2
  go_wp2_with fail
  go_loopw [8] (fun s8 wr => ∃ m : Nat, m ≤ n ∧ (n = 0 ∨ 1 ≤ m) ∧ s8 = .int .i64 m ∧ wr.heap[w.heap.size]? = some (.cells (repF n m).toArray 3 (0, 0)) ∧ Below B w wr) (fun s8 _ => n - (intOf s8).toNat)
  case atStart => exact ⟨q, hqn, hq0, rfl, HG2.out, HB2.out⟩
  case round =>
    obtain ⟨m, hmn, hm0, rfl, hg, hbw⟩ := hrel
    have HG := Lib.hid hg
    have HB := Lib.hid hbw
    by_cases hlt : m < n
    · have hltI : (m : Int) < (n : Int) := by omega
      have hm1 : 1 ≤ m := by omega
      obtain ⟨k, hk⟩ : ∃ k, k = Nat.min m (n - m) := ⟨_, rfl⟩
      have hk1 : 1 ≤ k := by rw [hk]; exact Nat.le_min.2 ⟨hm1, by omega⟩
      have hkm : k ≤ m := by rw [hk]; exact Nat.min_le_left _ _
      have hkn : k ≤ n - m := by rw [hk]; exact Nat.min_le_right _ _
      obtain ⟨C, hC⟩ : ∃ C, C = (List.replicate k (-1 : Int)).map (Value.int .i64) := ⟨_, rfl⟩
      have hCl : C.length = k := by rw [hC]; simp
      have HCL := Lib.hid hCl
      have HC := Lib.hid hC
      have HK := Lib.hid hk
      have H1 := Lib.hid (show ∀ v ∈ C, v.oneCell' = true by rw [hC, List.map_replicate]; intro v hv; rw [List.eq_of_mem_replicate hv]; rfl)
      have HS := Lib.hid (show splice (repF n m) m C = repF n (m + k) by rw [hC, repF_next (by omega)])
      have HCE := Lib.hid (show ∀ j v, C[j]? = some v → wr.cell? ((⟨w.heap.size, 0, none⟩ : Addr).add j) = some v from fun j v hj => by
        have hjk : j < k := by have := (List.getElem?_eq_some_iff.1 hj).1; rw [hCl] at this; exact this
        rw [hC, List.map_replicate, List.getElem?_replicate, if_pos hjk] at hj
        rw [← Option.some.inj hj]
        rw [show (⟨w.heap.size, 0, none⟩ : Addr).add j = ⟨w.heap.size, j, none⟩ by simp [Addr.add]; exact Eq.symm]
        rw [cell_of_row wr w.heap.size j _ _ (0, 0) hg]
        simpa using repF_at (n := n) (show j < m by omega))
      have d4 : decide ((n : Int) < (m : Int)) = false := decide_eq_false (by omega)
      have hmI : (m : Int) ≤ (n : Int) := by omega
      have hnm : ¬ n = m := by omega
      have hm0I : (0 : Int) ≤ (m : Int) := by omega
      clear hk hC hCl hg hbw
      go_wp2_with fail
      go_region_law (refine step_copy_splice (by rfl) (.tmp 41) (.tmp 44) 23 23 (by rfl) 3 Try.underlying23 hsz1 (some ⟨w.heap.size, m, none⟩) (some ⟨w.heap.size, 0, none⟩) (n - m) (n - m) m n (by rfl) (by rfl) w.heap.size m (repF n m) 3 HG.out C (by rw [HCL.out, HK.out]) (fun _ => ⟨rfl, ⟨w.heap.size, 0, none⟩, rfl, HCE.out⟩) (by rw [HCL.out, repF_len (by omega)]; omega) H1.out B w (by first | exact HB.out | exact bdN HB.out 1) hB ?_; intro w4 hg4 hb4; rw [HCL.out])
      have hg5 := hg4.out
      rw [HS.out] at hg5
      have HG5 := Lib.hid hg5
      have HB5 := Lib.hid hb4
      have hmkI : IntKind.i64.wrap ((m : Int) + (k : Int)) = ((m + k : Nat) : Int) := by rw [IntKind.wrap_i64]; omega
      clear hg4 hb4 hg5
      conv in (Act.put _ _ _) => simp [Act.put, hmkI, -Int.natCast_add]
      go_wp2_with fail
      go_roundw
      case rel =>
        exact ⟨m + k, by omega, Or.inr (by omega), rfl, HG5.out, HB5.out⟩
      case measure => simp [intOf]; omega
    · obtain rfl : m = n := by omega
      clear hg hbw
      go_wp2_with fail
      go_ret
      exact ⟨⟨w.heap.size, rfl, ORow.of ⟨by simp, Or.inr ⟨w.heap.size, m, _, rfl, hB, HG.out, Nat.le_refl _, by unfold maxLen; omega, by rw [List.size_toArray, repF_len (by omega)]; omega, by rw [repF_full]; exact List.take_of_length_le (by simp)⟩⟩ (by simp)⟩, HB.out⟩
end Go.Proofs.Ytmlgbmfjnbhamaa
