/- OrderlistMoves: its walk. By genord6.py. -/
import Derived.Test.YtbmaijkpcpbgjaaOrdAsks
namespace Go.Proofs.Ytbmaijkpcpbgjaa
open Go.RowKit
set_option maxRecDepth 100000
theorem vInt {a b : Int} (h : a = b) : Value.int .i64 a = Value.int .i64 b := by rw [h]
theorem log2_half {n : Nat} (h : 2 ≤ n) : Nat.log2 n = Nat.log2 (n / 2) + 1 := by rw [Nat.log2_def]; simp [h]
theorem log2_le' {n : Nat} (h : n ≤ 1000) : Nat.log2 n ≤ 10 := by
  by_cases h0 : n = 0
  · subst h0; decide
  · have := (Nat.log2_lt h0 (k := 11)).2 (by omega); omega
set_option maxHeartbeats 1000000 in
theorem refLog28_any (n : Nat) (w : World) (h1 : 1 ≤ n) (h2 : n ≤ 1000) : Calls Try.prog 34 #[.int .i64 (n : Int)] w fun e w' => e = .returned (.int .i64 (Nat.log2 n : Int)) ∧ w = w' := by
  have hb2 := log2_le' h2
  go_enter Try.func34, Try.ntmps34
  go_wp2_with fail
  go_loop [0, 3] (fun m i => ∃ p k : Nat, m = .int .i64 (p : Int) ∧ i = .int .i64 (k : Int) ∧ 1 ≤ p ∧ p ≤ 1000 ∧ Nat.log2 n = k + Nat.log2 p) (fun m _ => (intOf m).toNat)
  case atStart => exact ⟨n, 0, rfl, rfl, h1, h2, by omega⟩
  case round =>
    obtain ⟨p, k, rfl, rfl, hp, hp2, hk⟩ := hrel
    have HK := Lib.hid hk
    have hk2 : k ≤ 10 := by omega
    clear hk
    by_cases hz : p = 1
    · subst hz
      go_wp2_with fail
      go_ret
      exact ⟨retI (by rw [HK.out, show Nat.log2 1 = 0 by decide]; omega), rfl⟩
    · have h5 : 1 < p := by omega
      have hh := Lib.hid (log2_half (n := p) (by omega))
      go_wp2_with fail
      go_round
      case rel => exact ⟨p / 2, k + 1, vInt (by omega), vInt (by omega), by omega, by omega, by rw [HK.out, hh.out]; omega⟩
      case measure => simp [intOf]; omega
def mostN (n : Nat) : Int := ((8 * n * (Nat.log2 n + 1) : Nat) : Int)
theorem mostN_le {n : Nat} (h : n ≤ 1000) : 0 ≤ mostN n ∧ mostN n ≤ 88000 := by
  unfold mostN
  have h1 := log2_le' h
  have h2 := Nat.mul_le_mul (show 8 * n ≤ 8000 by omega) (show Nat.log2 n + 1 ≤ 11 by omega)
  omega
theorem refMost_any (n : Nat) (w : World) (h1 : 1 ≤ n) (h2 : n ≤ 1000) : Calls Try.prog 24 #[.int .i64 (n : Int)] w fun e w' => e = .returned (.int .i64 (mostN n)) ∧ w = w' := by
  have HL := Lib.hid (refLog28_any n w h1 h2)
  have hb := log2_le' h2
  have hmb := mostN_le h2
  have HM := Lib.hid (show mostN n = ((8 * n * (Nat.log2 n + 1) : Nat) : Int) from rfl)
  generalize Nat.log2 n = lg at HL hb HM
  generalize mostN n = M at hmb HM ⊢
  have hp : (8 * (n : Int)) * ((lg : Int) + 1) = M := by rw [HM.out]; push_cast; rfl
  have hlt : ¬ (n : Int) < 1 := by omega
  have d1 : decide ((n : Int) < 1) = false := decide_eq_false hlt
  go_enter Try.func24, Try.ntmps24
  go_wp2_with fail
  refine HL.out.mono ?_
  rintro er w1 ⟨rfl, rfl⟩
  go_wp2_with fail
  go_ret
  exact ⟨rfl, rfl⟩
theorem Few.most {made : Nat} {mv : Int} {E : List El} (h : Few made mv E) (h1 : 1 ≤ made) (h2 : made ≤ 741) : mv ≤ mostN made := by
  obtain ⟨s, c, hs, hm, _⟩ := h
  unfold mostN
  have key : s ≤ 8 * (Nat.log2 made + 1) := by
    by_cases h16 : 16 ≤ made
    · have := (Nat.le_log2 (show made ≠ 0 by omega) (k := 4)).2 h16
      omega
    · omega
  have h3 := Nat.mul_le_mul_right made key
  have h4 : 8 * (Nat.log2 made + 1) * made = 8 * made * (Nat.log2 made + 1) := by
    rw [Nat.mul_assoc, Nat.mul_comm (Nat.log2 made + 1) made, ← Nat.mul_assoc]
  rw [h4] at h3
  omega
theorem posK_of {E : List El} {i : Int} (h : i = -1 ∨ i ∈ ords E) : ∃ k, PosK E i k := by
  rcases h with h | h
  · exact ⟨0, Or.inl ⟨h, rfl⟩⟩
  · rcases ords_mem (E := E) (i := i) with ⟨j, e, hj, he⟩ | hv
    · exact ⟨j + 1, Or.inr ⟨j, e, hj, he, rfl⟩⟩
    · exact absurd h hv
theorem mem_next {E : List El} {k n a : Nat} {l : Int} {i : Int} : i ∈ ords (insE (sprE E k) k ⟨n, l, a⟩) ↔ i = (n : Int) ∨ i ∈ ords E := by
  rw [ords_ins, ords_spr, mem_insE]
set_option maxHeartbeats 32000000 in
theorem lawMoves_any (A0 : Option Addr) (c0 : Nat) (S : List (Bool × Int)) (kv nv : Nat) (w : World) (hkv : kv < 256) (hnv : nv < 65536) (hm : S.length ≤ maxLen) (hS : StepsAt w.heap.size w A0 S) :
    Calls Try.prog 6 #[.slice A0 S.length c0, .int .u8 (kv : Int), .int .u16 (nv : Int)] w fun e w' => e = .returned (.bool true) ∧ Below w.heap.size w w' := by
  unfold maxLen at hm
  have HW := Lib.hid (awake_any w)
  have HS := Lib.hid hS
  obtain ⟨n, hn⟩ : ∃ n, S.length = n := ⟨_, rfl⟩
  rw [hn] at hm ⊢
  have HN := Lib.hid hn
  clear hn hS
  by_cases h40 : n ≤ 40
  case neg =>
    have d1 : decide ((40 : Int) < (n : Int)) = true := decide_eq_true (by omega)
    go_enter Try.func6, Try.ntmps6
    go_wp2_with fail
    refine HW.out.mono ?_
    rintro er w1 ⟨rfl, hb1⟩
    go_wp2_with fail
    go_ret
    exact ⟨rfl, hb1⟩
  have d1 : decide ((40 : Int) < (n : Int)) = false := decide_eq_false (by omega)
  go_enter Try.func6, Try.ntmps6
  go_wp2_with fail
  refine HW.out.mono ?_
  rintro er w1 ⟨rfl, hb1⟩
  have HB1 := Lib.hid hb1
  have HP := Lib.hid (play_any A0 c0 n S w1 HN.out (by omega) ((HS.out.below hb1).more hb1.size))
  clear hb1 HW
  go_wp2_with fail
  refine HP.out.mono ?_
  rintro er w2 ⟨xl, made, mv, E, A, cap, rfl, ho, hf, hmk, hr, hb2⟩
  obtain ⟨m, hme⟩ : ∃ m, E.length = m := ⟨_, rfl⟩
  rw [hme]
  have HR0 := Lib.hid (RL.start (m := m) HB1.out ho hr hb2)
  have hml : m ≤ 40 := by have := ho.len; omega
  have HM := Lib.hid hme
  have HF := Lib.hid hf
  have hz2 := HB1.out.size
  have hz3 := hb2.size
  clear ho hf hr hb2 hme HP
  obtain ⟨N, hN⟩ : ∃ N, N = nv % 701 := ⟨_, rfl⟩
  have hN700 : N ≤ 700 := by omega
  have hNI : ((nv : Int)).tmod 701 = (N : Int) := by rw [Int.tmod_eq_emod_of_nonneg (by omega), hN]; omega
  have hNE : (nv : Int) % 701 = (N : Int) := by omega
  clear hN
  obtain ⟨q, hq⟩ : ∃ q, q = kv % 4 := ⟨_, rfl⟩
  have hqI : ((kv : Int)).tmod 4 = (q : Int) := by rw [Int.tmod_eq_emod_of_nonneg (by omega), hq]; omega
  have hqE : (kv : Int) % 4 = (q : Int) := by omega
  have hq4 : q < 4 := by omega
  clear hq
  by_cases hm0 : m = 0
  · have d2 : decide ((0 : Int) < (m : Int)) = false := decide_eq_false (by omega)
    have HX : Hid ((-1 : Int) = -1 ∨ (-1 : Int) ∈ ords E) := Lib.hid (Or.inl rfl)
    obtain rfl := hm0
    go_wp2_with fail
    have HRx := Lib.hid HR0.out
    have hb00 := HR0.out.bel
    clear hb00
    go_loopw [49, 10] (fun s49 s10 wr => ∃ (i mk : Nat) (mv' : Int) (E' : List El), i ≤ N ∧ mk = made + i ∧ s49 = .int .i64 i ∧ s10 = .int .i64 mk ∧ OSt w1.heap.size xl mk mv' E' wr ∧ Few mk mv' E' ∧ ((-1) = -1 ∨ (-1) ∈ ords E') ∧ (∀ j : Nat, j < i → ((made + j : Nat) : Int) ∈ ords E') ∧ Below w.heap.size w wr ∧ w.heap.size ≤ wr.heap.size) (fun s49 _ _ => N - (intOf s49).toNat)
    case atStart => exact ⟨0, made, mv, E, by omega, rfl, rfl, rfl, HR0.out.ost, HF.out, Or.inl rfl, fun j hj => absurd hj (by omega), HR0.out.bel, HR0.out.hsz⟩
    case round =>
      obtain ⟨i, mk, mv', E', hi, hmke, rfl, rfl, ho, hf, hx, hall, hb, hsz⟩ := hrel
      have HO := Lib.hid ho
      have HFW := Lib.hid hf
      have HXW := Lib.hid hx
      have HALL := Lib.hid hall
      have HBW := Lib.hid hb
      have HMK := Lib.hid hmke
      have hEl := ho.len
      have hmk741 : mk ≤ 740 := by omega
      clear ho hf hx hall hb hmke
      by_cases hlt : i < N
      · have hltI : (i : Int) < (N : Int) := by omega
        have hmm : ((mk : Int) != (mk : Int)) = false := by simp
        rcases (show q = 0 ∨ q = 1 ∨ q = 2 ∨ q = 3 by omega) with rfl | rfl | rfl | rfl
        · obtain ⟨kk, hkk⟩ := posK_of (E := E') (i := (-1)) (HXW.out)
          have HI := Lib.hid (ol_insert_yes w1.heap.size xl mk kk mv' E' (-1) wr HO.out (by omega) hkk)
          have HKL := Lib.hid hkk.le
          clear hkk
          go_wp2_with fail
          refine HI.out.mono ?_
          rintro er w5 ⟨rfl, ⟨aa, ho5⟩, hb5, hk5⟩
          have HO5 := Lib.hid ho5
          have HF5 := Lib.hid (HFW.out.ins (a := aa) HO.out.asc hEl (by omega) HKL.out)
          have HB5 := Lib.hid hb5
          have HMV := Lib.hid (ol_moves w1.heap.size xl (mk + 1) _ _ w5 ho5)
          have HMO := Lib.hid (refMost_any (mk + 1) w5 (by omega) (by omega))
          have hle := HF5.out.most (by omega) (by omega)
          have hmvb := ho5.mvb
          clear ho5 hb5 hk5 HI
          obtain ⟨mv5, hmv5⟩ : ∃ mv5, mv5 = sprM mv' E' kk := ⟨_, rfl⟩
          obtain ⟨M5, hM5⟩ : ∃ M5, M5 = mostN (mk + 1) := ⟨_, rfl⟩
          rw [← hmv5] at HMV hle hmvb HO5 HF5
          rw [← hM5] at HMO hle
          clear hmv5 hM5
          have d7 : decide (mv5 < 0) = false := decide_eq_false (by omega)
          have d8 : decide (M5 < mv5) = false := decide_eq_false (by omega)
          clear hle hmvb
          go_wp2_with fail
          refine HMV.out.mono ?_
          rintro er w6 ⟨rfl, rfl⟩
          go_wp2_with fail
          refine HMO.out.mono ?_
          rintro er w6 ⟨rfl, rfl⟩
          go_wp2_with fail
          go_roundw
          case rel => exact ⟨i + 1, mk + 1, mv5, _, by omega, by have := HMK.out; omega, by go_num, by go_num, HO5.out, HF5.out, HXW.out.imp id (fun h => mem_next.2 (Or.inr h)), fun j hj => mem_next.2 (by by_cases hji : j = i; exact Or.inl (by rw [hji]; have := HMK.out; omega); exact Or.inr (HALL.out j (by omega))), HBW.out.trans (HB5.out.mono (by omega)), by have := HB5.out.size; omega⟩
          case measure => simp [intOf]; omega
        · obtain ⟨kk, hkk⟩ := posK_of (E := E') (i := (-1)) (Or.inl rfl)
          have HI := Lib.hid (ol_insert_yes w1.heap.size xl mk kk mv' E' (-1) wr HO.out (by omega) hkk)
          have HKL := Lib.hid hkk.le
          clear hkk
          go_wp2_with fail
          refine HI.out.mono ?_
          rintro er w5 ⟨rfl, ⟨aa, ho5⟩, hb5, hk5⟩
          have HO5 := Lib.hid ho5
          have HF5 := Lib.hid (HFW.out.ins (a := aa) HO.out.asc hEl (by omega) HKL.out)
          have HB5 := Lib.hid hb5
          have HMV := Lib.hid (ol_moves w1.heap.size xl (mk + 1) _ _ w5 ho5)
          have HMO := Lib.hid (refMost_any (mk + 1) w5 (by omega) (by omega))
          have hle := HF5.out.most (by omega) (by omega)
          have hmvb := ho5.mvb
          clear ho5 hb5 hk5 HI
          obtain ⟨mv5, hmv5⟩ : ∃ mv5, mv5 = sprM mv' E' kk := ⟨_, rfl⟩
          obtain ⟨M5, hM5⟩ : ∃ M5, M5 = mostN (mk + 1) := ⟨_, rfl⟩
          rw [← hmv5] at HMV hle hmvb HO5 HF5
          rw [← hM5] at HMO hle
          clear hmv5 hM5
          have d7 : decide (mv5 < 0) = false := decide_eq_false (by omega)
          have d8 : decide (M5 < mv5) = false := decide_eq_false (by omega)
          clear hle hmvb
          go_wp2_with fail
          refine HMV.out.mono ?_
          rintro er w6 ⟨rfl, rfl⟩
          go_wp2_with fail
          refine HMO.out.mono ?_
          rintro er w6 ⟨rfl, rfl⟩
          go_wp2_with fail
          go_roundw
          case rel => exact ⟨i + 1, mk + 1, mv5, _, by omega, by have := HMK.out; omega, by go_num, by go_num, HO5.out, HF5.out, HXW.out.imp id (fun h => mem_next.2 (Or.inr h)), fun j hj => mem_next.2 (by by_cases hji : j = i; exact Or.inl (by rw [hji]; have := HMK.out; omega); exact Or.inr (HALL.out j (by omega))), HBW.out.trans (HB5.out.mono (by omega)), by have := HB5.out.size; omega⟩
          case measure => simp [intOf]; omega
        · by_cases hi0 : i = 0
          · have d3 : decide ((0 : Int) < (i : Int)) = false := decide_eq_false (by omega)
            obtain ⟨kk, hkk⟩ := posK_of (E := E') (i := (-1)) (HXW.out)
            have HI := Lib.hid (ol_insert_yes w1.heap.size xl mk kk mv' E' (-1) wr HO.out (by omega) hkk)
            have HKL := Lib.hid hkk.le
            clear hkk
            go_wp2_with fail
            refine HI.out.mono ?_
            rintro er w5 ⟨rfl, ⟨aa, ho5⟩, hb5, hk5⟩
            have HO5 := Lib.hid ho5
            have HF5 := Lib.hid (HFW.out.ins (a := aa) HO.out.asc hEl (by omega) HKL.out)
            have HB5 := Lib.hid hb5
            have HMV := Lib.hid (ol_moves w1.heap.size xl (mk + 1) _ _ w5 ho5)
            have HMO := Lib.hid (refMost_any (mk + 1) w5 (by omega) (by omega))
            have hle := HF5.out.most (by omega) (by omega)
            have hmvb := ho5.mvb
            clear ho5 hb5 hk5 HI
            obtain ⟨mv5, hmv5⟩ : ∃ mv5, mv5 = sprM mv' E' kk := ⟨_, rfl⟩
            obtain ⟨M5, hM5⟩ : ∃ M5, M5 = mostN (mk + 1) := ⟨_, rfl⟩
            rw [← hmv5] at HMV hle hmvb HO5 HF5
            rw [← hM5] at HMO hle
            clear hmv5 hM5
            have d7 : decide (mv5 < 0) = false := decide_eq_false (by omega)
            have d8 : decide (M5 < mv5) = false := decide_eq_false (by omega)
            clear hle hmvb
            go_wp2_with fail
            refine HMV.out.mono ?_
            rintro er w6 ⟨rfl, rfl⟩
            go_wp2_with fail
            refine HMO.out.mono ?_
            rintro er w6 ⟨rfl, rfl⟩
            go_wp2_with fail
            go_roundw
            case rel => exact ⟨i + 1, mk + 1, mv5, _, by omega, by have := HMK.out; omega, by go_num, by go_num, HO5.out, HF5.out, HXW.out.imp id (fun h => mem_next.2 (Or.inr h)), fun j hj => mem_next.2 (by by_cases hji : j = i; exact Or.inl (by rw [hji]; have := HMK.out; omega); exact Or.inr (HALL.out j (by omega))), HBW.out.trans (HB5.out.mono (by omega)), by have := HB5.out.size; omega⟩
            case measure => simp [intOf]; omega
          · have d3 : decide ((0 : Int) < (i : Int)) = true := decide_eq_true (by omega)
            obtain ⟨kk, hkk⟩ := posK_of (E := E') (i := ((mk : Int) - 1)) (Or.inr (by have := HALL.out (i - 1) (by omega); rw [show ((made + (i - 1) : Nat) : Int) = (mk : Int) - 1 by have := HMK.out; omega] at this; exact this))
            have HI := Lib.hid (ol_insert_yes w1.heap.size xl mk kk mv' E' ((mk : Int) - 1) wr HO.out (by omega) hkk)
            have HKL := Lib.hid hkk.le
            clear hkk
            go_wp2_with fail
            refine HI.out.mono ?_
            rintro er w5 ⟨rfl, ⟨aa, ho5⟩, hb5, hk5⟩
            have HO5 := Lib.hid ho5
            have HF5 := Lib.hid (HFW.out.ins (a := aa) HO.out.asc hEl (by omega) HKL.out)
            have HB5 := Lib.hid hb5
            have HMV := Lib.hid (ol_moves w1.heap.size xl (mk + 1) _ _ w5 ho5)
            have HMO := Lib.hid (refMost_any (mk + 1) w5 (by omega) (by omega))
            have hle := HF5.out.most (by omega) (by omega)
            have hmvb := ho5.mvb
            clear ho5 hb5 hk5 HI
            obtain ⟨mv5, hmv5⟩ : ∃ mv5, mv5 = sprM mv' E' kk := ⟨_, rfl⟩
            obtain ⟨M5, hM5⟩ : ∃ M5, M5 = mostN (mk + 1) := ⟨_, rfl⟩
            rw [← hmv5] at HMV hle hmvb HO5 HF5
            rw [← hM5] at HMO hle
            clear hmv5 hM5
            have d7 : decide (mv5 < 0) = false := decide_eq_false (by omega)
            have d8 : decide (M5 < mv5) = false := decide_eq_false (by omega)
            clear hle hmvb
            go_wp2_with fail
            refine HMV.out.mono ?_
            rintro er w6 ⟨rfl, rfl⟩
            go_wp2_with fail
            refine HMO.out.mono ?_
            rintro er w6 ⟨rfl, rfl⟩
            go_wp2_with fail
            go_roundw
            case rel => exact ⟨i + 1, mk + 1, mv5, _, by omega, by have := HMK.out; omega, by go_num, by go_num, HO5.out, HF5.out, HXW.out.imp id (fun h => mem_next.2 (Or.inr h)), fun j hj => mem_next.2 (by by_cases hji : j = i; exact Or.inl (by rw [hji]; have := HMK.out; omega); exact Or.inr (HALL.out j (by omega))), HBW.out.trans (HB5.out.mono (by omega)), by have := HB5.out.size; omega⟩
            case measure => simp [intOf]; omega
        · by_cases hi1 : i ≤ 1
          · have d3 : decide ((1 : Int) < (i : Int)) = false := decide_eq_false (by omega)
            obtain ⟨kk, hkk⟩ := posK_of (E := E') (i := (-1)) (HXW.out)
            have HI := Lib.hid (ol_insert_yes w1.heap.size xl mk kk mv' E' (-1) wr HO.out (by omega) hkk)
            have HKL := Lib.hid hkk.le
            clear hkk
            go_wp2_with fail
            refine HI.out.mono ?_
            rintro er w5 ⟨rfl, ⟨aa, ho5⟩, hb5, hk5⟩
            have HO5 := Lib.hid ho5
            have HF5 := Lib.hid (HFW.out.ins (a := aa) HO.out.asc hEl (by omega) HKL.out)
            have HB5 := Lib.hid hb5
            have HMV := Lib.hid (ol_moves w1.heap.size xl (mk + 1) _ _ w5 ho5)
            have HMO := Lib.hid (refMost_any (mk + 1) w5 (by omega) (by omega))
            have hle := HF5.out.most (by omega) (by omega)
            have hmvb := ho5.mvb
            clear ho5 hb5 hk5 HI
            obtain ⟨mv5, hmv5⟩ : ∃ mv5, mv5 = sprM mv' E' kk := ⟨_, rfl⟩
            obtain ⟨M5, hM5⟩ : ∃ M5, M5 = mostN (mk + 1) := ⟨_, rfl⟩
            rw [← hmv5] at HMV hle hmvb HO5 HF5
            rw [← hM5] at HMO hle
            clear hmv5 hM5
            have d7 : decide (mv5 < 0) = false := decide_eq_false (by omega)
            have d8 : decide (M5 < mv5) = false := decide_eq_false (by omega)
            clear hle hmvb
            go_wp2_with fail
            refine HMV.out.mono ?_
            rintro er w6 ⟨rfl, rfl⟩
            go_wp2_with fail
            refine HMO.out.mono ?_
            rintro er w6 ⟨rfl, rfl⟩
            go_wp2_with fail
            go_roundw
            case rel => exact ⟨i + 1, mk + 1, mv5, _, by omega, by have := HMK.out; omega, by go_num, by go_num, HO5.out, HF5.out, HXW.out.imp id (fun h => mem_next.2 (Or.inr h)), fun j hj => mem_next.2 (by by_cases hji : j = i; exact Or.inl (by rw [hji]; have := HMK.out; omega); exact Or.inr (HALL.out j (by omega))), HBW.out.trans (HB5.out.mono (by omega)), by have := HB5.out.size; omega⟩
            case measure => simp [intOf]; omega
          · have d3 : decide ((1 : Int) < (i : Int)) = true := decide_eq_true (by omega)
            by_cases hev : i % 2 = 0
            · have d4 : (i : Int) % 2 = 0 := by omega
              obtain ⟨kk, hkk⟩ := posK_of (E := E') (i := (-1)) (HXW.out)
              have HI := Lib.hid (ol_insert_yes w1.heap.size xl mk kk mv' E' (-1) wr HO.out (by omega) hkk)
              have HKL := Lib.hid hkk.le
              clear hkk
              go_wp2_with fail
              refine HI.out.mono ?_
              rintro er w5 ⟨rfl, ⟨aa, ho5⟩, hb5, hk5⟩
              have HO5 := Lib.hid ho5
              have HF5 := Lib.hid (HFW.out.ins (a := aa) HO.out.asc hEl (by omega) HKL.out)
              have HB5 := Lib.hid hb5
              have HMV := Lib.hid (ol_moves w1.heap.size xl (mk + 1) _ _ w5 ho5)
              have HMO := Lib.hid (refMost_any (mk + 1) w5 (by omega) (by omega))
              have hle := HF5.out.most (by omega) (by omega)
              have hmvb := ho5.mvb
              clear ho5 hb5 hk5 HI
              obtain ⟨mv5, hmv5⟩ : ∃ mv5, mv5 = sprM mv' E' kk := ⟨_, rfl⟩
              obtain ⟨M5, hM5⟩ : ∃ M5, M5 = mostN (mk + 1) := ⟨_, rfl⟩
              rw [← hmv5] at HMV hle hmvb HO5 HF5
              rw [← hM5] at HMO hle
              clear hmv5 hM5
              have d7 : decide (mv5 < 0) = false := decide_eq_false (by omega)
              have d8 : decide (M5 < mv5) = false := decide_eq_false (by omega)
              clear hle hmvb
              go_wp2_with fail
              refine HMV.out.mono ?_
              rintro er w6 ⟨rfl, rfl⟩
              go_wp2_with fail
              refine HMO.out.mono ?_
              rintro er w6 ⟨rfl, rfl⟩
              go_wp2_with fail
              go_roundw
              case rel => exact ⟨i + 1, mk + 1, mv5, _, by omega, by have := HMK.out; omega, by go_num, by go_num, HO5.out, HF5.out, HXW.out.imp id (fun h => mem_next.2 (Or.inr h)), fun j hj => mem_next.2 (by by_cases hji : j = i; exact Or.inl (by rw [hji]; have := HMK.out; omega); exact Or.inr (HALL.out j (by omega))), HBW.out.trans (HB5.out.mono (by omega)), by have := HB5.out.size; omega⟩
              case measure => simp [intOf]; omega
            · have d4 : (i : Int) % 2 = 1 := by omega
              obtain ⟨kk, hkk⟩ := posK_of (E := E') (i := ((mk : Int) - 2)) (Or.inr (by have := HALL.out (i - 2) (by omega); rw [show ((made + (i - 2) : Nat) : Int) = (mk : Int) - 2 by have := HMK.out; omega] at this; exact this))
              have HI := Lib.hid (ol_insert_yes w1.heap.size xl mk kk mv' E' ((mk : Int) - 2) wr HO.out (by omega) hkk)
              have HKL := Lib.hid hkk.le
              clear hkk
              go_wp2_with fail
              refine HI.out.mono ?_
              rintro er w5 ⟨rfl, ⟨aa, ho5⟩, hb5, hk5⟩
              have HO5 := Lib.hid ho5
              have HF5 := Lib.hid (HFW.out.ins (a := aa) HO.out.asc hEl (by omega) HKL.out)
              have HB5 := Lib.hid hb5
              have HMV := Lib.hid (ol_moves w1.heap.size xl (mk + 1) _ _ w5 ho5)
              have HMO := Lib.hid (refMost_any (mk + 1) w5 (by omega) (by omega))
              have hle := HF5.out.most (by omega) (by omega)
              have hmvb := ho5.mvb
              clear ho5 hb5 hk5 HI
              obtain ⟨mv5, hmv5⟩ : ∃ mv5, mv5 = sprM mv' E' kk := ⟨_, rfl⟩
              obtain ⟨M5, hM5⟩ : ∃ M5, M5 = mostN (mk + 1) := ⟨_, rfl⟩
              rw [← hmv5] at HMV hle hmvb HO5 HF5
              rw [← hM5] at HMO hle
              clear hmv5 hM5
              have d7 : decide (mv5 < 0) = false := decide_eq_false (by omega)
              have d8 : decide (M5 < mv5) = false := decide_eq_false (by omega)
              clear hle hmvb
              go_wp2_with fail
              refine HMV.out.mono ?_
              rintro er w6 ⟨rfl, rfl⟩
              go_wp2_with fail
              refine HMO.out.mono ?_
              rintro er w6 ⟨rfl, rfl⟩
              go_wp2_with fail
              go_roundw
              case rel => exact ⟨i + 1, mk + 1, mv5, _, by omega, by have := HMK.out; omega, by go_num, by go_num, HO5.out, HF5.out, HXW.out.imp id (fun h => mem_next.2 (Or.inr h)), fun j hj => mem_next.2 (by by_cases hji : j = i; exact Or.inl (by rw [hji]; have := HMK.out; omega); exact Or.inr (HALL.out j (by omega))), HBW.out.trans (HB5.out.mono (by omega)), by have := HB5.out.size; omega⟩
              case measure => simp [intOf]; omega
      · have hiN : i = N := by omega
        subst hiN
        go_wp2_with fail
        go_ret
        exact ⟨rfl, HBW.out⟩
  · have d2 : decide ((0 : Int) < (m : Int)) = true := decide_eq_true (by omega)
    have d2n : decide (0 < m) = true := decide_eq_true (by omega)
    obtain ⟨r, hr⟩ : ∃ r, r = kv % m := ⟨_, rfl⟩
    have hrm : r < m := by rw [hr]; exact Nat.mod_lt _ (by omega)
    have hrE : (kv : Int) % (m : Int) = (r : Int) := by rw [hr]; omega
    have hrT : ((kv : Int)).tmod (m : Int) = (r : Int) := by rw [Int.tmod_eq_emod_of_nonneg (by omega), hrE]
    have hrI : (r : Int) < (m : Int) := by omega
    clear hr
    obtain ⟨e, he⟩ : ∃ e, E[r]? = some e := ⟨E[r]'(by rw [HM.out]; exact hrm), List.getElem?_eq_getElem _⟩
    obtain ⟨g, hA, _, hgl, y0⟩ := HR0.out.row.get (ords_get he)
    subst hA
    obtain ⟨b0, b1⟩ := HR0.out.cells
    have HX : Hid ((e.num : Int) = -1 ∨ (e.num : Int) ∈ ords E) := Lib.hid (Or.inr (List.mem_of_getElem? (ords_get he)))
    obtain ⟨xv, hxv⟩ : ∃ xv : Int, xv = (e.num : Int) := ⟨_, rfl⟩
    rw [← hxv] at HX y0
    clear he hxv
    go_wp2_with fail
    go_quiet (fail)
    clear hrE hrT b0 b1 y0
    go_wp2_with fail

    have HRx := Lib.hid HR0.out
    have hb00 := HR0.out.bel
    clear hb00
    go_loopw [49, 10] (fun s49 s10 wr => ∃ (i mk : Nat) (mv' : Int) (E' : List El), i ≤ N ∧ mk = made + i ∧ s49 = .int .i64 i ∧ s10 = .int .i64 mk ∧ OSt w1.heap.size xl mk mv' E' wr ∧ Few mk mv' E' ∧ (xv = -1 ∨ xv ∈ ords E') ∧ (∀ j : Nat, j < i → ((made + j : Nat) : Int) ∈ ords E') ∧ Below w.heap.size w wr ∧ w.heap.size ≤ wr.heap.size) (fun s49 _ _ => N - (intOf s49).toNat)
    case atStart => exact ⟨0, made, mv, E, by omega, rfl, rfl, rfl, HR0.out.ost.drewN _, HF.out, HX.out, fun j hj => absurd hj (by omega), bdN HR0.out.bel _, HR0.out.hsz⟩
    case round =>
      obtain ⟨i, mk, mv', E', hi, hmke, rfl, rfl, ho, hf, hx, hall, hb, hsz⟩ := hrel
      have HO := Lib.hid ho
      have HFW := Lib.hid hf
      have HXW := Lib.hid hx
      have HALL := Lib.hid hall
      have HBW := Lib.hid hb
      have HMK := Lib.hid hmke
      have hEl := ho.len
      have hmk741 : mk ≤ 740 := by omega
      clear ho hf hx hall hb hmke
      by_cases hlt : i < N
      · have hltI : (i : Int) < (N : Int) := by omega
        have hmm : ((mk : Int) != (mk : Int)) = false := by simp
        rcases (show q = 0 ∨ q = 1 ∨ q = 2 ∨ q = 3 by omega) with rfl | rfl | rfl | rfl
        · obtain ⟨kk, hkk⟩ := posK_of (E := E') (i := xv) (HXW.out)
          have HI := Lib.hid (ol_insert_yes w1.heap.size xl mk kk mv' E' xv wr HO.out (by omega) hkk)
          have HKL := Lib.hid hkk.le
          clear hkk
          go_wp2_with fail
          refine HI.out.mono ?_
          rintro er w5 ⟨rfl, ⟨aa, ho5⟩, hb5, hk5⟩
          have HO5 := Lib.hid ho5
          have HF5 := Lib.hid (HFW.out.ins (a := aa) HO.out.asc hEl (by omega) HKL.out)
          have HB5 := Lib.hid hb5
          have HMV := Lib.hid (ol_moves w1.heap.size xl (mk + 1) _ _ w5 ho5)
          have HMO := Lib.hid (refMost_any (mk + 1) w5 (by omega) (by omega))
          have hle := HF5.out.most (by omega) (by omega)
          have hmvb := ho5.mvb
          clear ho5 hb5 hk5 HI
          obtain ⟨mv5, hmv5⟩ : ∃ mv5, mv5 = sprM mv' E' kk := ⟨_, rfl⟩
          obtain ⟨M5, hM5⟩ : ∃ M5, M5 = mostN (mk + 1) := ⟨_, rfl⟩
          rw [← hmv5] at HMV hle hmvb HO5 HF5
          rw [← hM5] at HMO hle
          clear hmv5 hM5
          have d7 : decide (mv5 < 0) = false := decide_eq_false (by omega)
          have d8 : decide (M5 < mv5) = false := decide_eq_false (by omega)
          clear hle hmvb
          go_wp2_with fail
          refine HMV.out.mono ?_
          rintro er w6 ⟨rfl, rfl⟩
          go_wp2_with fail
          refine HMO.out.mono ?_
          rintro er w6 ⟨rfl, rfl⟩
          go_wp2_with fail
          go_roundw
          case rel => exact ⟨i + 1, mk + 1, mv5, _, by omega, by have := HMK.out; omega, by go_num, by go_num, HO5.out, HF5.out, HXW.out.imp id (fun h => mem_next.2 (Or.inr h)), fun j hj => mem_next.2 (by by_cases hji : j = i; exact Or.inl (by rw [hji]; have := HMK.out; omega); exact Or.inr (HALL.out j (by omega))), HBW.out.trans (HB5.out.mono (by omega)), by have := HB5.out.size; omega⟩
          case measure => simp [intOf]; omega
        · obtain ⟨kk, hkk⟩ := posK_of (E := E') (i := (-1)) (Or.inl rfl)
          have HI := Lib.hid (ol_insert_yes w1.heap.size xl mk kk mv' E' (-1) wr HO.out (by omega) hkk)
          have HKL := Lib.hid hkk.le
          clear hkk
          go_wp2_with fail
          refine HI.out.mono ?_
          rintro er w5 ⟨rfl, ⟨aa, ho5⟩, hb5, hk5⟩
          have HO5 := Lib.hid ho5
          have HF5 := Lib.hid (HFW.out.ins (a := aa) HO.out.asc hEl (by omega) HKL.out)
          have HB5 := Lib.hid hb5
          have HMV := Lib.hid (ol_moves w1.heap.size xl (mk + 1) _ _ w5 ho5)
          have HMO := Lib.hid (refMost_any (mk + 1) w5 (by omega) (by omega))
          have hle := HF5.out.most (by omega) (by omega)
          have hmvb := ho5.mvb
          clear ho5 hb5 hk5 HI
          obtain ⟨mv5, hmv5⟩ : ∃ mv5, mv5 = sprM mv' E' kk := ⟨_, rfl⟩
          obtain ⟨M5, hM5⟩ : ∃ M5, M5 = mostN (mk + 1) := ⟨_, rfl⟩
          rw [← hmv5] at HMV hle hmvb HO5 HF5
          rw [← hM5] at HMO hle
          clear hmv5 hM5
          have d7 : decide (mv5 < 0) = false := decide_eq_false (by omega)
          have d8 : decide (M5 < mv5) = false := decide_eq_false (by omega)
          clear hle hmvb
          go_wp2_with fail
          refine HMV.out.mono ?_
          rintro er w6 ⟨rfl, rfl⟩
          go_wp2_with fail
          refine HMO.out.mono ?_
          rintro er w6 ⟨rfl, rfl⟩
          go_wp2_with fail
          go_roundw
          case rel => exact ⟨i + 1, mk + 1, mv5, _, by omega, by have := HMK.out; omega, by go_num, by go_num, HO5.out, HF5.out, HXW.out.imp id (fun h => mem_next.2 (Or.inr h)), fun j hj => mem_next.2 (by by_cases hji : j = i; exact Or.inl (by rw [hji]; have := HMK.out; omega); exact Or.inr (HALL.out j (by omega))), HBW.out.trans (HB5.out.mono (by omega)), by have := HB5.out.size; omega⟩
          case measure => simp [intOf]; omega
        · by_cases hi0 : i = 0
          · have d3 : decide ((0 : Int) < (i : Int)) = false := decide_eq_false (by omega)
            obtain ⟨kk, hkk⟩ := posK_of (E := E') (i := xv) (HXW.out)
            have HI := Lib.hid (ol_insert_yes w1.heap.size xl mk kk mv' E' xv wr HO.out (by omega) hkk)
            have HKL := Lib.hid hkk.le
            clear hkk
            go_wp2_with fail
            refine HI.out.mono ?_
            rintro er w5 ⟨rfl, ⟨aa, ho5⟩, hb5, hk5⟩
            have HO5 := Lib.hid ho5
            have HF5 := Lib.hid (HFW.out.ins (a := aa) HO.out.asc hEl (by omega) HKL.out)
            have HB5 := Lib.hid hb5
            have HMV := Lib.hid (ol_moves w1.heap.size xl (mk + 1) _ _ w5 ho5)
            have HMO := Lib.hid (refMost_any (mk + 1) w5 (by omega) (by omega))
            have hle := HF5.out.most (by omega) (by omega)
            have hmvb := ho5.mvb
            clear ho5 hb5 hk5 HI
            obtain ⟨mv5, hmv5⟩ : ∃ mv5, mv5 = sprM mv' E' kk := ⟨_, rfl⟩
            obtain ⟨M5, hM5⟩ : ∃ M5, M5 = mostN (mk + 1) := ⟨_, rfl⟩
            rw [← hmv5] at HMV hle hmvb HO5 HF5
            rw [← hM5] at HMO hle
            clear hmv5 hM5
            have d7 : decide (mv5 < 0) = false := decide_eq_false (by omega)
            have d8 : decide (M5 < mv5) = false := decide_eq_false (by omega)
            clear hle hmvb
            go_wp2_with fail
            refine HMV.out.mono ?_
            rintro er w6 ⟨rfl, rfl⟩
            go_wp2_with fail
            refine HMO.out.mono ?_
            rintro er w6 ⟨rfl, rfl⟩
            go_wp2_with fail
            go_roundw
            case rel => exact ⟨i + 1, mk + 1, mv5, _, by omega, by have := HMK.out; omega, by go_num, by go_num, HO5.out, HF5.out, HXW.out.imp id (fun h => mem_next.2 (Or.inr h)), fun j hj => mem_next.2 (by by_cases hji : j = i; exact Or.inl (by rw [hji]; have := HMK.out; omega); exact Or.inr (HALL.out j (by omega))), HBW.out.trans (HB5.out.mono (by omega)), by have := HB5.out.size; omega⟩
            case measure => simp [intOf]; omega
          · have d3 : decide ((0 : Int) < (i : Int)) = true := decide_eq_true (by omega)
            obtain ⟨kk, hkk⟩ := posK_of (E := E') (i := ((mk : Int) - 1)) (Or.inr (by have := HALL.out (i - 1) (by omega); rw [show ((made + (i - 1) : Nat) : Int) = (mk : Int) - 1 by have := HMK.out; omega] at this; exact this))
            have HI := Lib.hid (ol_insert_yes w1.heap.size xl mk kk mv' E' ((mk : Int) - 1) wr HO.out (by omega) hkk)
            have HKL := Lib.hid hkk.le
            clear hkk
            go_wp2_with fail
            refine HI.out.mono ?_
            rintro er w5 ⟨rfl, ⟨aa, ho5⟩, hb5, hk5⟩
            have HO5 := Lib.hid ho5
            have HF5 := Lib.hid (HFW.out.ins (a := aa) HO.out.asc hEl (by omega) HKL.out)
            have HB5 := Lib.hid hb5
            have HMV := Lib.hid (ol_moves w1.heap.size xl (mk + 1) _ _ w5 ho5)
            have HMO := Lib.hid (refMost_any (mk + 1) w5 (by omega) (by omega))
            have hle := HF5.out.most (by omega) (by omega)
            have hmvb := ho5.mvb
            clear ho5 hb5 hk5 HI
            obtain ⟨mv5, hmv5⟩ : ∃ mv5, mv5 = sprM mv' E' kk := ⟨_, rfl⟩
            obtain ⟨M5, hM5⟩ : ∃ M5, M5 = mostN (mk + 1) := ⟨_, rfl⟩
            rw [← hmv5] at HMV hle hmvb HO5 HF5
            rw [← hM5] at HMO hle
            clear hmv5 hM5
            have d7 : decide (mv5 < 0) = false := decide_eq_false (by omega)
            have d8 : decide (M5 < mv5) = false := decide_eq_false (by omega)
            clear hle hmvb
            go_wp2_with fail
            refine HMV.out.mono ?_
            rintro er w6 ⟨rfl, rfl⟩
            go_wp2_with fail
            refine HMO.out.mono ?_
            rintro er w6 ⟨rfl, rfl⟩
            go_wp2_with fail
            go_roundw
            case rel => exact ⟨i + 1, mk + 1, mv5, _, by omega, by have := HMK.out; omega, by go_num, by go_num, HO5.out, HF5.out, HXW.out.imp id (fun h => mem_next.2 (Or.inr h)), fun j hj => mem_next.2 (by by_cases hji : j = i; exact Or.inl (by rw [hji]; have := HMK.out; omega); exact Or.inr (HALL.out j (by omega))), HBW.out.trans (HB5.out.mono (by omega)), by have := HB5.out.size; omega⟩
            case measure => simp [intOf]; omega
        · by_cases hi1 : i ≤ 1
          · have d3 : decide ((1 : Int) < (i : Int)) = false := decide_eq_false (by omega)
            obtain ⟨kk, hkk⟩ := posK_of (E := E') (i := xv) (HXW.out)
            have HI := Lib.hid (ol_insert_yes w1.heap.size xl mk kk mv' E' xv wr HO.out (by omega) hkk)
            have HKL := Lib.hid hkk.le
            clear hkk
            go_wp2_with fail
            refine HI.out.mono ?_
            rintro er w5 ⟨rfl, ⟨aa, ho5⟩, hb5, hk5⟩
            have HO5 := Lib.hid ho5
            have HF5 := Lib.hid (HFW.out.ins (a := aa) HO.out.asc hEl (by omega) HKL.out)
            have HB5 := Lib.hid hb5
            have HMV := Lib.hid (ol_moves w1.heap.size xl (mk + 1) _ _ w5 ho5)
            have HMO := Lib.hid (refMost_any (mk + 1) w5 (by omega) (by omega))
            have hle := HF5.out.most (by omega) (by omega)
            have hmvb := ho5.mvb
            clear ho5 hb5 hk5 HI
            obtain ⟨mv5, hmv5⟩ : ∃ mv5, mv5 = sprM mv' E' kk := ⟨_, rfl⟩
            obtain ⟨M5, hM5⟩ : ∃ M5, M5 = mostN (mk + 1) := ⟨_, rfl⟩
            rw [← hmv5] at HMV hle hmvb HO5 HF5
            rw [← hM5] at HMO hle
            clear hmv5 hM5
            have d7 : decide (mv5 < 0) = false := decide_eq_false (by omega)
            have d8 : decide (M5 < mv5) = false := decide_eq_false (by omega)
            clear hle hmvb
            go_wp2_with fail
            refine HMV.out.mono ?_
            rintro er w6 ⟨rfl, rfl⟩
            go_wp2_with fail
            refine HMO.out.mono ?_
            rintro er w6 ⟨rfl, rfl⟩
            go_wp2_with fail
            go_roundw
            case rel => exact ⟨i + 1, mk + 1, mv5, _, by omega, by have := HMK.out; omega, by go_num, by go_num, HO5.out, HF5.out, HXW.out.imp id (fun h => mem_next.2 (Or.inr h)), fun j hj => mem_next.2 (by by_cases hji : j = i; exact Or.inl (by rw [hji]; have := HMK.out; omega); exact Or.inr (HALL.out j (by omega))), HBW.out.trans (HB5.out.mono (by omega)), by have := HB5.out.size; omega⟩
            case measure => simp [intOf]; omega
          · have d3 : decide ((1 : Int) < (i : Int)) = true := decide_eq_true (by omega)
            by_cases hev : i % 2 = 0
            · have d4 : (i : Int) % 2 = 0 := by omega
              obtain ⟨kk, hkk⟩ := posK_of (E := E') (i := xv) (HXW.out)
              have HI := Lib.hid (ol_insert_yes w1.heap.size xl mk kk mv' E' xv wr HO.out (by omega) hkk)
              have HKL := Lib.hid hkk.le
              clear hkk
              go_wp2_with fail
              refine HI.out.mono ?_
              rintro er w5 ⟨rfl, ⟨aa, ho5⟩, hb5, hk5⟩
              have HO5 := Lib.hid ho5
              have HF5 := Lib.hid (HFW.out.ins (a := aa) HO.out.asc hEl (by omega) HKL.out)
              have HB5 := Lib.hid hb5
              have HMV := Lib.hid (ol_moves w1.heap.size xl (mk + 1) _ _ w5 ho5)
              have HMO := Lib.hid (refMost_any (mk + 1) w5 (by omega) (by omega))
              have hle := HF5.out.most (by omega) (by omega)
              have hmvb := ho5.mvb
              clear ho5 hb5 hk5 HI
              obtain ⟨mv5, hmv5⟩ : ∃ mv5, mv5 = sprM mv' E' kk := ⟨_, rfl⟩
              obtain ⟨M5, hM5⟩ : ∃ M5, M5 = mostN (mk + 1) := ⟨_, rfl⟩
              rw [← hmv5] at HMV hle hmvb HO5 HF5
              rw [← hM5] at HMO hle
              clear hmv5 hM5
              have d7 : decide (mv5 < 0) = false := decide_eq_false (by omega)
              have d8 : decide (M5 < mv5) = false := decide_eq_false (by omega)
              clear hle hmvb
              go_wp2_with fail
              refine HMV.out.mono ?_
              rintro er w6 ⟨rfl, rfl⟩
              go_wp2_with fail
              refine HMO.out.mono ?_
              rintro er w6 ⟨rfl, rfl⟩
              go_wp2_with fail
              go_roundw
              case rel => exact ⟨i + 1, mk + 1, mv5, _, by omega, by have := HMK.out; omega, by go_num, by go_num, HO5.out, HF5.out, HXW.out.imp id (fun h => mem_next.2 (Or.inr h)), fun j hj => mem_next.2 (by by_cases hji : j = i; exact Or.inl (by rw [hji]; have := HMK.out; omega); exact Or.inr (HALL.out j (by omega))), HBW.out.trans (HB5.out.mono (by omega)), by have := HB5.out.size; omega⟩
              case measure => simp [intOf]; omega
            · have d4 : (i : Int) % 2 = 1 := by omega
              obtain ⟨kk, hkk⟩ := posK_of (E := E') (i := ((mk : Int) - 2)) (Or.inr (by have := HALL.out (i - 2) (by omega); rw [show ((made + (i - 2) : Nat) : Int) = (mk : Int) - 2 by have := HMK.out; omega] at this; exact this))
              have HI := Lib.hid (ol_insert_yes w1.heap.size xl mk kk mv' E' ((mk : Int) - 2) wr HO.out (by omega) hkk)
              have HKL := Lib.hid hkk.le
              clear hkk
              go_wp2_with fail
              refine HI.out.mono ?_
              rintro er w5 ⟨rfl, ⟨aa, ho5⟩, hb5, hk5⟩
              have HO5 := Lib.hid ho5
              have HF5 := Lib.hid (HFW.out.ins (a := aa) HO.out.asc hEl (by omega) HKL.out)
              have HB5 := Lib.hid hb5
              have HMV := Lib.hid (ol_moves w1.heap.size xl (mk + 1) _ _ w5 ho5)
              have HMO := Lib.hid (refMost_any (mk + 1) w5 (by omega) (by omega))
              have hle := HF5.out.most (by omega) (by omega)
              have hmvb := ho5.mvb
              clear ho5 hb5 hk5 HI
              obtain ⟨mv5, hmv5⟩ : ∃ mv5, mv5 = sprM mv' E' kk := ⟨_, rfl⟩
              obtain ⟨M5, hM5⟩ : ∃ M5, M5 = mostN (mk + 1) := ⟨_, rfl⟩
              rw [← hmv5] at HMV hle hmvb HO5 HF5
              rw [← hM5] at HMO hle
              clear hmv5 hM5
              have d7 : decide (mv5 < 0) = false := decide_eq_false (by omega)
              have d8 : decide (M5 < mv5) = false := decide_eq_false (by omega)
              clear hle hmvb
              go_wp2_with fail
              refine HMV.out.mono ?_
              rintro er w6 ⟨rfl, rfl⟩
              go_wp2_with fail
              refine HMO.out.mono ?_
              rintro er w6 ⟨rfl, rfl⟩
              go_wp2_with fail
              go_roundw
              case rel => exact ⟨i + 1, mk + 1, mv5, _, by omega, by have := HMK.out; omega, by go_num, by go_num, HO5.out, HF5.out, HXW.out.imp id (fun h => mem_next.2 (Or.inr h)), fun j hj => mem_next.2 (by by_cases hji : j = i; exact Or.inl (by rw [hji]; have := HMK.out; omega); exact Or.inr (HALL.out j (by omega))), HBW.out.trans (HB5.out.mono (by omega)), by have := HB5.out.size; omega⟩
              case measure => simp [intOf]; omega
      · have hiN : i = N := by omega
        subst hiN
        go_wp2_with fail
        go_ret
        exact ⟨rfl, HBW.out⟩
end Go.Proofs.Ytbmaijkpcpbgjaa
