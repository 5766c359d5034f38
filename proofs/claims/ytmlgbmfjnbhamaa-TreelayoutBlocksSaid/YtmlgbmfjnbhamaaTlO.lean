/- Blocks: where the size, the layout or a node is out of range. -/
import Derived.Test.YtmlgbmfjnbhamaaTlN
namespace Go.Proofs.Ytmlgbmfjnbhamaa
open Go.RowKit
set_option maxRecDepth 100000
theorem blocks_size (A1 A2 : Option Addr) (c1 c2 n m : Nat) (sz : Int) (w : World) (hs : sz ≤ 0) : Calls Try.prog 19 #[.slice A1 n c1, .slice A2 m c2, .int .i64 sz] w fun e w' => e = .returned (.tuple #[.int .i64 0, .int .i64 2]) ∧ w = w' := by
  have d1 : decide (sz ≤ 0) = true := decide_eq_true hs
  clear hs
  go_enter Try.func19, Try.ntmps19
  go_wp2_with fail
  go_ret2
  exact ⟨rfl, rfl⟩
theorem blocks_perm (A1 A2 : Option Addr) (c1 c2 n m k0 : Nat) (L : List Int) (sz : Int) (w : World) (hn : L.length = n) (hnl : n ≤ 60000) (h1 : IntsAt (· < w.heap.size) w A1 L) (hk : InvK L k0) (hk0 : k0 < n) (hs : 1 ≤ sz) :
    Calls Try.prog 19 #[.slice A1 n c1, .slice A2 m c2, .int .i64 sz] w fun e w' => e = .returned (.tuple #[.int .i64 0, .int .i64 1]) ∧ Below w.heap.size w w' := by
  have HI := Lib.hid (inverse_any A1 c1 n k0 L w hn hnl h1 hk)
  have d1 : decide (sz ≤ 0) = false := decide_eq_false (by omega)
  clear h1 hn hk
  go_enter Try.func19, Try.ntmps19
  go_wp2_with fail
  refine HI.out.mono ?_
  rintro er w1 ⟨⟨h1, _, _⟩ | ⟨_, rfl⟩, hb1⟩
  · exact absurd hk0 (by omega)
  have HB1 := Lib.hid hb1
  clear hb1
  go_wp2_with fail
  go_ret2
  exact ⟨rfl, HB1.out⟩
set_option maxHeartbeats 8000000 in
theorem blocks_out (A1 A2 : Option Addr) (c1 c2 n m j0 : Nat) (L M : List Int) (sz : Int) (w : World) (hn : L.length = n) (hm : M.length = m) (hnl : n ≤ 60000) (hml : m ≤ 60000) (h1 : IntsAt (· < w.heap.size) w A1 L) (h2 : IntsAt (· < w.heap.size) w A2 M) (hk : InvK L n) (hs : 1 ≤ sz)
    (hj0 : j0 < m) (hM : ∀ (j : Nat) (v : Int), j < j0 → M[j]? = some v → 0 ≤ v ∧ v < (n : Int)) (hbad : ∀ v, M[j0]? = some v → v < 0 ∨ (n : Int) ≤ v) :
    Calls Try.prog 19 #[.slice A1 n c1, .slice A2 m c2, .int .i64 sz] w fun e w' => e = .returned (.tuple #[.int .i64 0, .int .i64 2]) ∧ Below w.heap.size w w' := by
  have H1 := Lib.hid h1
  have H2 := Lib.hid h2
  have HN := Lib.hid hn
  have HMN := Lib.hid hm
  have HK := Lib.hid hk
  have HMR := Lib.hid hM
  have HI := Lib.hid (inverse_any A1 c1 n n L w hn hnl h1 hk)
  have d1 : decide (sz ≤ 0) = false := decide_eq_false (by omega)
  have HBAD := Lib.hid hbad
  clear hbad h1 h2 hn hm hk hM
  go_enter Try.func19, Try.ntmps19
  go_wp2_with fail
  refine HI.out.mono ?_
  rintro er w1 ⟨⟨_, g, rfl, _⟩ | ⟨hlt, _⟩, hb1⟩
  case inr => exact absurd hlt (Nat.lt_irrefl _)
  have HB1 := Lib.hid hb1
  clear hb1
  go_wp2_with fail
  refine (newT_any sz w1).mono ?_
  rintro er w2 ⟨mb, rfl, htm, hmb, hb2⟩
  have HTM := Lib.hid htm
  have hz1 := HB1.out.size
  have HB2 : Hid (Below w.heap.size w w2) := Lib.hid (HB1.out.trans (hb2.mono hz1))
  have hz2 := hb2.size
  have hmbl : mb < w2.heap.size := CMap.lt htm
  obtain ⟨w3, hw3⟩ : ∃ w3, w3 = w2.alloc (.cells #[.int .i64 sz, .map (some mb)] 64) := ⟨_, rfl⟩
  have HX3 : Hid (w3.heap[w2.heap.size]? = some (.cells #[.int .i64 sz, .map (some mb)] 64 (0, 0))) := Lib.hid (by rw [hw3]; exact bdNew w2 _)
  have HB3 : Hid (Below w.heap.size w w3) := Lib.hid (by rw [hw3]; exact HB2.out.alloc HB2.out.size _)
  have HT3 : Hid (TM w3 mb 0 (disA (blks L (M.take 0) sz)).length (fun x => (blks L (M.take 0) sz).count x)) := Lib.hid (by rw [hw3]; exact CMap.below htm ((Below.refl _ _).alloc (Nat.le_refl _) _) hmbl)
  have hz3 : w3.heap.size = w2.heap.size + 1 := by rw [hw3]; simp
  have HW3 := Lib.hid hw3
  clear htm hb2 hw3
  go_wp2_with fail
  rw [← HW3.out]
  go_loopw [27] (fun s wr => ∃ j : Nat, j ≤ j0 ∧ s = .int .i64 j ∧ TM wr mb j (disA (blks L (M.take j) sz)).length (fun x => (blks L (M.take j) sz).count x) ∧ wr.heap[w2.heap.size]? = some (.cells #[.int .i64 sz, .map (some mb)] 64 (0, 0)) ∧ Below w.heap.size w wr) (fun s _ => m - (intOf s).toNat)
  case atStart => exact ⟨0, by omega, rfl, HT3.out, HX3.out, HB3.out⟩
  case round =>
    obtain ⟨j, hj, rfl, ht, hx, hb⟩ := hrel
    have HT := Lib.hid ht
    have HX := Lib.hid hx
    have HB := Lib.hid hb
    obtain ⟨⟨t0, t1⟩, tf⟩ := bk2 hx
    by_cases hlt : j < j0
    · have hltI : (j : Int) < (m : Int) := by omega
      obtain ⟨v, hv⟩ : ∃ v, M[j]? = some v := ⟨M[j]'(by rw [HMN.out]; omega), List.getElem?_eq_getElem _⟩
      obtain ⟨b2, o2, hA2, hbl2, y0⟩ := (H2.out.below hb).get hv
      subst hA2
      obtain ⟨v0, v1⟩ := HMR.out j v hlt hv
      obtain ⟨p, rfl⟩ : ∃ p : Nat, v = (p : Int) := ⟨v.toNat, by omega⟩
      have hpn : p < n := by omega
      have hpI : (p : Int) < (n : Int) := by omega
      have hp0 : (0 : Int) ≤ (p : Int) := by omega
      obtain ⟨x, hxx⟩ : ∃ x, L[p]? = some x := ⟨L[p]'(by rw [HN.out]; exact hpn), List.getElem?_eq_getElem _⟩
      obtain ⟨b1, o1, hA1, hbl1, x0⟩ := (H1.out.below hb).get hxx
      subst hA1
      have hok := HK.out.ok p hpn
      have hxD := getD_of hxx
      obtain ⟨q1, q2, _⟩ := hok
      rw [hxD] at q1 q2
      rw [HN.out] at q2
      obtain ⟨q, hq⟩ : ∃ q, x.tdiv sz = q := ⟨_, rfl⟩
      have hbt := blks_take (L := L) (sz := sz) hv
      rw [Int.toNat_natCast, hxD, hq] at hbt
      have hcl : (blks L (M.take j) sz).count q ≤ 1000000 := Nat.le_trans List.count_le_length (by unfold blks; rw [List.length_map, List.length_take]; omega)
      have HA := Lib.hid (fun W (hW : TM W mb j (disA (blks L (M.take j) sz)).length (fun x => (blks L (M.take j) sz).count x)) => add_any sz x q mb j _ _ W hW (by omega) hcl hs ⟨q1, by omega⟩ hq)
      rw [disA_len, count_up, ← hbt] at HA
      clear ht hx hb hv hxx hbt hcl hq hxD
      go_wp2_with fail
      go_region_with (refine (HA.out _ (by exact HT.out)).mono ?_; rintro er w5 ⟨rfl, hp1, hp2, hp3, hp4⟩; have HP1 := Lib.hid hp1; have HP2 : Hid (w5.heap[w2.heap.size]? = some (.cells #[.int .i64 sz, .map (some mb)] 64 (0, 0))) := Lib.hid ((hp3 w2.heap.size (bdLt HX.out) (by omega)).trans HX.out); have HP3 : Hid (Below w.heap.size w w5) := Lib.hid (hp4 _ _ (by first | exact HB.out | exact bdN HB.out 1) (by omega)); clear hp1 hp2 hp3 hp4)
      all_goals
        go_wp2_with fail
        go_roundw
        case rel => exact ⟨j + 1, by omega, by go_num, HP1.out, HP2.out, HP3.out⟩
        case measure => simp [intOf]; omega
    · obtain rfl : j = j0 := by omega
      have hltI : (j : Int) < (m : Int) := by omega
      obtain ⟨v, hv⟩ : ∃ v, M[j]? = some v := ⟨M[j]'(by rw [HMN.out]; omega), List.getElem?_eq_getElem _⟩
      obtain ⟨b2, o2, hA2, hbl2, y0⟩ := (H2.out.below hb).get hv
      subst hA2
      have hbd := HBAD.out v hv
      clear ht hx hb hv
      by_cases hv0 : v < 0
      · have d2 : decide (v < 0) = true := decide_eq_true hv0
        clear hbd hv0
        go_wp2_with fail
        go_ret2
        exact ⟨rfl, HB.out⟩
      · have d2 : decide (v < 0) = false := decide_eq_false hv0
        have d3 : decide ((n : Int) ≤ v) = true := decide_eq_true (by omega)
        clear hbd hv0
        go_wp2_with fail
        go_ret2
        exact ⟨rfl, HB.out⟩
end Go.Proofs.Ytmlgbmfjnbhamaa
