/- Walks: the reference's Decimal and Text. -/
import Derived.Test.YtmebdieflllgcaaDoorRatG
import Derived.Test.YtmebdieflllgcaaDoorRatX
namespace Go.Proofs.YtmebdieflllgcaaDoor
open Go.RowKit
set_option maxRecDepth 100000

theorem enc_dig {d : Nat} (h : d ≤ 9) : Utf8.encode (48 + (d : Int)) = ⟨#[UInt8.ofNat (48 + d)]⟩ := by
  have : ∀ d : Fin 10, Utf8.encode (48 + (d.val : Int)) = ⟨#[UInt8.ofNat (48 + d.val)]⟩ := by decide +kernel
  exact this ⟨d, by omega⟩
theorem ret_str {a b : ByteArray} (h : a = b) : Ending.returned (.string a) = .returned (.string b) := by rw [h]
theorem app2 (a b : List UInt8) : (ByteArray.mk a.toArray ++ ByteArray.mk b.toArray) = ByteArray.mk (a ++ b).toArray := by
  apply ByteArray.ext
  simp
theorem itoa_small {u : Nat} (h : u ≤ 9) : Lib.itoa (u : Int) = [UInt8.ofNat (48 + u)] := by
  unfold Lib.itoa
  rw [if_neg (by omega), Int.toNat_natCast, Lib.decDigits, dif_pos (by omega)]
theorem itoa_big {u : Nat} (h : 9 < u) : Lib.itoa (u : Int) = Lib.itoa ((u / 10 : Nat) : Int) ++ [UInt8.ofNat (48 + u % 10)] := by
  unfold Lib.itoa
  rw [if_neg (by omega), if_neg (by omega), Int.toNat_natCast, Int.toNat_natCast, Lib.decDigits, dif_neg (by omega)]
theorem itoa_nsmall {u : Nat} (h0 : 1 ≤ u) (h : u ≤ 9) : Lib.itoa (-(u : Int)) = [45] ++ [UInt8.ofNat (48 + u)] := by
  unfold Lib.itoa
  have e : (-(u : Int)).natAbs = u := by omega
  rw [if_pos (by omega), e, Lib.decDigits, dif_pos (by omega)]
  rfl
theorem itoa_nbig {u : Nat} (h : 9 < u) : Lib.itoa (-(u : Int)) = Lib.itoa (-((u / 10 : Nat) : Int)) ++ [UInt8.ofNat (48 + u % 10)] := by
  unfold Lib.itoa
  have e : (-(u : Int)).natAbs = u := by omega
  have e2 : (-((u / 10 : Nat) : Int)).natAbs = u / 10 := by omega
  rw [if_pos (by omega), if_pos (by omega), e, e2, Lib.decDigits, dif_neg (by omega)]
  rfl

/-- What a call says of its numeral: one theorem a shape, over plain integers. -/
theorem decP_facts {n : Int} (h0 : 0 ≤ n) (h : n ≤ 9) : Utf8.encode (48 + n) = ⟨(Lib.itoa n).toArray⟩ := by
  obtain ⟨u, rfl⟩ : ∃ u : Nat, n = (u : Int) := ⟨n.toNat, by omega⟩
  rw [itoa_small (by omega), enc_dig (by omega)]
theorem decPB_facts {n : Int} (h : 9 < n) : ∃ X : List UInt8, X.length = 1 ∧ Utf8.encode (48 + n % 10) = ⟨X.toArray⟩ ∧ Lib.itoa n = Lib.itoa (n / 10) ++ X := by
  obtain ⟨u, rfl⟩ : ∃ u : Nat, n = (u : Int) := ⟨n.toNat, by omega⟩
  refine ⟨[UInt8.ofNat (48 + u % 10)], rfl, ?_, ?_⟩
  · have e : (48 + (u : Int) % 10) = 48 + ((u % 10 : Nat) : Int) := by simp
    rw [e]
    exact enc_dig (by omega)
  · have := itoa_big (u := u) (by omega)
    rw [this]; simp
theorem decN_facts {n : Int} (h0 : n < 0) (h : -9 ≤ n) : ∃ X : List UInt8, X.length = 1 ∧ Utf8.encode (48 - n) = ⟨X.toArray⟩ ∧ Lib.itoa n = [45] ++ X := by
  obtain ⟨u, rfl⟩ : ∃ u : Nat, n = -(u : Int) := ⟨n.natAbs, by omega⟩
  refine ⟨[UInt8.ofNat (48 + u)], rfl, ?_, itoa_nsmall (by omega) (by omega)⟩
  have e : (48 - -(u : Int)) = 48 + (u : Int) := by omega
  rw [e]
  exact enc_dig (by omega)
theorem decNB_facts {n : Int} (h : n < -9) : ∃ X : List UInt8, X.length = 1 ∧ Utf8.encode (48 - n.tmod 10) = ⟨X.toArray⟩ ∧ Lib.itoa n = Lib.itoa (n.tdiv 10) ++ X ∧ (-9 ≤ n.tmod 10 ∧ n.tmod 10 ≤ 0) ∧ (n.tdiv 10 < 0 ∧ (n.tdiv 10).natAbs < n.natAbs) := by
  obtain ⟨u, rfl⟩ : ∃ u : Nat, n = -(u : Int) := ⟨n.natAbs, by omega⟩
  have e1 : (-(u : Int)).tmod 10 = -((u % 10 : Nat) : Int) := by rw [Int.neg_tmod]; rfl
  have e2 : (-(u : Int)).tdiv 10 = -((u / 10 : Nat) : Int) := by rw [Int.neg_tdiv]; rfl
  rw [e1, e2]
  refine ⟨[UInt8.ofNat (48 + u % 10)], rfl, ?_, itoa_nbig (by omega), by omega, by omega⟩
  have e : (48 - -((u % 10 : Nat) : Int)) = 48 + ((u % 10 : Nat) : Int) := by omega
  rw [e]
  exact enc_dig (by omega)
set_option maxHeartbeats 4000000 in
theorem decPos_any : ∀ (k : Nat) (n : Int) (w : World), n.natAbs = k → 0 ≤ n → n ≤ 2147483648 → Calls Tryd.prog 50 #[.int .i64 n] w fun e w' => e = .returned (.string ⟨(Lib.itoa n).toArray⟩) ∧ Below w.heap.size w w' := by
  intro k
  induction k using Nat.strongRecOn with
  | _ k ih =>
    intro n w hk h0 hu
    by_cases h : n ≤ 9
    · obtain ⟨X, hX, he⟩ : ∃ X, Utf8.encode (48 + n) = X ∧ X = ⟨(Lib.itoa n).toArray⟩ := ⟨_, rfl, decP_facts h0 h⟩
      rw [← he]
      clear ih hk he hu
      have HX := Lib.hid hX
      clear hX
      go_enter Tryd.func50, Tryd.ntmps50
      have hx := HX.out
      go_wp2_with fail
      go_ret
      exact ⟨rfl, Below.refl _ _⟩
    · obtain ⟨X, hX1, hX2, hX3⟩ := decPB_facts (show 9 < n by omega)
      have hih := fun W => ih (n / 10).natAbs (by omega) (n / 10) W rfl (by omega) (by omega)
      have h9 : 9 < n := by omega
      rw [hX3]
      have HH := Lib.hid hih
      have HX := Lib.hid hX2
      have l1 := itoa_len (n / 10) (by omega) (by omega)
      have l2 : X.length ≤ 1 := by omega
      have m1 : 0 ≤ n % 10 := by omega
      have m2 : n % 10 ≤ 9 := by omega
      clear ih hk hih hX1 hX2 hX3
      go_enter Tryd.func50, Tryd.ntmps50
      go_wp2_with fail
      refine (HH.out _).mono ?_
      rintro e w1 ⟨rfl, hb⟩
      have HB := Lib.hid hb
      clear hb
      have hx := HX.out
      go_wp2_with fail
      go_ret
      exact ⟨by rw [← app2]; rfl, HB.out⟩
set_option maxHeartbeats 4000000 in
theorem decNeg_any : ∀ (k : Nat) (n : Int) (w : World), n.natAbs = k → n < 0 → -2147483648 ≤ n → Calls Tryd.prog 50 #[.int .i64 n] w fun e w' => e = .returned (.string ⟨(Lib.itoa n).toArray⟩) ∧ Below w.heap.size w w' := by
  intro k
  induction k using Nat.strongRecOn with
  | _ k ih =>
    intro n w hk h0 hu
    by_cases h : n < -9
    · obtain ⟨X, hX1, hX2, hX3, ⟨m1, m2⟩, m3, m4⟩ := decNB_facts h
      have hih := fun W => ih (n.tdiv 10).natAbs (by omega) (n.tdiv 10) W rfl m3 (by omega)
      rw [hX3]
      have HH := Lib.hid hih
      have HX := Lib.hid hX2
      have l1 := itoa_len (n.tdiv 10) (by omega) (by omega)
      have l2 : X.length ≤ 1 := by omega
      clear ih hk hih hX1 hX2 hX3 m4
      go_enter Tryd.func50, Tryd.ntmps50
      go_wp2_with fail
      refine (HH.out _).mono ?_
      rintro e w1 ⟨rfl, hb⟩
      have HB := Lib.hid hb
      clear hb
      have hx := HX.out
      go_wp2_with fail
      go_ret
      exact ⟨by rw [← app2]; rfl, HB.out⟩
    · obtain ⟨X, hX1, hX2, hX3⟩ := decN_facts h0 (by omega)
      rw [hX3]
      have HX := Lib.hid hX2
      have l2 : X.length ≤ 1 := by omega
      have h9 : -9 ≤ n := by omega
      clear ih hk hX1 hX2 hX3 h
      go_enter Tryd.func50, Tryd.ntmps50
      have hx := HX.out
      go_wp2_with fail
      go_ret
      exact ⟨ret_str (app2 [45] X), Below.refl _ _⟩
theorem dec_any (n : Int) (w : World) (h1 : -2147483648 ≤ n) (h2 : n ≤ 2147483648) : Calls Tryd.prog 50 #[.int .i64 n] w fun e w' => e = .returned (.string ⟨(Lib.itoa n).toArray⟩) ∧ Below w.heap.size w w' := by
  by_cases h : n < 0
  · exact decNeg_any _ n w rfl h h1
  · exact decPos_any _ n w rfl (by omega) h2
set_option maxHeartbeats 4000000 in
theorem refText_any (n d : Int) (w : World) (hv : vF n d) : Calls Tryd.prog 34 #[.agg #[.int .i64 n, .int .i64 d]] w fun e w' => e = .returned (.string ⟨(txtL n d).toArray⟩) ∧ Below w.heap.size w w' := by
  obtain ⟨a1, a2, a3, a4, _⟩ := hv
  by_cases h1 : d = 1
  · have ht : txtL n d = Lib.itoa n := by unfold txtL; rw [if_pos h1]
    rw [ht]
    subst h1
    clear ht
    go_enter Tryd.func34, Tryd.ntmps34
    go_wp2_with fail
    refine (dec_any n _ (by omega) (by omega)).mono ?_
    rintro r w1 ⟨rfl, hb1⟩
    obtain ⟨k1, k2⟩ := bdBox hb1
    have K2 := Lib.hid k2
    obtain ⟨⟨x0, x1⟩, _⟩ := bk2 k1
    clear hb1 k1 k2
    go_wp2_with fail
    go_ret
    exact ⟨rfl, K2.out⟩
  · have ht : txtL n d = Lib.itoa n ++ [47] ++ Lib.itoa d := by unfold txtL; rw [if_neg h1]
    rw [ht]
    have f1 : (d != 1) = true := by simpa using h1
    have l1 := itoa_len n (by omega) (by omega)
    have l2 := itoa_len d (by omega) (by omega)
    clear ht h1
    go_enter Tryd.func34, Tryd.ntmps34
    go_wp2_with fail
    refine (dec_any n _ (by omega) (by omega)).mono ?_
    rintro r w1 ⟨rfl, hb1⟩
    obtain ⟨k1, k2⟩ := bdBox hb1
    have K1 := Lib.hid k1
    have K2 := Lib.hid k2
    obtain ⟨⟨x0, x1⟩, _⟩ := bk2 k1
    clear hb1 k1 k2
    go_wp2_with fail
    refine (dec_any d _ (by omega) (by omega)).mono ?_
    rintro r w3 ⟨rfl, hb3⟩
    have K4 := Lib.hid (K2.out.trans (hb3.mono K2.out.size))
    clear hb3 x0 x1
    go_wp2_with fail
    go_ret
    exact ⟨by rw [← app3]; rfl, K4.out⟩
end Go.Proofs.YtmebdieflllgcaaDoor
