/- The library's table of powers, strconv.Itoa, Text. -/
import Derived.Lib.AppendIntMem
import Derived.Test.YtmebdieflllgcaaDoorRows
import Derived.Test.YtmebdieflllgcaaDoorRatF
import Derived.Test.YtmebdieflllgcaaDoorRatL
namespace Go.Proofs.YtmebdieflllgcaaDoor
open Go.RowKit
set_option maxRecDepth 100000

/-- The library's table of powers of 10, by the name that the seat's rows give. -/
def powName : String := Rows.ratioMakesRow.named.headD ""
theorem gPow : Tryd.prog.globalNamed powName = some 3 := by kernel_rfl
def Pw (w : World) : Prop := Lib.TabIs Tryd.prog w powName .u64 Lib.pow10Tab
theorem Pw.lt {w : World} (h : Pw w) : 3 < w.heap.size := by
  unfold Pw Lib.TabIs World.var? at h
  rw [gPow] at h
  simp only [Option.bind_some] at h
  rcases Nat.lt_or_ge 3 w.heap.size with h' | h'
  · exact h'
  · rw [Array.getElem?_eq_none h'] at h
    cases h
theorem Pw.below {w w' : World} {B : Nat} (h : Pw w) (hb : Below B w w') (hB : 3 < B) : Pw w' := by
  unfold Pw Lib.TabIs World.var? at h ⊢
  rw [gPow] at h ⊢
  simp only [Option.bind_some] at h ⊢
  rw [hb.block _ hB]
  exact h
theorem Pw.on {w w' : World} (h : Pw w) (hb : Below w.heap.size w w') : Pw w' := h.below hb h.lt
theorem itoa_any (n : Int) (w : World) (hp : Pw w) (h1 : -9223372036854775808 ≤ n) (h2 : n ≤ 9223372036854775807) :
    Calls Tryd.prog 49 #[.int .i64 n] w fun e w' => e = .returned (.string ⟨(Lib.itoa n).toArray⟩) ∧ Below w.heap.size w w' :=
  (Any.strconv_Itoa Tryd.laysM171 n h1 h2 w hp).mono fun _ _ ⟨he, k, os, hw⟩ => ⟨he, by rw [hw]; exact Lib.below_grow _ _ (Nat.le_refl _) k os⟩

theorem dec_len : ∀ (k u : Nat), u < 10 ^ (k + 1) → (Lib.decDigits u).length ≤ k + 1 := by
  intro k
  induction k with
  | zero => intro u h; rw [Lib.decDigits, dif_pos (by omega)]; simp
  | succ k ih =>
    intro u h
    rw [Lib.decDigits]
    split
    · simp
    · rw [List.length_append]
      have := ih (u / 10) (by rw [Nat.pow_succ] at h; omega)
      simp only [List.length_cons, List.length_nil]
      omega
theorem itoa_len (n : Int) (h1 : -9223372036854775808 ≤ n) (h2 : n ≤ 9223372036854775807) : (Lib.itoa n).length ≤ 20 := by
  unfold Lib.itoa
  split
  · have := dec_len 18 n.natAbs (by omega)
    simp only [List.length_cons]
    omega
  · have := dec_len 18 n.toNat (by omega)
    omega

/-- The text of a fraction. -/
def txtL (n d : Int) : List UInt8 := if d = 1 then Lib.itoa n else Lib.itoa n ++ [47] ++ Lib.itoa d
def txF (n d : Int) : Value := if vldB n d then .tuple #[.string ⟨(txtL n d).toArray⟩, .int .i64 0] else .tuple #[.string ⟨#[]⟩, .int .i64 1]
theorem app3 (a b c : List UInt8) : (ByteArray.mk a.toArray ++ ByteArray.mk b.toArray ++ ByteArray.mk c.toArray) = ByteArray.mk (a ++ b ++ c).toArray := by
  apply ByteArray.ext
  simp
set_option maxHeartbeats 4000000 in
theorem Text_any (n d : Int) (w : World) (hp : Pw w) : Calls Tryd.prog 33 #[.agg #[.int .i64 n, .int .i64 d]] w fun r w' => r = .returned (txF n d) ∧ Below w.heap.size w w' := by
  have HP := Lib.hid hp
  clear hp
  cases hv : vldB n d with
  | false =>
    have hs : txF n d = .tuple #[.string ⟨#[]⟩, .int .i64 1] := by unfold txF; rw [hv]; rfl
    rw [hs]
    have hc := fun W => Valid_no n d W hv
    have HV := Lib.hid hc
    clear hs hv hc
    go_enter Tryd.func33, Tryd.ntmps33
    go_wp2_with fail
    refine (HV.out _).mono ?_
    rintro r w1 ⟨rfl, hb1⟩
    obtain ⟨k1, k2⟩ := bdBox hb1
    have K2 := Lib.hid k2
    clear hb1 k1 k2
    go_wp2_with fail
    go_ret2
    exact ⟨rfl, K2.out⟩
  | true =>
    have hs : txF n d = .tuple #[.string ⟨(txtL n d).toArray⟩, .int .i64 0] := by unfold txF; rw [hv]; rfl
    rw [hs]
    obtain ⟨a1, a2, a3, a4, _⟩ := vldB_true.1 hv
    have hc := fun W => Valid_ok n d W hv
    have HV := Lib.hid hc
    clear hs hv hc
    by_cases h1 : d = 1
    · have ht : txtL n d = Lib.itoa n := by unfold txtL; rw [if_pos h1]
      rw [ht]
      subst h1
      clear ht
      go_enter Tryd.func33, Tryd.ntmps33
      go_wp2_with fail
      refine (HV.out _).mono ?_
      rintro r w1 ⟨rfl, hb1⟩
      obtain ⟨k1, k2⟩ := bdBox hb1
      have K1 := Lib.hid k1
      have K2 := Lib.hid k2
      obtain ⟨⟨x0, x1⟩, _⟩ := bk2 k1
      clear hb1 k1 k2
      go_wp2_with fail
      refine (itoa_any n _ (HP.out.on K2.out) (by omega) (by omega)).mono ?_
      rintro r w2 ⟨rfl, hb2⟩
      have K3 := Lib.hid (K2.out.trans (hb2.mono K2.out.size))
      clear x0 x1
      obtain ⟨⟨x0, x1⟩, _⟩ := bk2 (bdAt K1.out hb2)
      clear hb2
      go_wp2_with fail
      go_ret2
      exact ⟨rfl, K3.out⟩
    · have ht : txtL n d = Lib.itoa n ++ [47] ++ Lib.itoa d := by unfold txtL; rw [if_neg h1]
      rw [ht]
      have f1 : (d == 1) = false := by simpa using h1
      have l1 := itoa_len n (by omega) (by omega)
      have l2 := itoa_len d (by omega) (by omega)
      clear ht h1
      go_enter Tryd.func33, Tryd.ntmps33
      go_wp2_with fail
      refine (HV.out _).mono ?_
      rintro r w1 ⟨rfl, hb1⟩
      obtain ⟨k1, k2⟩ := bdBox hb1
      have K1 := Lib.hid k1
      have K2 := Lib.hid k2
      obtain ⟨⟨x0, x1⟩, _⟩ := bk2 k1
      clear hb1 k1 k2
      go_wp2_with fail
      refine (itoa_any n _ (HP.out.on K2.out) (by omega) (by omega)).mono ?_
      rintro r w2 ⟨rfl, hb2⟩
      have K3 := Lib.hid (K2.out.trans (hb2.mono K2.out.size))
      clear x0 x1
      obtain ⟨⟨x0, x1⟩, _⟩ := bk2 (bdAt K1.out hb2)
      clear hb2
      go_wp2_with fail
      refine (itoa_any d _ (HP.out.on K3.out) (by omega) (by omega)).mono ?_
      rintro r w3 ⟨rfl, hb3⟩
      have K4 := Lib.hid (K3.out.trans (hb3.mono K3.out.size))
      clear hb3 x0 x1
      go_wp2_with fail
      go_ret2
      exact ⟨by rw [← app3]; rfl, K4.out⟩
end Go.Proofs.YtmebdieflllgcaaDoor
