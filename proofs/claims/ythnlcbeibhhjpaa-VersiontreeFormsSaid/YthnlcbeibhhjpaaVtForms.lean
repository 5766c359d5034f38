/- VersiontreeForms: its walk. -/
import Derived.Test.YthnlcbeibhhjpaaVtEul
namespace Go.Proofs.Ythnlcbeibhhjpaa
open Go.RowKit
set_option maxRecDepth 100000
set_option maxHeartbeats 1000000 in
theorem many_any (A : Option Addr) (cap n : Nat) (w : World) (hn : n ≤ 9223372036854775807) (mb : Bool) (hmb : mb = true ↔ (60 < n ∧ n ≤ 1000) ∨ 1100 < n) :
    Calls Try.prog 10 #[.agg #[.slice A n cap]] w fun e w' => e = .returned (.bool mb) ∧ Below w.heap.size w w' := by
  have HB : Hid (Below w.heap.size w (w.alloc (.cells #[.slice A n cap] 24))) := Lib.hid ((Below.refl _ _).alloc (Nat.le_refl _) _)
  by_cases h1 : 60 < n
  · have d1 : decide ((60 : Int) < (n : Int)) = true := decide_eq_true (by omega)
    by_cases h2 : n ≤ 1000
    · have d2 : decide ((n : Int) ≤ 1000) = true := decide_eq_true (by omega)
      have ht : mb = true := hmb.2 (Or.inl ⟨h1, h2⟩)
      subst ht
      clear h1 h2 hmb
      go_enter Try.func10, Try.ntmps10
      go_wp2_with fail
      go_ret
      exact ⟨rfl, HB.out⟩
    · have d2 : decide ((n : Int) ≤ 1000) = false := decide_eq_false (by omega)
      by_cases h3 : 1100 < n
      · have d3 : decide ((1100 : Int) < (n : Int)) = true := decide_eq_true (by omega)
        have ht : mb = true := hmb.2 (Or.inr h3)
        subst ht
        clear h1 h2 h3 hmb
        go_enter Try.func10, Try.ntmps10
        go_wp2_with fail
        go_ret
        exact ⟨rfl, HB.out⟩
      · have d3 : decide ((1100 : Int) < (n : Int)) = false := decide_eq_false (by omega)
        have ht : mb = false := by
          cases hv : mb
          · rfl
          · have := hmb.1 hv; omega
        subst ht
        clear h1 h2 h3 hmb
        go_enter Try.func10, Try.ntmps10
        go_wp2_with fail
        go_ret
        exact ⟨rfl, HB.out⟩
  · have d1 : decide ((60 : Int) < (n : Int)) = false := decide_eq_false (by omega)
    have d3 : decide ((1100 : Int) < (n : Int)) = false := decide_eq_false (by omega)
    have ht : mb = false := by
      cases hv : mb
      · rfl
      · have := hmb.1 hv; omega
    subst ht
    clear h1 hmb
    go_enter Try.func10, Try.ntmps10
    go_wp2_with fail
    go_ret
    exact ⟨rfl, HB.out⟩
/-- A tree in its box, while a law looks at it. -/
structure FL (w : World) (mb : Nat) (A : Option Addr) (cap n : Nat) (P : List Int) (W : World) : Prop where
  tr : Tr W A cap n P
  bx : W.heap[mb]? = some (.cells #[.slice A n cap] 24 (0, 0))
  bel : Below w.heap.size w W
theorem FL.next {w : World} {mb : Nat} {A : Option Addr} {cap n : Nat} {P : List Int} {W W' : World} (h : FL w mb A cap n P W) (hb : Below W.heap.size W W') : FL w mb A cap n P W' := ⟨h.tr.below hb, bdAt h.bx hb, h.bel.trans (hb.mono h.bel.size)⟩
theorem FL.drewN {w : World} {mb : Nat} {A : Option Addr} {cap n : Nat} {P : List Int} {W : World} (h : FL w mb A cap n P W) (q : Nat) : FL w mb A cap n P (W.drewN q) := h.next (bdN (Below.refl _ _) q)
theorem FL.cell {w : World} {mb : Nat} {A : Option Addr} {cap n : Nat} {P : List Int} {W : World} (h : FL w mb A cap n P W) : W.cell? ⟨mb, 0, none⟩ = some (.slice A n cap) := (bk1 h.bx).1
/-- The same, with what has stood since another world. -/
structure FB (w : World) (mb : Nat) (A : Option Addr) (cap n : Nat) (P : List Int) (w5 W : World) : Prop where
  fl : FL w mb A cap n P W
  bl : Below w5.heap.size w5 W
theorem FB.next {w : World} {mb : Nat} {A : Option Addr} {cap n : Nat} {P : List Int} {w5 W W' : World} (h : FB w mb A cap n P w5 W) (hb : Below W.heap.size W W') : FB w mb A cap n P w5 W' := ⟨h.fl.next hb, h.bl.trans (hb.mono h.bl.size)⟩
/-- Two own rows of the same numbers are equal. -/
theorem rows_equal (B1 B2 : Nat) (A1 A2 : Option Addr) (c1 c2 m : Nat) (L : List Int) (W : World) (hm : L.length = m) (hml : m ≤ maxLen) (h1 : ORow B1 W A1 c1 L) (h2 : ORow B2 W A2 c2 L) :
    Calls Try.prog 16 #[.slice A1 m c1, .slice A2 m c2] W fun e w' => e = .returned (.bool true) ∧ Below W.heap.size W w' := by
  have hc := eqI_any (fun _ => True) (fun _ => True) A1 A2 c1 c2 L L W (by rw [hm]; exact hml) (by rw [hm]; exact hml) (intsAt_own h1 (fun _ _ _ => trivial)) (intsAt_own h2 (fun _ _ _ => trivial))
  rw [hm, decide_eq_true rfl] at hc
  exact hc.mono fun _ _ ⟨h1, q, h2⟩ => ⟨h1, h2 ▸ bdN (Below.refl _ _) q⟩
set_option maxHeartbeats 16000000 in
theorem lawForms_any (A : Option Addr) (cap n : Nat) (P : List Int) (k : Int) (w : World) (h : Tr w A cap n P) :
    Calls Try.prog 3 #[.agg #[.slice A n cap], .int .i64 k] w fun e w' => e = .returned (.bool true) ∧ Below w.heap.size w w' := by
  have hcm := h.cm
  have hcap := h.cap'
  unfold maxLen at hcm
  have hb1 : Below w.heap.size w (w.alloc (.cells #[.slice A n cap] 24)) := (Below.refl _ _).alloc (Nat.le_refl _) _
  have HF0 : Hid (FL w w.heap.size A cap n P (w.alloc (.cells #[.slice A n cap] 24))) := Lib.hid ⟨h.below hb1, bdNew _ _, hb1⟩
  have HW := Lib.hid (awakeV_any (w.alloc (.cells #[.slice A n cap] 24)))
  have hnb : n ≤ 9223372036854775807 := by omega
  clear h hb1
  by_cases hmany : (60 < n ∧ n ≤ 1000) ∨ 1100 < n
  · have HMN := Lib.hid (fun W => many_any A cap n W hnb true (by simp [hmany]))
    clear hmany
    go_enter Try.func3, Try.ntmps3
    go_wp2_with fail
    refine HW.out.mono ?_
    rintro er w1 ⟨rfl, hb1⟩
    have HF1 := Lib.hid (HF0.out.next hb1)
    have c0 := HF1.out.cell
    clear hb1
    go_wp2_with fail
    refine (HMN.out _).mono ?_
    rintro er w2 ⟨rfl, hb2⟩
    have HF2 := Lib.hid (HF1.out.next hb2)
    clear hb2 c0
    go_wp2_with fail
    go_ret
    exact ⟨rfl, HF2.out.bel⟩
  have HMN := Lib.hid (fun W => many_any A cap n W hnb false (by simp [hmany]))
  have hnl : n ≤ 1100 := by omega
  clear hmany
  by_cases hv : VP P
  case neg =>
    have HPN := Lib.hid (fun W (hF : FL w w.heap.size A cap n P W) => path_no A cap n k P W hF.tr 1 (Or.inl rfl) (Or.inl ⟨hv, rfl⟩))
    have HCN := Lib.hid (fun W (hF : FL w w.heap.size A cap n P W) => children_no A cap n k P W hF.tr 1 (Or.inl rfl) (Or.inl ⟨hv, rfl⟩))
    have HEN := Lib.hid (fun W (hF : FL w w.heap.size A cap n P W) => euler_no A cap n P W hF.tr hv)
    have HVV := Lib.hid (fun W (hF : FL w w.heap.size A cap n P W) => valid_any A cap n P W hF.tr false (by simp [hv]))
    have HRV := Lib.hid (fun W (hF : FL w w.heap.size A cap n P W) => refValid_any A cap n P W hF.tr false (by simp [hv]))
    clear hv
    go_enter Try.func3, Try.ntmps3
    go_wp2_with fail
    refine HW.out.mono ?_
    rintro er w1 ⟨rfl, hb1⟩
    have HF1 := Lib.hid (HF0.out.next hb1)
    have c0 := HF1.out.cell
    clear hb1
    go_wp2_with fail
    refine (HMN.out _).mono ?_
    rintro er w2 ⟨rfl, hb2⟩
    have HF2 := Lib.hid (HF1.out.next hb2)
    clear hb2 c0
    have c0 := HF2.out.cell
    go_wp2_with fail
    refine (HPN.out _ HF2.out).mono ?_
    rintro er w3 ⟨rfl, hb3⟩
    have HF3 := Lib.hid (HF2.out.next hb3)
    clear hb3 c0
    have c0 := HF3.out.cell
    go_wp2_with fail
    refine (HCN.out _ HF3.out).mono ?_
    rintro er w4 ⟨rfl, hb4⟩
    have HF4 := Lib.hid (HF3.out.next hb4)
    clear hb4 c0
    have c0 := HF4.out.cell
    go_wp2_with fail
    refine (HEN.out _ HF4.out).mono ?_
    rintro er w5 ⟨rfl, hb5⟩
    have HF5 := Lib.hid (HF4.out.next hb5)
    clear hb5 c0
    go_wp2_with fail
    have HS1 := Lib.hid (show w5.drew.cell? ⟨w.heap.size, 0, none⟩ = some (.slice A n cap) ∧ FB w w.heap.size A cap n P w5 w5.drew from ⟨(HF5.out.drewN 1).cell, HF5.out.drewN 1, bdN (Below.refl _ _) 1⟩)
    go_region_held3 (fun W => W.cell? ⟨w.heap.size, 0, none⟩ = some (.slice A n cap) ∧ FB w w.heap.size A cap n P w5 W)
      (first | exact HS1.out | assumption | (have hr := And.right (by assumption); exact ⟨(FB.next hr hbx).fl.cell, FB.next hr hbx⟩))
      (first
        | (go_at_call 14; refine (HVV.out _ (FB.fl (And.right (by assumption)))).mono ?_; rintro e wx ⟨rfl, hbx⟩)
        | (go_at_call 15; refine (HRV.out _ (FB.fl (And.right (by assumption)))).mono ?_; rintro e wx ⟨rfl, hbx⟩))
    have HFB6 : Hid (FB w w.heap.size A cap n P w5 wx) := Lib.hid (And.right (by assumption))
    obtain ⟨w6, hw6⟩ : ∃ w6, w6 = wx := ⟨_, rfl⟩
    rw [← hw6] at HFB6 ⊢
    have HF6 := Lib.hid HFB6.out.fl
    clear hw6
    have c0 := HF6.out.cell
    go_wp2_with fail
    refine (HRV.out _ HF6.out).mono ?_
    rintro er w7 ⟨rfl, hb7⟩
    have HF7 := Lib.hid (HF6.out.next hb7)
    clear hb7 c0
    go_wp2_with fail
    go_ret
    exact ⟨rfl, HF7.out.bel⟩
  have hlen := HF0.out.tr.len
  have hn60 : n ≤ 1000 := by have := hv.le; omega
  obtain ⟨T, hT⟩ : ∃ T, T = eulF P n (n + 1) 0 := ⟨_, rfl⟩
  obtain ⟨t, ht⟩ : ∃ t, t = (eulF P n (n + 1) 0).length := ⟨_, rfl⟩
  have htc : t = 2 * n := by rw [ht]; exact eul_cnt hv hlen
  have HTL : Hid (T.length = t) := Lib.hid (by rw [hT, ht])
  have HEU := Lib.hid (fun W (hF : FL w w.heap.size A cap n P W) => euler_yes A cap n P W hF.tr.len hF.tr.cap' hF.tr.cm hF.tr.at' hv (by rw [← ht]; omega))
  have HRE := Lib.hid (fun W (hF : FL w w.heap.size A cap n P W) => refEuler_any A cap n t P W hF.tr hv ht)
  rw [← ht, ← hT] at HEU
  rw [← hT] at HRE
  have htl : t ≤ maxLen := by unfold maxLen; omega
  have HVV := Lib.hid (fun W (hF : FL w w.heap.size A cap n P W) => valid_any A cap n P W hF.tr true (by simp [hv]))
  have HRV := Lib.hid (fun W (hF : FL w w.heap.size A cap n P W) => refValid_any A cap n P W hF.tr true (by simp [hv]))
  have HTT := Lib.hid htl
  clear hT ht htc htl hlen
  by_cases hk : 0 ≤ k ∧ k < (n : Int)
  case neg =>
    have HPN := Lib.hid (fun W (hF : FL w w.heap.size A cap n P W) => path_no A cap n k P W hF.tr 24 (Or.inr rfl) (Or.inr ⟨hv, hk, rfl⟩))
    have HCN := Lib.hid (fun W (hF : FL w w.heap.size A cap n P W) => children_no A cap n k P W hF.tr 24 (Or.inr rfl) (Or.inr ⟨hv, hk, rfl⟩))
    have HIS := Lib.hid (fun W => refIs_no A cap n k W (by omega) hk)
    clear hv hk
    go_enter Try.func3, Try.ntmps3
    go_wp2_with fail
    refine HW.out.mono ?_
    rintro er w1 ⟨rfl, hb1⟩
    have HF1 := Lib.hid (HF0.out.next hb1)
    have c0 := HF1.out.cell
    clear hb1
    go_wp2_with fail
    refine (HMN.out _).mono ?_
    rintro er w2 ⟨rfl, hb2⟩
    have HF2 := Lib.hid (HF1.out.next hb2)
    clear hb2 c0
    have c0 := HF2.out.cell
    go_wp2_with fail
    refine (HPN.out _ HF2.out).mono ?_
    rintro er w3 ⟨rfl, hb3⟩
    have HF3 := Lib.hid (HF2.out.next hb3)
    clear hb3 c0
    have c0 := HF3.out.cell
    go_wp2_with fail
    refine (HCN.out _ HF3.out).mono ?_
    rintro er w4 ⟨rfl, hb4⟩
    have HF4 := Lib.hid (HF3.out.next hb4)
    clear hb4 c0
    have c0 := HF4.out.cell
    go_wp2_with fail
    refine (HEU.out _ HF4.out).mono ?_
    rintro er w5 ⟨⟨Ae, cpe, rfl, hre⟩, hb5⟩
    have HF5 := Lib.hid (HF4.out.next hb5)
    have HRE5 : Hid (ORow w4.heap.size w5 Ae cpe T) := Lib.hid (by unfold ORow; rw [HTL.out]; exact hre)
    clear hb5 c0 hre
    go_wp2_with fail
    have HS1 := Lib.hid (show w5.drew.cell? ⟨w.heap.size, 0, none⟩ = some (.slice A n cap) ∧ FB w w.heap.size A cap n P w5 w5.drew from ⟨(HF5.out.drewN 1).cell, HF5.out.drewN 1, bdN (Below.refl _ _) 1⟩)
    go_region_held3 (fun W => W.cell? ⟨w.heap.size, 0, none⟩ = some (.slice A n cap) ∧ FB w w.heap.size A cap n P w5 W)
      (first | exact HS1.out | assumption | (have hr := And.right (by assumption); exact ⟨(FB.next hr hbx).fl.cell, FB.next hr hbx⟩))
      (first
        | (go_at_call 14; refine (HVV.out _ (FB.fl (And.right (by assumption)))).mono ?_; rintro e wx ⟨rfl, hbx⟩)
        | (go_at_call 15; refine (HRV.out _ (FB.fl (And.right (by assumption)))).mono ?_; rintro e wx ⟨rfl, hbx⟩))
    have HFB6 : Hid (FB w w.heap.size A cap n P w5 wx) := Lib.hid (And.right (by assumption))
    obtain ⟨w6, hw6⟩ : ∃ w6, w6 = wx := ⟨_, rfl⟩
    rw [← hw6] at HFB6 ⊢
    have HF6 := Lib.hid HFB6.out.fl
    clear hw6
    have HRE6 := Lib.hid (HRE5.out.below HFB6.out.bl)
    have c0 := HF6.out.cell
    go_wp2_with fail
    refine (HRV.out _ HF6.out).mono ?_
    rintro er w7 ⟨rfl, hb7⟩
    have HF7 := Lib.hid (HF6.out.next hb7)
    have HRE7 := Lib.hid (HRE6.out.below hb7)
    clear hb7 c0
    have c0 := HF7.out.cell
    go_wp2_with fail
    refine (HRE.out _ HF7.out).mono ?_
    rintro er w8 ⟨⟨Af, cpf, rfl, hrf⟩, hb8⟩
    have HF8 := Lib.hid (HF7.out.next hb8)
    have HEQ0 := Lib.hid (rows_equal _ _ Ae Af cpe cpf t T w8 HTL.out HTT.out (HRE7.out.below hb8) hrf)
    clear hb8 c0 hrf
    go_wp2_with fail
    refine HEQ0.out.mono ?_
    rintro er w9 ⟨rfl, hb9⟩
    have HF9 := Lib.hid (HF8.out.next hb9)
    clear hb9
    have c0 := HF9.out.cell
    go_wp2_with fail
    refine (HIS.out _).mono ?_
    rintro er w10 ⟨rfl, hb10⟩
    have HF10 := Lib.hid (HF9.out.next hb10)
    clear hb10 c0
    go_wp2_with fail
    go_ret
    exact ⟨rfl, HF10.out.bel⟩
  obtain ⟨kn, rfl⟩ : ∃ kn : Nat, k = (kn : Int) := ⟨k.toNat, by omega⟩
  have hkn : kn < n := by omega
  have HIS := Lib.hid (fun W => refIs_any A cap n (kn : Int) W (by omega) true (by rw [decide_eq_true hk.1, decide_eq_true hk.2]; rfl))
  obtain ⟨l, hup⟩ : ∃ l, Up P kn l := by
    obtain ⟨Vs, h1, h2⟩ := vs_of_vp hv
    obtain ⟨l, h3, _⟩ := h1.up kn _ (List.getElem?_eq_getElem (by have := congrArg List.length h2; rw [parV_len] at this; have := HF0.out.tr.len; omega))
    exact ⟨l, h2 ▸ h3⟩
  have hll := hup.len hv
  obtain ⟨ln, hln⟩ : ∃ ln, ln = l.length := ⟨_, rfl⟩
  have HPY := Lib.hid (fun W (hF : FL w w.heap.size A cap n P W) => path_yes A cap n kn P l W hF.tr.len hF.tr.cap' hF.tr.cm hF.tr.at' hv hkn hup)
  have HRP := Lib.hid (fun W (hF : FL w w.heap.size A cap n P W) => refPath_any A cap n kn ln P l W hF.tr.len hn60 hF.tr.at' (by omega) hkn hup hln)
  rw [← hln] at HPY
  have HLR : Hid (l.reverse.length = ln) := Lib.hid (by rw [List.length_reverse, hln])
  obtain ⟨C, hC⟩ : ∃ C, C = chI P n kn := ⟨_, rfl⟩
  obtain ⟨cl, hcl⟩ : ∃ cl, cl = C.length := ⟨_, rfl⟩
  have HCY := Lib.hid (fun W (hF : FL w w.heap.size A cap n P W) => childrenOf_yes A cap n kn P W hF.tr hv hkn)
  have HRC := Lib.hid (fun W (hF : FL w w.heap.size A cap n P W) => refChildren_any A cap n kn P W hF.tr hv)
  rw [← hC, ← hcl] at HCY HRC
  have HLN : Hid (ln ≤ maxLen) := Lib.hid (by unfold maxLen; omega)
  have HCLN : Hid (cl ≤ maxLen) := Lib.hid (by rw [hcl, hC]; have := chI_len P n kn; unfold maxLen; omega)
  have HCL := Lib.hid hcl
  have hclb : cl ≤ 1000 := by rw [hcl, hC]; have := chI_len P n kn; omega
  have hlnb : ln ≤ 1001 := by omega
  clear hv hk hup hll hln hC hcl
  go_enter Try.func3, Try.ntmps3
  go_wp2_with fail
  refine HW.out.mono ?_
  rintro er w1 ⟨rfl, hb1⟩
  have HF1 := Lib.hid (HF0.out.next hb1)
  have c0 := HF1.out.cell
  clear hb1
  go_wp2_with fail
  refine (HMN.out _).mono ?_
  rintro er w2 ⟨rfl, hb2⟩
  have HF2 := Lib.hid (HF1.out.next hb2)
  clear hb2 c0
  have c0 := HF2.out.cell
  go_wp2_with fail
  refine (HPY.out _ HF2.out).mono ?_
  rintro er w3 ⟨⟨Ap, cpp, rfl, hrp⟩, hb3⟩
  have HF3 := Lib.hid (HF2.out.next hb3)
  have HRP3 : Hid (ORow w2.heap.size w3 Ap cpp l.reverse) := Lib.hid (by unfold ORow; rw [HLR.out]; exact hrp)
  clear hb3 c0 hrp
  have c0 := HF3.out.cell
  go_wp2_with fail
  refine (HCY.out _ HF3.out).mono ?_
  rintro er w4 ⟨⟨Ac, cpc, rfl, hrc⟩, hb4⟩
  have HF4 := Lib.hid (HF3.out.next hb4)
  have HRP4 := Lib.hid (HRP3.out.below hb4)
  have HRC4 := Lib.hid hrc
  clear hb4 c0 hrc
  have c0 := HF4.out.cell
  go_wp2_with fail
  refine (HEU.out _ HF4.out).mono ?_
  rintro er w5 ⟨⟨Ae, cpe, rfl, hre⟩, hb5⟩
  have HF5 := Lib.hid (HF4.out.next hb5)
  have HRE5 : Hid (ORow w4.heap.size w5 Ae cpe T) := Lib.hid (by unfold ORow; rw [HTL.out]; exact hre)
  have HRP5 := Lib.hid (HRP4.out.below hb5)
  have HRC5 := Lib.hid (HRC4.out.below hb5)
  clear hb5 c0 hre
  go_wp2_with fail
  have HS1 := Lib.hid (show w5.drew.cell? ⟨w.heap.size, 0, none⟩ = some (.slice A n cap) ∧ FB w w.heap.size A cap n P w5 w5.drew from ⟨(HF5.out.drewN 1).cell, HF5.out.drewN 1, bdN (Below.refl _ _) 1⟩)
  go_region_held3 (fun W => W.cell? ⟨w.heap.size, 0, none⟩ = some (.slice A n cap) ∧ FB w w.heap.size A cap n P w5 W)
    (first | exact HS1.out | assumption | (have hr := And.right (by assumption); exact ⟨(FB.next hr hbx).fl.cell, FB.next hr hbx⟩))
    (first
      | (go_at_call 14; refine (HVV.out _ (FB.fl (And.right (by assumption)))).mono ?_; rintro e wx ⟨rfl, hbx⟩)
      | (go_at_call 15; refine (HRV.out _ (FB.fl (And.right (by assumption)))).mono ?_; rintro e wx ⟨rfl, hbx⟩))
  have HFB6 : Hid (FB w w.heap.size A cap n P w5 wx) := Lib.hid (And.right (by assumption))
  obtain ⟨w6, hw6⟩ : ∃ w6, w6 = wx := ⟨_, rfl⟩
  rw [← hw6] at HFB6 ⊢
  have HF6 := Lib.hid HFB6.out.fl
  clear hw6
  have HRE6 := Lib.hid (HRE5.out.below HFB6.out.bl)
  have HRP6 := Lib.hid (HRP5.out.below HFB6.out.bl)
  have HRC6 := Lib.hid (HRC5.out.below HFB6.out.bl)
  have c0 := HF6.out.cell
  go_wp2_with fail
  refine (HRV.out _ HF6.out).mono ?_
  rintro er w7 ⟨rfl, hb7⟩
  have HF7 := Lib.hid (HF6.out.next hb7)
  have HRE7 := Lib.hid (HRE6.out.below hb7)
  have HRP7 := Lib.hid (HRP6.out.below hb7)
  have HRC7 := Lib.hid (HRC6.out.below hb7)
  clear hb7 c0
  have c0 := HF7.out.cell
  go_wp2_with fail
  refine (HRE.out _ HF7.out).mono ?_
  rintro er w8 ⟨⟨Af, cpf, rfl, hrf⟩, hb8⟩
  have HF8 := Lib.hid (HF7.out.next hb8)
  have HEQ0 := Lib.hid (rows_equal _ _ Ae Af cpe cpf t T w8 HTL.out HTT.out (HRE7.out.below hb8) hrf)
  have HRP8 := Lib.hid (HRP7.out.below hb8)
  have HRC8 := Lib.hid (HRC7.out.below hb8)
  clear hb8 c0 hrf
  go_wp2_with fail
  refine HEQ0.out.mono ?_
  rintro er w9 ⟨rfl, hb9⟩
  have HF9 := Lib.hid (HF8.out.next hb9)
  have HRP9 := Lib.hid (HRP8.out.below hb9)
  have HRC9 := Lib.hid (HRC8.out.below hb9)
  clear hb9
  have c0 := HF9.out.cell
  go_wp2_with fail
  refine (HIS.out _).mono ?_
  rintro er w10 ⟨rfl, hb10⟩
  have HF10 := Lib.hid (HF9.out.next hb10)
  have HRPa := Lib.hid (HRP9.out.below hb10)
  have HRCa := Lib.hid (HRC9.out.below hb10)
  clear hb10 c0
  have c0 := HF10.out.cell
  go_wp2_with fail
  refine (HRP.out _ HF10.out).mono ?_
  rintro er w11 ⟨⟨Aq, cq, rfl, hrq⟩, hb11⟩
  have HF11 := Lib.hid (HF10.out.next hb11)
  have HRPb := Lib.hid (HRPa.out.below hb11)
  have HRCb := Lib.hid (HRCa.out.below hb11)
  have HEQ1 := Lib.hid (rows_equal _ _ Ap Aq cpp cq ln l.reverse w11 HLR.out HLN.out HRPb.out hrq)
  clear hb11 c0 hrq
  have c0 := HF11.out.cell
  go_wp2_with fail
  refine HEQ1.out.mono ?_
  rintro er w12 ⟨rfl, hb12⟩
  have HF12 := Lib.hid (HF11.out.next hb12)
  have HRCc := Lib.hid (HRCb.out.below hb12)
  clear hb12 c0
  have c0 := HF12.out.cell
  go_wp2_with fail
  refine (HRC.out _ HF12.out).mono ?_
  rintro er w13 ⟨⟨Ad, cd, rfl, hrd⟩, hb13⟩
  have HF13 := Lib.hid (HF12.out.next hb13)
  have HEQ2 := Lib.hid (rows_equal _ _ Ac Ad cpc cd cl C w13 HCL.out.symm HCLN.out (HRCc.out.below hb13) hrd)
  clear hb13 c0 hrd
  go_wp2_with fail
  refine HEQ2.out.mono ?_
  rintro er w14 ⟨rfl, hb14⟩
  have HF14 := Lib.hid (HF13.out.next hb14)
  clear hb14
  go_wp2_with fail
  go_ret
  exact ⟨rfl, HF14.out.bel⟩
end Go.Proofs.Ythnlcbeibhhjpaa
