/- Walks: the reference's Select, Next, Prev; slices.Equal on equal bools; number. -/
import Derived.Test.YtakaadoppijeaaaDoorBvV
namespace Go.Proofs.YtakaadoppijeaaaDoor
open Go.RowKit
set_option maxRecDepth 100000
theorem rkB_zero (l : List Bool) (b : Bool) : rkB l b 0 = 0 := by simp [rkB]
theorem rkB_hit {l : List Bool} {k : Nat} {b : Bool} (h : l[k]? = some b) : rkB l b (k + 1) = rkB l b k + 1 := by rw [rkB_next h]; simp
theorem rkB_miss {l : List Bool} {k : Nat} {x b : Bool} (h : l[k]? = some x) (hx : ¬ x = b) : rkB l b (k + 1) = rkB l b k := by rw [rkB_next h]; simp [hx]
/-- What a search returns. -/
def SelZ (l : List Bool) (b : Bool) (k : Nat) (z : Int) : Prop := (∃ i : Nat, z = i ∧ IsSel l b k i) ∨ (z = -1 ∧ rkB l b l.length ≤ k)
def GotZ (l : List Bool) (b : Bool) (k : Nat) (w : World) (e : Ending) (w' : World) : Prop := ∃ z : Int, e = .returned (.int .i64 z) ∧ SelZ l b k z ∧ w = w'
set_option maxHeartbeats 2000000 in
theorem refSelect_any (A : Option Addr) (cp k : Nat) (b : Bool) (L : List Bool) (P : Nat → Prop) (w : World) (hm : L.length ≤ 2000000) (hk : k ≤ 2000000) (hA : BitsAt P w A L) :
    Calls Tryd.prog 23 #[.slice A L.length cp, .bool b, .int .i64 k] w (GotZ L b k w) := by
  have HA := Lib.hid hA
  clear hA
  go_enter Tryd.func23, Tryd.ntmps23
  go_wp2_with fail
  go_loopw [2, 7] (fun u v wr => ∃ j t : Nat, j ≤ L.length ∧ v = .int .i64 j ∧ u = .int .i64 t ∧ t + rkB L b j = k ∧ w = wr) (fun _ v _ => L.length - (intOf v).toNat)
  case atStart => exact ⟨0, k, by omega, rfl, rfl, by rw [rkB_zero]; omega, rfl⟩
  case round =>
    obtain ⟨j, t, hj, rfl, rfl, ht, rfl⟩ := hrel
    have HT := Lib.hid ht
    have htk : t ≤ k := by omega
    clear ht
    by_cases hlt : j < L.length
    · obtain ⟨x, hx⟩ : ∃ x, L[j]? = some x := ⟨L[j]'(by omega), List.getElem?_eq_getElem _⟩
      obtain ⟨p, off, hAe, _, hc⟩ := HA.out (by omega)
      subst hAe
      have x0 := hc j x hx
      have hjI : (j : Int) < (L.length : Int) := by omega
      have HX := Lib.hid hx
      clear hc hx
      by_cases hxb : x = b
      · subst hxb
        have hbb : (x == x) = true := by simp
        by_cases ht0 : t = 0
        · subst ht0
          have HS : Hid (IsSel L x k j) := Lib.hid ⟨HX.out, by have := HT.out; omega⟩
          go_wp2_with fail
          go_ret
          exact ⟨(j : Int), rfl, Or.inl ⟨j, rfl, HS.out⟩, rfl⟩
        · have ht0b : ((t : Int) == 0) = false := by simp; omega
          obtain ⟨t', rfl⟩ : ∃ t', t = t' + 1 := ⟨t - 1, by omega⟩
          have HN : Hid (t' + rkB L x (j + 1) = k) := Lib.hid (by rw [rkB_hit HX.out]; have := HT.out; omega)
          go_wp2_with fail
          go_roundw
          case rel => exact ⟨j + 1, t', by omega, by go_num, by go_num, HN.out, by trivial⟩
          case measure => simp [intOf]; omega
      · have hbb : (x == b) = false := by simpa using hxb
        have HN : Hid (t + rkB L b (j + 1) = k) := Lib.hid (by rw [rkB_miss HX.out hxb]; exact HT.out)
        clear hxb
        go_wp2_with fail
        go_roundw
        case rel => exact ⟨j + 1, t, by omega, by go_num, rfl, HN.out, by trivial⟩
        case measure => simp [intOf]; omega
    · have hjl : j = L.length := by omega
      have HN : Hid (rkB L b L.length ≤ k) := Lib.hid (by rw [← hjl]; have := HT.out; omega)
      clear hjl
      go_wp2_with fail
      go_ret
      exact ⟨-1, rfl, Or.inr ⟨rfl, HN.out⟩, rfl⟩
set_option maxHeartbeats 2000000 in
theorem refNext_any (A : Option Addr) (cp i : Nat) (b : Bool) (L : List Bool) (P : Nat → Prop) (w : World) (hm : L.length ≤ 2000000) (hi : i ≤ L.length) (hA : BitsAt P w A L) :
    Calls Tryd.prog 26 #[.slice A L.length cp, .bool b, .int .i64 i] w (GotZ L b (rkB L b i) w) := by
  have HA := Lib.hid hA
  obtain ⟨r, hr⟩ : ∃ r, r = rkB L b i := ⟨_, rfl⟩
  rw [← hr]
  have HR := Lib.hid hr
  clear hA hr
  go_enter Tryd.func26, Tryd.ntmps26
  go_wp2_with fail
  go_loopw [2] (fun v wr => ∃ j : Nat, j ≤ L.length ∧ v = .int .i64 j ∧ rkB L b j = r ∧ w = wr) (fun v _ => L.length - (intOf v).toNat)
  case atStart => exact ⟨i, hi, rfl, HR.out.symm, rfl⟩
  case round =>
    obtain ⟨j, hj, rfl, ht, rfl⟩ := hrel
    have HT := Lib.hid ht
    clear ht
    by_cases hlt : j < L.length
    · obtain ⟨x, hx⟩ : ∃ x, L[j]? = some x := ⟨L[j]'(by omega), List.getElem?_eq_getElem _⟩
      obtain ⟨p, off, hAe, _, hc⟩ := HA.out (by omega)
      subst hAe
      have x0 := hc j x hx
      have hjI : (j : Int) < (L.length : Int) := by omega
      have HX := Lib.hid hx
      clear hc hx
      by_cases hxb : x = b
      · subst hxb
        have hbb : (x == x) = true := by simp
        have HS : Hid (IsSel L x r j) := Lib.hid ⟨HX.out, HT.out⟩
        go_wp2_with fail
        go_ret
        exact ⟨(j : Int), rfl, Or.inl ⟨j, rfl, HS.out⟩, rfl⟩
      · have hbb : (x == b) = false := by simpa using hxb
        have HN : Hid (rkB L b (j + 1) = r) := Lib.hid (by rw [rkB_miss HX.out hxb]; exact HT.out)
        clear hxb
        go_wp2_with fail
        go_roundw
        case rel => exact ⟨j + 1, by omega, by go_num, HN.out, by trivial⟩
        case measure => simp [intOf]; omega
    · have hjl : j = L.length := by omega
      have HN : Hid (rkB L b L.length ≤ r) := Lib.hid (by rw [← hjl]; exact Nat.le_of_eq HT.out)
      clear hjl
      go_wp2_with fail
      go_ret
      exact ⟨-1, rfl, Or.inr ⟨rfl, HN.out⟩, rfl⟩
/-- What a search backwards returns. -/
def PrevZ (l : List Bool) (b : Bool) (r : Nat) (z : Int) : Prop := (∃ j k : Nat, z = j ∧ r = k + 1 ∧ IsSel l b k j) ∨ (z = -1 ∧ r = 0)
def GotP (l : List Bool) (b : Bool) (r : Nat) (w : World) (e : Ending) (w' : World) : Prop := ∃ z : Int, e = .returned (.int .i64 z) ∧ PrevZ l b r z ∧ w = w'
set_option maxHeartbeats 2000000 in
theorem refPrev_any (A : Option Addr) (cp i : Nat) (b : Bool) (L : List Bool) (P : Nat → Prop) (w : World) (hm : L.length ≤ 2000000) (hi : i ≤ L.length) (hA : BitsAt P w A L) :
    Calls Tryd.prog 27 #[.slice A L.length cp, .bool b, .int .i64 i] w (GotP L b (rkB L b i) w) := by
  have HA := Lib.hid hA
  obtain ⟨r, hr⟩ : ∃ r, r = rkB L b i := ⟨_, rfl⟩
  rw [← hr]
  have HR := Lib.hid hr
  clear hA hr
  go_enter Tryd.func27, Tryd.ntmps27
  go_wp2_with fail
  go_loopw [2] (fun v wr => ∃ j : Nat, j ≤ L.length ∧ v = .int .i64 j ∧ rkB L b j = r ∧ w = wr) (fun v _ => (intOf v).toNat)
  case atStart => exact ⟨i, hi, rfl, HR.out.symm, rfl⟩
  case round =>
    obtain ⟨j0, hj, rfl, ht, rfl⟩ := hrel
    have HT := Lib.hid ht
    clear ht
    by_cases hlt : 0 < j0
    · obtain ⟨j, rfl⟩ : ∃ j, j0 = j + 1 := ⟨j0 - 1, by omega⟩
      obtain ⟨x, hx⟩ : ∃ x, L[j]? = some x := ⟨L[j]'(by omega), List.getElem?_eq_getElem _⟩
      obtain ⟨p, off, hAe, _, hc⟩ := HA.out (by omega)
      subst hAe
      have x0 := hc j x hx
      have hjI : (j : Int) < (L.length : Int) := by omega
      have HX := Lib.hid hx
      clear hc hx
      by_cases hxb : x = b
      · subst hxb
        have hbb : (x == x) = true := by simp
        have HS : Hid (IsSel L x (rkB L x j) j) := Lib.hid ⟨HX.out, rfl⟩
        have HE : Hid (r = rkB L x j + 1) := Lib.hid (by rw [← HT.out, rkB_hit HX.out])
        go_wp2_with fail
        go_ret
        exact ⟨(j : Int), rfl, Or.inl ⟨j, _, rfl, HE.out, HS.out⟩, rfl⟩
      · have hbb : (x == b) = false := by simpa using hxb
        have HN : Hid (rkB L b j = r) := Lib.hid (by rw [← HT.out, rkB_miss HX.out hxb])
        clear hxb
        go_wp2_with fail
        go_roundw
        case rel => exact ⟨j, by omega, by go_num, HN.out, by trivial⟩
        case measure => simp [intOf]
    · have hjl : j0 = 0 := by omega
      subst hjl
      have HN : Hid (r = 0) := Lib.hid (by rw [← HT.out, rkB_zero])
      go_wp2_with fail
      go_ret
      exact ⟨-1, rfl, Or.inr ⟨rfl, HN.out⟩, rfl⟩
set_option maxHeartbeats 2000000 in
theorem eqB_same (P Q : Nat → Prop) (A1 A2 : Option Addr) (c1 c2 : Nat) (L : List Bool) (w : World) (hm : L.length ≤ 2000000) (h1 : BitsAt P w A1 L) (h2 : BitsAt Q w A2 L) :
    Calls Tryd.prog 14 #[.slice A1 L.length c1, .slice A2 L.length c2] w fun e w' => e = .returned (.bool true) ∧ ∃ q, w' = w.drewN q := by
  have H1 := Lib.hid h1
  have H2 := Lib.hid h2
  clear h1 h2
  go_enter Tryd.func14, Tryd.ntmps14
  go_wp2_with fail
  go_loopw [13] (fun i wr => ∃ k q : Nat, k ≤ L.length ∧ i = .int .i64 k ∧ wr = w.drewN q) (fun i _ => L.length - (intOf i).toNat)
  case atStart => exact ⟨0, 0, by omega, rfl, rfl⟩
  case round =>
    obtain ⟨k, q, hkn, rfl, rfl⟩ := hrel
    by_cases hlt : k < L.length
    · obtain ⟨x, hx⟩ : ∃ x, L[k]? = some x := ⟨L[k]'hlt, List.getElem?_eq_getElem _⟩
      obtain ⟨b, off, hA, _, hc⟩ := H1.out (by omega)
      subst hA
      obtain ⟨b', off', hA', _, hc'⟩ := H2.out (by omega)
      subst hA'
      have x0 := hc k x hx
      have y0 := hc' k x hx
      have hkI : (k : Int) < (L.length : Int) := by omega
      have hb : (x == x) = true := by simp
      clear hc hc' hx
      go_wp2_with fail
      go_quiet (fail)
      go_wp2_with fail
      go_roundw
      case rel => exact ⟨k + 1, _, by omega, by go_num, rfl⟩
      case measure => simp [intOf]; omega
    · go_wp2_with fail
      go_ret
      exact ⟨rfl, _, rfl⟩
end Go.Proofs.YtakaadoppijeaaaDoor
