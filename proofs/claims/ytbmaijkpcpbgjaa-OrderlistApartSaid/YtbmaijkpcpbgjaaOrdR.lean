/- The reference of layer 28: At. -/
import Derived.Test.YtbmaijkpcpbgjaaApp
import Derived.Test.YtbmaijkpcpbgjaaOrdQ
namespace Go.Proofs.Ytbmaijkpcpbgjaa
open Go.RowKit
set_option maxRecDepth 100000
/-- The first index of a number; -1 if there is none. -/
def atI (L : List Int) (x : Int) : Int := match L.findIdx? (· == x) with | some i => (i : Int) | none => -1
theorem atI_hit {L : List Int} {x : Int} {k : Nat} (h : L[k]? = some x) (hno : ∀ (i : Nat) (u : Int), i < k → L[i]? = some u → (u == x) = false) : atI L x = k := by
  unfold atI
  rw [List.findIdx?_eq_some_iff_getElem.2 ⟨(List.getElem?_eq_some_iff.1 h).1, by simp [(List.getElem?_eq_some_iff.1 h).2], fun j hj => by
    have := hno j _ hj (List.getElem?_eq_getElem (by have := (List.getElem?_eq_some_iff.1 h).1; omega))
    simpa using this⟩]
theorem atI_none {L : List Int} {x : Int} (hno : ∀ (i : Nat) (u : Int), i < L.length → L[i]? = some u → (u == x) = false) : atI L x = -1 := by
  unfold atI
  rw [List.findIdx?_eq_none_iff.2 fun y hy => by
    obtain ⟨i, hi, rfl⟩ := List.mem_iff_getElem.1 hy
    exact hno i _ hi (List.getElem?_eq_getElem hi)]
/-- A list of numbers in memory that a call made, or nil. -/
def ORow (B : Nat) (w : World) (A : Option Addr) (cap : Nat) (L : List Int) : Prop := w.ownsRow B 3 1 (.slice A L.length cap) L.length (L.map (Value.int .i64))
theorem ORow.get {B : Nat} {w : World} {A : Option Addr} {cap : Nat} {L : List Int} (h : ORow B w A cap L) {k : Nat} {x : Int} (hk : L[k]? = some x) : ∃ g, A = some ⟨g, 0, none⟩ ∧ B ≤ g ∧ g < w.heap.size ∧ w.cell? ⟨g, k, none⟩ = some (.int .i64 x) := by
  have hl := (List.getElem?_eq_some_iff.1 hk).1
  obtain ⟨g, cap', hv, hg, hlt⟩ := World.ownsRow.form h (by omega)
  have hA : A = some ⟨g, 0, none⟩ := by injection hv
  subst hA
  refine ⟨g, rfl, hg, hlt, ?_⟩
  rw [World.ownsRow.cellAt h k (by omega), List.getElem?_map, hk]
  rfl
theorem ORow.below {B : Nat} {w w' : World} {A : Option Addr} {cap : Nat} {L : List Int} (h : ORow B w A cap L) (hb : Below w.heap.size w w') : ORow B w' A cap L :=
  ownsRow_heap h fun b hx => hb.block b (World.ownsRow.lt h b hx).2
theorem ORow.kp {B : Nat} {w w' : World} {A : Option Addr} {cap : Nat} {L : List Int} (h : ORow B w A cap L) (hk : Kp w w') : ORow B w' A cap L := by
  refine ⟨h.1, ?_⟩
  rcases h.2 with hn | ⟨g, cp, cur, hv, h1, hgg, rest⟩
  · exact .inl hn
  · exact .inr ⟨g, cp, cur, hv, h1, hk g _ _ _ hgg (by decide), rest⟩
theorem ORow.nil (B : Nat) (w : World) : ORow B w none 0 [] := World.ownsRow_nil _ _ _ _
theorem ORow.more {B B' : Nat} {w : World} {A : Option Addr} {cap : Nat} {L : List Int} (h : ORow B w A cap L) (hb : B' ≤ B) : ORow B' w A cap L := by
  refine ⟨h.1, ?_⟩
  rcases h.2 with hn | ⟨g, cp, cur, hv, h1, rest⟩
  · exact .inl hn
  · exact .inr ⟨g, cp, cur, hv, by omega, rest⟩
theorem ORow.len {B : Nat} {w : World} {A : Option Addr} {cap : Nat} {L : List Int} (h : ORow B w A cap L) : (A = none → L.length = 0 ∧ cap = 0) ∧ L.length ≤ cap ∧ cap ≤ maxLen := by
  rcases h.2 with ⟨hv, h0⟩ | ⟨g, cp, cur, hv, h1, _, h2, h3, _⟩
  · injection hv with h1 h2 h3
    exact ⟨fun _ => ⟨h0, h3⟩, by omega, by rw [h3]; unfold maxLen; omega⟩
  · injection hv with h1 h2 h4
    exact ⟨fun hn => (by rw [hn] at h1; cases h1), by omega, by omega⟩
set_option maxHeartbeats 2000000 in
theorem refAt_any (B : Nat) (A : Option Addr) (cap n made : Nat) (L : List Int) (x : Int) (w : World) (hn : L.length = n) (h : ORow B w A cap L) :
    Calls Try.prog 13 #[.agg #[.slice A n cap, .int .i64 made], .int .i64 x] w fun e w' => e = .returned (.int .i64 (atI L x)) ∧ w' = w.alloc (.cells #[.slice A n cap, .int .i64 made] 27) := by
  have hcm := h.len.2
  unfold maxLen at hcm
  rw [hn] at hcm
  have H1 := Lib.hid h
  have HN := Lib.hid hn
  clear h hn
  go_enter Try.func13, Try.ntmps13
  go_wp2_with fail
  go_loop [5] (fun i => ∃ k : Nat, k ≤ n ∧ i = .int .i64 k ∧ (∀ (i : Nat) (u : Int), i < k → L[i]? = some u → (u == x) = false)) (fun i => n - (intOf i).toNat)
  case atStart => exact ⟨0, by omega, rfl, fun i t hi => absurd hi (by omega)⟩
  case round =>
    obtain ⟨k, hk, rfl, hno⟩ := hrel
    have HNO := Lib.hid hno
    clear hno
    by_cases hlt : k < n
    · have hltI : (k : Int) < (n : Int) := by omega
      obtain ⟨t, ht⟩ : ∃ t, L[k]? = some t := ⟨L[k]'(by rw [HN.out]; exact hlt), List.getElem?_eq_getElem _⟩
      obtain ⟨g, hA, hgB, hgl, y0⟩ := H1.out.get ht
      subst hA
      have hne : g ≠ w.heap.size := by omega
      have HT := Lib.hid ht
      clear ht
      by_cases he : t = x
      · have hb : (t == x) = true := by simp [he]
        have HE := Lib.hid (atI_hit (he ▸ HT.out) HNO.out)
        clear he
        go_wp2_with fail
        go_ret
        exact ⟨retI HE.out.symm, rfl⟩
      · have hb : (t == x) = false := by simp [he]
        have HB := Lib.hid hb
        clear he
        go_wp2_with fail
        go_round
        case rel => exact ⟨k + 1, by omega, by go_num, any_snoc' L k t HT.out HB.out HNO.out⟩
        case measure => simp [intOf]; omega
    · have hkL : k = n := by omega
      have HE := Lib.hid (atI_none (L := L) (x := x) (by rw [HN.out, ← hkL]; exact HNO.out))
      clear hkL
      go_wp2_with fail
      go_ret
      exact ⟨retI HE.out.symm, rfl⟩
end Go.Proofs.Ytbmaijkpcpbgjaa
