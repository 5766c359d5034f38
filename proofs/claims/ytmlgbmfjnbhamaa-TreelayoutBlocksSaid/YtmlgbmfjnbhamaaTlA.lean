/- Layouts: the closure put, walk. -/
import Derived.Test.YtmlgbmfjnbhamaaRowU
import Derived.Test.YtmlgbmfjnbhamaaTlS
namespace Go.Proofs.Ytmlgbmfjnbhamaa
open Go.RowKit
set_option maxRecDepth 100000
/-- What a layout's closure keeps: the list, how many nodes have come. -/
structure PutS (w0 : World) (lb nb g n : Nat) (S : List Nat) (W : World) : Prop where
  lbx : W.heap[lb]? = some (.cells #[.slice (some ⟨g, 0, none⟩) n n] 23 (0, 0))
  nbx : W.heap[nb]? = some (.cells #[.int .i64 (S.length : Int)] 3 (0, 0))
  row : W.ownsRow w0.heap.size 3 1 (.slice (some ⟨g, 0, none⟩) n n) n ((layF n S).map (Value.int .i64))
  bel : Below w0.heap.size w0 W
  hnb : w0.heap.size ≤ nb
  hne : nb ≠ g
abbrev putV (lb nb : Nat) : Value := .func (.func 35) #[] #[.pointer (some ⟨nb, 0, none⟩), .pointer (some ⟨lb, 0, none⟩)]
/-- What a visit leaves. -/
def PutP (w0 : World) (lb nb g n : Nat) (S : List Nat) (er : Ending) (w' : World) : Prop := er = .returned (.tuple #[]) ∧ PutS w0 lb nb g n S w'
set_option maxHeartbeats 2000000 in
theorem put_any (w0 : World) (lb nb g n v : Nat) (S : List Nat) (W : World) (h : PutS w0 lb nb g n S W) (hv : v < n) (hS : S.length ≤ 100000) :
    Calls Try.prog 35 #[.int .i64 (v : Int), .pointer (some ⟨nb, 0, none⟩), .pointer (some ⟨lb, 0, none⟩)] W (PutP w0 lb nb g n (S ++ [v])) := by
  have H := Lib.hid h
  obtain ⟨l0, lf⟩ := bk1 h.lbx
  obtain ⟨n0, nf⟩ := bk1 h.nbx
  obtain ⟨s, hs⟩ : ∃ s, S.length = s := ⟨_, rfl⟩
  rw [hs] at n0 hS
  have HS := Lib.hid hs
  have hll := layF_len n S
  obtain ⟨y, hy⟩ : ∃ y, (layF n S)[v]? = some y := ⟨(layF n S)[v]'(by omega), List.getElem?_eq_getElem _⟩
  have y0 : W.cell? ⟨g, v, none⟩ = some (.int .i64 y) := (h.row.cellAt v (by omega)).trans (by rw [List.getElem?_map, hy]; rfl)
  have f0 := h.row.frozenAt v
  have hvI : (v : Int) < (n : Int) := by omega
  have hv0 : (0 : Int) ≤ (v : Int) := by omega
  have hgl := (h.row.lt g rfl)
  have hne := h.hne
  have hne' : g ≠ nb := fun e => hne e.symm
  have hlg : lb ≠ g := fun e => by
    have h1 := h.lbx
    rcases h.row.2 with ⟨hv', _⟩ | ⟨g', cp, cur, hv', _, hh, _⟩
    · cases hv'
    · injection hv' with e1
      injection e1 with e2
      injection e2 with e3
      rw [e, e3, hh] at h1
      have := Option.some.inj h1
      injection this with _ h5
      exact absurd h5 (by decide)
  have hln : lb ≠ nb := fun e => by
    have h1 := h.lbx
    rw [e, h.nbx] at h1
    have := Option.some.inj h1
    injection this with _ h5
    exact absurd h5 (by decide)
  have hst := (h.row.stored v (.int .i64 (s : Int))).1
  rw [← List.map_set, show (layF n S).set v (s : Int) = layF n (S ++ [v]) by rw [layF_snoc, hs]] at hst
  have HST := Lib.hid hst
  have hgB : w0.heap.size ≤ g := hgl.1
  clear h hs hll hy hst hgl
  go_enter Try.func35, Try.ntmps35
  go_wp2_with fail
  go_end0
  refine ⟨rfl, ?_, ?_, ?_, ?_, H.out.hnb, H.out.hne⟩
  · exact (heap_off hln).trans ((heap_off hlg).trans H.out.lbx)
  · rw [heap_set _ nb 0 _ ((heap_off hne).trans H.out.nbx), List.length_append, HS.out]
    rfl
  · refine ownsRow_heap HST.out fun b hb => heap_off fun e => ?_
    have hbg : b = g := by simpa [Value.ownBlock] using hb.symm
    exact hne (e.symm.trans hbg)
  · exact (H.out.bel.setCell (p := ⟨g, v, none⟩) hgB _).setCell (p := ⟨nb, 0, none⟩) H.out.hnb _
set_option maxHeartbeats 8000000 in
theorem walk_any (w0 : World) (lb nb g n kind : Nat) (hk : kind = 2 ∨ kind = 3) (hn : n ≤ 100000) : ∀ (f v : Nat) (S : List Nat) (W : World), n + 1 ≤ (v + 1) * 2 ^ f → v ≤ 300000 → PutS w0 lb nb g n S W → S.length + (ordW n kind f v).length ≤ 100000 →
    Calls Try.prog 37 #[.int .i64 (v : Int), .int .i64 (n : Int), .int .i64 (kind : Int), putV lb nb] W (PutP w0 lb nb g n (S ++ ordW n kind f v)) := fun f => by
  induction f with
  | zero =>
    intro v S W hf hvl h hS
    have d1 : decide ((n : Int) ≤ (v : Int)) = true := decide_eq_true (by omega)
    have d1' : decide (n ≤ v) = true := decide_eq_true (by omega)
    have H := Lib.hid h
    clear hf h
    go_enter Try.func37, Try.ntmps37
    go_wp2_with fail
    go_end0
    exact ⟨rfl, by rw [show ordW n kind 0 v = [] from rfl, List.append_nil]; exact H.out⟩
  | succ f ih =>
    intro v S W hf hvl h hS
    by_cases hnv : n ≤ v
    · have d1 : decide ((n : Int) ≤ (v : Int)) = true := decide_eq_true (by omega)
      have d1' : decide (n ≤ v) = true := decide_eq_true (by omega)
      have H := Lib.hid h
      have HO : Hid (ordW n kind (f + 1) v = []) := Lib.hid (ordW_out hnv)
      clear hf h hS
      go_enter Try.func37, Try.ntmps37
      go_wp2_with fail
      go_end0
      exact ⟨rfl, by rw [HO.out, List.append_nil]; exact H.out⟩
    · have d1 : decide ((n : Int) ≤ (v : Int)) = false := decide_eq_false (by omega)
      have d1' : decide (n ≤ v) = false := decide_eq_false hnv
      have hvn : v < n := by omega
      rw [Nat.pow_succ] at hf
      have hf1 : n + 1 ≤ (2 * v + 1 + 1) * 2 ^ f := by rw [show (2 * v + 1 + 1) * 2 ^ f = (v + 1) * (2 ^ f * 2) by rw [show 2 * v + 1 + 1 = (v + 1) * 2 by omega, Nat.mul_assoc, Nat.mul_comm 2]]; exact hf
      have hf2 : n + 1 ≤ (2 * v + 2 + 1) * 2 ^ f := by
        have : (2 * v + 1 + 1) * 2 ^ f ≤ (2 * v + 2 + 1) * 2 ^ f := Nat.mul_le_mul_right _ (by omega)
        omega
      have hord : ordW n kind (f + 1) v = (if kind = 3 then [v] else []) ++ ordW n kind f (2 * v + 1) ++ (if kind = 2 then [v] else []) ++ ordW n kind f (2 * v + 2) := by
        show (if n ≤ v then [] else _) = _
        rw [if_neg hnv]
      obtain ⟨L1, hL1⟩ : ∃ L1, L1 = ordW n kind f (2 * v + 1) := ⟨_, rfl⟩
      obtain ⟨L2, hL2⟩ : ∃ L2, L2 = ordW n kind f (2 * v + 2) := ⟨_, rfl⟩
      obtain ⟨a, ha⟩ : ∃ a : Nat, a = 2 * v + 1 := ⟨_, rfl⟩
      obtain ⟨b, hb⟩ : ∃ b : Nat, b = 2 * v + 2 := ⟨_, rfl⟩
      have haI : (2 : Int) * (v : Int) + 1 = (a : Int) := by omega
      have hbI : (2 : Int) * (v : Int) + 2 = (b : Int) := by omega
      rw [← ha] at hf1 hL1
      rw [← hb] at hf2 hL2
      rw [← ha, ← hb, ← hL1, ← hL2] at hord
      have HC1 := Lib.hid (fun S W h hS => ih a S W hf1 (by omega) h hS)
      have HC2 := Lib.hid (fun S W h hS => ih b S W hf2 (by omega) h hS)
      rw [← hL1] at HC1
      rw [← hL2] at HC2
      have hvl2 : v ≤ 100000 := by omega
      rcases hk with rfl | rfl
      · rw [if_neg (by decide), if_pos rfl, List.nil_append] at hord
        have HORD := Lib.hid hord
        rw [hord] at hS
        simp only [List.length_append, List.length_singleton] at hS
        have HC1' := Lib.hid (HC1.out S W h (by omega))
        have HSL := Lib.hid hS
        clear hf hf1 hf2 hord hL1 hL2 ha hb h hS ih hnv
        go_enter Try.func37, Try.ntmps37
        go_wp2_with fail
        refine HC1'.out.mono ?_
        rintro er w1 ⟨rfl, h1⟩
        have HP := Lib.hid (put_any w0 lb nb g n v (S ++ L1) w1 h1 hvn (by rw [List.length_append]; have := HSL.out; omega))
        clear h1
        go_wp2_with fail
        refine HP.out.mono ?_
        rintro er w2 ⟨rfl, h2⟩
        have HC2' := Lib.hid (HC2.out (S ++ L1 ++ [v]) w2 h2 (by rw [List.length_append, List.length_append, List.length_singleton]; have := HSL.out; omega))
        clear h2
        go_wp2_with fail
        refine HC2'.out.mono ?_
        rintro er w3 ⟨rfl, h3⟩
        have H3 := Lib.hid h3
        clear h3
        go_wp2_with fail
        go_end0
        exact ⟨rfl, by rw [HORD.out]; simpa [List.append_assoc] using H3.out⟩
      · rw [if_pos rfl, if_neg (by decide), List.append_nil] at hord
        have HORD := Lib.hid hord
        rw [hord] at hS
        simp only [List.length_append, List.length_singleton] at hS
        have HP := Lib.hid (put_any w0 lb nb g n v S W h hvn (by omega))
        have HSL := Lib.hid hS
        clear hf hf1 hf2 hord hL1 hL2 ha hb h hS ih hnv
        go_enter Try.func37, Try.ntmps37
        go_wp2_with fail
        refine HP.out.mono ?_
        rintro er w1 ⟨rfl, h1⟩
        have HC1' := Lib.hid (HC1.out (S ++ [v]) w1 h1 (by rw [List.length_append, List.length_singleton]; have := HSL.out; omega))
        clear h1
        go_wp2_with fail
        refine HC1'.out.mono ?_
        rintro er w2 ⟨rfl, h2⟩
        have HC2' := Lib.hid (HC2.out (S ++ [v] ++ L1) w2 h2 (by rw [List.length_append, List.length_append, List.length_singleton]; have := HSL.out; omega))
        clear h2
        go_wp2_with fail
        refine HC2'.out.mono ?_
        rintro er w3 ⟨rfl, h3⟩
        have H3 := Lib.hid h3
        clear h3
        go_wp2_with fail
        go_end0
        exact ⟨rfl, by rw [HORD.out]; simpa [List.append_assoc] using H3.out⟩
end Go.Proofs.Ytmlgbmfjnbhamaa
