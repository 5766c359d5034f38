/- The reference's Count, inorder, preorder, emde. -/
import Derived.Test.YtmlgbmfjnbhamaaTlC
namespace Go.Proofs.Ytmlgbmfjnbhamaa
open Go.RowKit
set_option maxRecDepth 100000
set_option maxHeartbeats 1000000 in
theorem count_any (h n : Nat) (w : World) (hh : h ≤ 30) (hn : n = 2 ^ h - 1) : Calls Try.prog 14 #[.int .i64 (h : Int)] w fun e w' => e = .returned (.int .i64 n) ∧ w = w' := by
  have HN := Lib.hid hn
  clear hn
  go_enter Try.func14, Try.ntmps14
  go_wp2_with fail
  go_loop [3, 4] (fun s3 s4 => ∃ i p : Nat, i ≤ h ∧ p = 2 ^ i ∧ s3 = .int .i64 p ∧ s4 = .int .i64 i) (fun _ s4 => h - (intOf s4).toNat)
  case atStart => exact ⟨0, 1, by omega, rfl, rfl, rfl⟩
  case round =>
    obtain ⟨i, p, hi, hp, rfl, rfl⟩ := hrel
    have HP := Lib.hid hp
    have hpl : p ≤ 1073741824 := by rw [hp]; exact Nat.le_trans (Nat.pow_le_pow_right (by omega) (show i ≤ 30 by omega)) (by decide)
    have hp1 : 1 ≤ p := by rw [hp]; exact Nat.one_le_two_pow
    clear hp
    by_cases hlt : i < h
    · have hltI : (i : Int) < (h : Int) := by omega
      obtain ⟨p2, hp2⟩ : ∃ p2 : Nat, p2 = p * 2 := ⟨_, rfl⟩
      have hpI : (p : Int) * 2 = (p2 : Int) := by omega
      have HP2 := Lib.hid hp2
      clear hp2
      go_wp2_with fail
      go_round
      case rel => exact ⟨i + 1, p2, by omega, by rw [HP2.out, HP.out, Nat.pow_succ], rfl, by go_num⟩
      case measure => simp [intOf]; omega
    · obtain rfl : i = h := by omega
      have hpn : (p : Int) - 1 = (n : Int) := by have := HN.out; have := HP.out; omega
      go_wp2_with fail
      go_ret
      exact ⟨rfl, rfl⟩
/-- A layout of the call's own, as far as its nodes have come. -/
structure LayS (w0 : World) (B g n : Nat) (S : List Nat) (W : World) : Prop where
  row : W.ownsRow B 3 1 (.slice (some ⟨g, 0, none⟩) n n) n ((layF n S).map (Value.int .i64))
  bel : Below B w0 W
theorem LayS.set {w0 : World} {B g n v : Nat} {S : List Nat} {W : World} (h : LayS w0 B g n S W) : LayS w0 B g n (S ++ [v]) (W.setCell ⟨g, v, none⟩ (.int .i64 (S.length : Int))) := by
  have hst := (h.row.stored v (.int .i64 (S.length : Int))).1
  rw [← List.map_set, ← layF_snoc] at hst
  exact ⟨hst, h.bel.setCell (p := ⟨g, v, none⟩) (h.row.lt g rfl).1 _⟩
theorem LayS.at' {w0 : World} {B g n v : Nat} {S : List Nat} {W : World} (h : LayS w0 B g n S W) (hv : v < n) : ∃ y, W.cell? ⟨g, v, none⟩ = some (.int .i64 y) ∧ W.frozen? ⟨g, v, none⟩ = false := by
  obtain ⟨y, hy⟩ : ∃ y, (layF n S)[v]? = some y := ⟨(layF n S)[v]'(by rw [layF_len]; exact hv), List.getElem?_eq_getElem _⟩
  exact ⟨y, (h.row.cellAt v (by omega)).trans (by rw [List.getElem?_map, hy]; rfl), h.row.frozenAt v⟩
/-- What a walk of the reference leaves. -/
def LayQ (w0 : World) (B g n : Nat) (S : List Nat) (er : Ending) (w' : World) : Prop := er = .returned (.int .i64 (S.length : Int)) ∧ LayS w0 B g n S w'
theorem pow_two_mul (v f : Nat) : (2 * v + 1 + 1) * 2 ^ f = (v + 1) * (2 ^ f * 2) := by rw [show 2 * v + 1 + 1 = (v + 1) * 2 by omega, Nat.mul_assoc, Nat.mul_comm 2]
set_option maxHeartbeats 8000000 in
theorem inorder_any (w0 : World) (B g n : Nat) (hn : n ≤ 100000) : ∀ (f v s : Nat) (S : List Nat) (W : World), n + 1 ≤ (v + 1) * 2 ^ f → v ≤ 300000 → LayS w0 B g n S W → S.length = s → s + (ordW n 2 f v).length ≤ 100000 →
    Calls Try.prog 39 #[.slice (some ⟨g, 0, none⟩) n n, .int .i64 (v : Int), .int .i64 (s : Int)] W (LayQ w0 B g n (S ++ ordW n 2 f v)) := fun f => by
  induction f with
  | zero =>
    intro v s S W hf hvl h hs hS
    have d1 : decide ((n : Int) ≤ (v : Int)) = true := decide_eq_true (by omega)
    have d1' : decide (n ≤ v) = true := decide_eq_true (by omega)
    have H := Lib.hid h
    have HS := Lib.hid hs
    clear hf h hs
    go_enter Try.func39, Try.ntmps39
    go_wp2_with fail
    go_ret
    exact ⟨by rw [show ordW n 2 0 v = [] from rfl, List.append_nil, HS.out]; rfl, by rw [show ordW n 2 0 v = [] from rfl, List.append_nil]; exact H.out⟩
  | succ f ih =>
    intro v s S W hf hvl h hs hS
    by_cases hnv : n ≤ v
    · have d1 : decide ((n : Int) ≤ (v : Int)) = true := decide_eq_true (by omega)
      have d1' : decide (n ≤ v) = true := decide_eq_true (by omega)
      have H := Lib.hid h
      have HS := Lib.hid hs
      have HO : Hid (ordW n 2 (f + 1) v = []) := Lib.hid (ordW_out hnv)
      clear hf h hs hS
      go_enter Try.func39, Try.ntmps39
      go_wp2_with fail
      go_ret
      exact ⟨by rw [HO.out, List.append_nil, HS.out]; rfl, by rw [HO.out, List.append_nil]; exact H.out⟩
    · have d1 : decide ((n : Int) ≤ (v : Int)) = false := decide_eq_false (by omega)
      have d1' : decide (n ≤ v) = false := decide_eq_false hnv
      have hvn : v < n := by omega
      rw [Nat.pow_succ] at hf
      have hf1 : n + 1 ≤ (2 * v + 1 + 1) * 2 ^ f := by rw [pow_two_mul]; exact hf
      have hf2 : n + 1 ≤ (2 * v + 2 + 1) * 2 ^ f := by
        have : (2 * v + 1 + 1) * 2 ^ f ≤ (2 * v + 2 + 1) * 2 ^ f := Nat.mul_le_mul_right _ (by omega)
        omega
      have hord : ordW n 2 (f + 1) v = (if 2 = 3 then [v] else []) ++ ordW n 2 f (2 * v + 1) ++ (if 2 = 2 then [v] else []) ++ ordW n 2 f (2 * v + 2) := by
        show (if n ≤ v then [] else _) = _
        rw [if_neg hnv]
      obtain ⟨L1, hL1⟩ : ∃ L1, L1 = ordW n 2 f (2 * v + 1) := ⟨_, rfl⟩
      obtain ⟨L2, hL2⟩ : ∃ L2, L2 = ordW n 2 f (2 * v + 2) := ⟨_, rfl⟩
      obtain ⟨a, ha⟩ : ∃ a : Nat, a = 2 * v + 1 := ⟨_, rfl⟩
      obtain ⟨b, hb⟩ : ∃ b : Nat, b = 2 * v + 2 := ⟨_, rfl⟩
      have haI : (2 : Int) * (v : Int) + 1 = (a : Int) := by omega
      have hbI : (2 : Int) * (v : Int) + 2 = (b : Int) := by omega
      rw [← ha] at hf1 hL1
      rw [← hb] at hf2 hL2
      rw [← ha, ← hb, ← hL1, ← hL2, if_neg (by decide), if_pos rfl, List.nil_append] at hord
      have HC1 := Lib.hid (fun s S W h hs hS => ih a s S W hf1 (by omega) h hs hS)
      have HC2 := Lib.hid (fun s S W h hs hS => ih b s S W hf2 (by omega) h hs hS)
      rw [← hL1] at HC1
      rw [← hL2] at HC2
      have hvl2 : v ≤ 100000 := by omega
      have hv0 : (0 : Int) ≤ (v : Int) := by omega
      have hvI : (v : Int) < (n : Int) := by omega
      have HORD := Lib.hid hord
      rw [hord] at hS
      simp only [List.length_append, List.length_singleton] at hS
      have HS := Lib.hid hs
      have HSL := Lib.hid hS
      have HX := Lib.hid (HC1.out s S W h hs (by omega))
      clear hf hf1 hf2 hord hL1 hL2 ha hb h hs hS ih hnv
      go_enter Try.func39, Try.ntmps39
      go_wp2_with fail
      refine HX.out.mono ?_
      rintro er w1 ⟨rfl, h1⟩
      obtain ⟨s1, hs1⟩ : ∃ s1, s1 = (S ++ L1).length := ⟨_, rfl⟩
      rw [← hs1]
      have hs1l : s1 ≤ 100000 := by rw [hs1, List.length_append]; have := HS.out; have := HSL.out; omega
      obtain ⟨y, y0, f0⟩ := h1.at' hvn
      have h2 := h1.set (v := v)
      rw [← hs1] at h2
      obtain ⟨s2, hs2⟩ : ∃ s2 : Nat, s2 = s1 + 1 := ⟨_, rfl⟩
      have hs2I : (s1 : Int) + 1 = (s2 : Int) := by omega
      have HY := Lib.hid (HC2.out s2 (S ++ L1 ++ [v]) _ h2 (by rw [List.length_append, ← hs1, hs2]; rfl) (by rw [hs2, hs1, List.length_append]; have := HS.out; have := HSL.out; omega))
      clear h1 h2 hs1 hs2
      go_wp2_with fail
      refine HY.out.mono ?_
      rintro er w3 ⟨rfl, h3⟩
      have HZ := Lib.hid h3
      clear h3
      go_wp2_with fail
      go_ret
      exact ⟨by rw [HORD.out]; simp [List.length_append]; try omega, by rw [HORD.out]; simpa [List.append_assoc] using HZ.out⟩
set_option maxHeartbeats 8000000 in
theorem preorder_any (w0 : World) (B g n : Nat) (hn : n ≤ 100000) : ∀ (f v s : Nat) (S : List Nat) (W : World), n + 1 ≤ (v + 1) * 2 ^ f → v ≤ 300000 → LayS w0 B g n S W → S.length = s → s + (ordW n 3 f v).length ≤ 100000 →
    Calls Try.prog 40 #[.slice (some ⟨g, 0, none⟩) n n, .int .i64 (v : Int), .int .i64 (s : Int)] W (LayQ w0 B g n (S ++ ordW n 3 f v)) := fun f => by
  induction f with
  | zero =>
    intro v s S W hf hvl h hs hS
    have d1 : decide ((n : Int) ≤ (v : Int)) = true := decide_eq_true (by omega)
    have d1' : decide (n ≤ v) = true := decide_eq_true (by omega)
    have H := Lib.hid h
    have HS := Lib.hid hs
    clear hf h hs
    go_enter Try.func40, Try.ntmps40
    go_wp2_with fail
    go_ret
    exact ⟨by rw [show ordW n 3 0 v = [] from rfl, List.append_nil, HS.out]; rfl, by rw [show ordW n 3 0 v = [] from rfl, List.append_nil]; exact H.out⟩
  | succ f ih =>
    intro v s S W hf hvl h hs hS
    by_cases hnv : n ≤ v
    · have d1 : decide ((n : Int) ≤ (v : Int)) = true := decide_eq_true (by omega)
      have d1' : decide (n ≤ v) = true := decide_eq_true (by omega)
      have H := Lib.hid h
      have HS := Lib.hid hs
      have HO : Hid (ordW n 3 (f + 1) v = []) := Lib.hid (ordW_out hnv)
      clear hf h hs hS
      go_enter Try.func40, Try.ntmps40
      go_wp2_with fail
      go_ret
      exact ⟨by rw [HO.out, List.append_nil, HS.out]; rfl, by rw [HO.out, List.append_nil]; exact H.out⟩
    · have d1 : decide ((n : Int) ≤ (v : Int)) = false := decide_eq_false (by omega)
      have d1' : decide (n ≤ v) = false := decide_eq_false hnv
      have hvn : v < n := by omega
      rw [Nat.pow_succ] at hf
      have hf1 : n + 1 ≤ (2 * v + 1 + 1) * 2 ^ f := by rw [pow_two_mul]; exact hf
      have hf2 : n + 1 ≤ (2 * v + 2 + 1) * 2 ^ f := by
        have : (2 * v + 1 + 1) * 2 ^ f ≤ (2 * v + 2 + 1) * 2 ^ f := Nat.mul_le_mul_right _ (by omega)
        omega
      have hord : ordW n 3 (f + 1) v = (if 3 = 3 then [v] else []) ++ ordW n 3 f (2 * v + 1) ++ (if 3 = 2 then [v] else []) ++ ordW n 3 f (2 * v + 2) := by
        show (if n ≤ v then [] else _) = _
        rw [if_neg hnv]
      obtain ⟨L1, hL1⟩ : ∃ L1, L1 = ordW n 3 f (2 * v + 1) := ⟨_, rfl⟩
      obtain ⟨L2, hL2⟩ : ∃ L2, L2 = ordW n 3 f (2 * v + 2) := ⟨_, rfl⟩
      obtain ⟨a, ha⟩ : ∃ a : Nat, a = 2 * v + 1 := ⟨_, rfl⟩
      obtain ⟨b, hb⟩ : ∃ b : Nat, b = 2 * v + 2 := ⟨_, rfl⟩
      have haI : (2 : Int) * (v : Int) + 1 = (a : Int) := by omega
      have hbI : (2 : Int) * (v : Int) + 2 = (b : Int) := by omega
      rw [← ha] at hf1 hL1
      rw [← hb] at hf2 hL2
      rw [← ha, ← hb, ← hL1, ← hL2, if_pos rfl, if_neg (by decide), List.append_nil] at hord
      have HC1 := Lib.hid (fun s S W h hs hS => ih a s S W hf1 (by omega) h hs hS)
      have HC2 := Lib.hid (fun s S W h hs hS => ih b s S W hf2 (by omega) h hs hS)
      rw [← hL1] at HC1
      rw [← hL2] at HC2
      have hvl2 : v ≤ 100000 := by omega
      have hv0 : (0 : Int) ≤ (v : Int) := by omega
      have hvI : (v : Int) < (n : Int) := by omega
      have HORD := Lib.hid hord
      rw [hord] at hS
      simp only [List.length_append, List.length_singleton] at hS
      have HS := Lib.hid hs
      have HSL := Lib.hid hS
      obtain ⟨y, y0, f0⟩ := h.at' hvn
      have h2 := h.set (v := v)
      rw [hs] at h2
      obtain ⟨s2, hs2⟩ : ∃ s2 : Nat, s2 = s + 1 := ⟨_, rfl⟩
      have hs2I : (s : Int) + 1 = (s2 : Int) := by omega
      have HX := Lib.hid (HC1.out s2 (S ++ [v]) _ h2 (by rw [List.length_append, hs, hs2]; rfl) (by omega))
      have HS2 := Lib.hid hs2
      have hsl : s ≤ 100000 := by omega
      clear hf hf1 hf2 hord hL1 hL2 ha hb h hs hS ih hnv h2 hs2
      go_enter Try.func40, Try.ntmps40
      go_wp2_with fail
      refine HX.out.mono ?_
      rintro er w1 ⟨rfl, h1⟩
      obtain ⟨s1, hs1⟩ : ∃ s1, s1 = (S ++ [v] ++ L1).length := ⟨_, rfl⟩
      rw [← hs1]
      have hs1l : s1 ≤ 100000 := by rw [hs1, List.length_append, List.length_append, List.length_singleton]; have := HS.out; have := HSL.out; omega
      have HY := Lib.hid (HC2.out s1 (S ++ [v] ++ L1) _ h1 hs1.symm (by rw [hs1, List.length_append, List.length_append, List.length_singleton]; have := HS.out; have := HSL.out; omega))
      clear h1 hs1
      go_wp2_with fail
      refine HY.out.mono ?_
      rintro er w3 ⟨rfl, h3⟩
      have HZ := Lib.hid h3
      clear h3
      go_wp2_with fail
      go_ret
      exact ⟨by rw [HORD.out]; simp [List.length_append]; try omega, by rw [HORD.out]; simpa [List.append_assoc] using HZ.out⟩
end Go.Proofs.Ytmlgbmfjnbhamaa
