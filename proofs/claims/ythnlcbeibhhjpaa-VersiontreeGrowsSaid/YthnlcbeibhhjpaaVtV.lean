/- VersiontreeGrows: methods of nil; what grows keeps what was. -/
import Derived.Test.YthnlcbeibhhjpaaVtU
namespace Go.Proofs.Ythnlcbeibhhjpaa
open Go.RowKit
set_option maxRecDepth 100000
theorem check_nil (A : Option Addr) (n c : Nat) (w : World) : Calls Try.prog 40 #[.pointer none, .slice A n c] w fun e w' => e = .returned (.int .i64 1) ∧ w = w' := by
  go_enter Try.func40, Try.ntmps40
  go_wp2_with fail
  go_ret
  exact ⟨rfl, rfl⟩
theorem branch_nil (w : World) : Calls Try.prog 33 #[.pointer none, .int .i64 0] w fun e w' => e = .returned (.tuple #[.int .i64 0, .int .i64 1]) ∧ Below w.heap.size w w' := by
  have HC := Lib.hid (check_nil (some ⟨w.heap.size, 0, none⟩) 1 1 (w.alloc (.cells #[.int .i64 0] 3)))
  go_enter Try.func33, Try.ntmps33
  go_wp2_with fail
  refine HC.out.mono ?_
  rintro er w1 ⟨rfl, rfl⟩
  go_wp2_with fail
  go_ret2
  exact ⟨rfl, (Below.refl _ _).alloc (Nat.le_refl _) _⟩
theorem depth_nil (w : World) : Calls Try.prog 24 #[.pointer none, .int .i64 0] w fun e w' => e = .returned (.tuple #[.int .i64 0, .int .i64 1]) ∧ Below w.heap.size w w' := by
  have HC := Lib.hid (check_nil (some ⟨w.heap.size, 0, none⟩) 1 1 (w.alloc (.cells #[.int .i64 0] 3)))
  go_enter Try.func24, Try.ntmps24
  go_wp2_with fail
  refine HC.out.mono ?_
  rintro er w1 ⟨rfl, rfl⟩
  go_wp2_with fail
  go_ret2
  exact ⟨rfl, (Below.refl _ _).alloc (Nat.le_refl _) _⟩
theorem anc_nil (w : World) : Calls Try.prog 25 #[.pointer none, .int .i64 0, .int .i64 0] w fun e w' => e = .returned (.tuple #[.bool false, .int .i64 1]) ∧ Below w.heap.size w w' := by
  have HC := Lib.hid (check_nil (some ⟨w.heap.size, 0, none⟩) 2 2 (w.alloc (.cells #[.int .i64 0, .int .i64 0] 3)))
  go_enter Try.func25, Try.ntmps25
  go_wp2_with fail
  refine HC.out.mono ?_
  rintro er w1 ⟨rfl, rfl⟩
  go_wp2_with fail
  go_ret2
  exact ⟨rfl, (Below.refl _ _).alloc (Nat.le_refl _) _⟩
theorem common_nil (w : World) : Calls Try.prog 26 #[.pointer none, .int .i64 0, .int .i64 0] w fun e w' => e = .returned (.tuple #[.int .i64 0, .int .i64 1]) ∧ Below w.heap.size w w' := by
  have HC := Lib.hid (check_nil (some ⟨w.heap.size, 0, none⟩) 2 2 (w.alloc (.cells #[.int .i64 0, .int .i64 0] 3)))
  go_enter Try.func26, Try.ntmps26
  go_wp2_with fail
  refine HC.out.mono ?_
  rintro er w1 ⟨rfl, rfl⟩
  go_wp2_with fail
  go_ret2
  exact ⟨rfl, (Below.refl _ _).alloc (Nat.le_refl _) _⟩
theorem near_nil (w : World) : Calls Try.prog 29 #[.pointer none, .slice none 0 0, .int .i64 0] w fun e w' => e = .returned (.tuple #[.int .i64 0, .int .i64 1]) ∧ Below w.heap.size w w' := by
  go_enter Try.func29, Try.ntmps29
  go_wp2_with fail
  go_ret2
  exact ⟨rfl, Below.refl _ _⟩
theorem len_nil (w : World) : Calls Try.prog 22 #[.pointer none] w fun e w' => e = .returned (.int .i64 0) ∧ Below w.heap.size w w' := by
  go_enter Try.func22, Try.ntmps22
  go_wp2_with fail
  go_ret
  exact ⟨rfl, Below.refl _ _⟩
theorem tree_nil (w : World) : Calls Try.prog 23 #[.pointer none] w fun e w' => e = .returned (.agg #[.slice none 0 0]) ∧ Below w.heap.size w w' := by
  obtain ⟨c0, f0⟩ := bk1 (bdNew w (.cells #[.slice none 0 0] 24))
  go_enter Try.func23, Try.ntmps23
  go_wp2_with fail
  refine bodyPost_ret (v := .agg #[.slice none 0 0]) (by simp [results, Try.results23, go_sem, c0]) rfl ⟨rfl, ?_⟩
  exact (Below.refl _ _).alloc (Nat.le_refl _) _
/-- Versions that go on from others: what was is as it was. -/
structure ExtV (Vs Vs' : List Vn) : Prop where
  len : Vs.length ≤ Vs'.length
  at' : ∀ i, i < Vs.length → Vs'[i]? = Vs[i]?
  anc : ∀ a b, b < Vs.length → (AncV Vs' a b ↔ AncV Vs a b)
theorem ExtV.refl (Vs : List Vn) : ExtV Vs Vs := ⟨Nat.le_refl _, fun _ _ => rfl, fun _ _ _ => Iff.rfl⟩
theorem ExtV.push {Vs Vs' : List Vn} (h : ExtV Vs Vs') (hok : VsOk Vs') (v : Vn) : ExtV Vs (Vs' ++ [v]) := by
  have h1 := h.len
  refine ⟨by simp; omega, fun i hi => ?_, fun a b hb => ?_⟩
  · rw [List.getElem?_append_left (by omega)]; exact h.at' i hi
  · exact (anc_old hok (by omega)).trans (h.anc a b hb)
theorem ExtV.take {Vs Vs' : List Vn} (h : ExtV Vs Vs') : (parV Vs').take Vs.length = parV Vs := by
  refine List.ext_getElem? fun i => ?_
  rw [List.getElem?_take]
  by_cases hi : i < Vs.length
  · rw [if_pos hi]; unfold parV; rw [List.getElem?_map, List.getElem?_map, h.at' i hi]
  · rw [if_neg hi, List.getElem?_eq_none (by rw [parV_len]; omega)]
theorem ExtV.deep {Vs Vs' : List Vn} (h : ExtV Vs Vs') (hok : VsOk Vs) {a b c c' : Nat} (ha : a < Vs.length) (hb : b < Vs.length) (hc : DeepV Vs a b c) (hc' : DeepV Vs' a b c') : c' = c := by
  refine DeepV.one hok (a := a) (b := b) ⟨(h.anc _ _ ha).1 hc'.1, (h.anc _ _ hb).1 hc'.2.1, fun d h1 h2 => ?_⟩ hc
  have h3 := hc'.2.2 d ((h.anc _ _ ha).2 h1) ((h.anc _ _ hb).2 h2)
  have h4 : c' < Vs.length := by have := ((h.anc _ _ ha).1 hc'.1).le hok; omega
  exact (h.anc _ _ h4).1 h3
/-- An index that has gone on, and the tree that was, in its box. -/
structure G2 (w : World) (B x mb : Nat) (Vs Vs' : List Vn) (A : Option Addr) (cap m : Nat) (W : World) : Prop where
  ix : IxM (B + 1) x Vs' W
  ext : ExtV Vs Vs'
  row : ORow B W A cap (parV Vs)
  bx : W.heap[mb]? = some (.cells #[.slice A m cap] 24 (0, 0))
  bel : Below w.heap.size w W
theorem G2.next {w : World} {B x mb : Nat} {Vs Vs' : List Vn} {A : Option Addr} {cap m : Nat} {W W' : World} (h : G2 w B x mb Vs Vs' A cap m W) (hb : Below W.heap.size W W') : G2 w B x mb Vs Vs' A cap m W' :=
  ⟨h.ix.below hb, h.ext, h.row.below hb, bdAt h.bx hb, h.bel.trans (hb.mono h.bel.size)⟩
theorem QL.g2 {w : World} {B x mb : Nat} {Vs : List Vn} {A : Option Addr} {cap m : Nat} {W : World} (h : QL w B x mb Vs A cap m W) : G2 w B x mb Vs Vs A cap m W := ⟨h.ix, ExtV.refl _, h.row, h.bx, h.bel⟩
/-- One more branch, whatever its parent: the index goes on. -/
theorem g2_branch {w : World} {B x mb m' : Nat} {Vs Vs' : List Vn} {A : Option Addr} {cap m : Nat} {W : World} (h : G2 w B x mb Vs Vs' A cap m W) (hw : w.heap.size ≤ B) (hB : B + 1 ≤ W.heap.size) (hm : Vs'.length = m') (hml : m' ≤ 900) (p : Int) :
    Calls Try.prog 33 #[.pointer (some ⟨x, 0, none⟩), .int .i64 p] W fun e w' => (∃ r1 r2 : Int, e = .returned (.tuple #[.int .i64 r1, .int .i64 r2])) ∧ ∃ Vs'', Vs''.length ≤ m' + 1 ∧ G2 w B x mb Vs Vs'' A cap m w' := by
  by_cases hp : 0 ≤ p ∧ p < (m' : Int)
  · obtain ⟨pa, rfl⟩ : ∃ pa : Nat, p = (pa : Int) := ⟨p.toNat, by omega⟩
    refine (branch_yes (B + 1) x pa m' Vs' W h.ix hm hml (by omega) hB).mono ?_
    rintro e w' ⟨rfl, ⟨d, j, hix⟩, hb, hk⟩
    refine ⟨⟨_, _, rfl⟩, _, ?_, hix, h.ext.push h.ix.ok _, h.row.kv hk, hk _ _ _ _ h.bx (by decide) (by decide) (by decide), h.bel.trans (hb.mono (by omega))⟩
    rw [List.length_append, hm]; exact Nat.le_refl _
  · refine (branch_no (B + 1) x m' p Vs' W h.ix hm hml hp).mono ?_
    rintro e w' ⟨rfl, hb, hk⟩
    exact ⟨⟨_, _, rfl⟩, Vs', by omega, h.next hb⟩
theorem deep_ex {Vs : List Vn} (h : VsOk Vs) {b : Nat} (hb : b < Vs.length) : ∀ a : Nat, a < Vs.length → ∃ c, DeepV Vs a b c := fun a => by
  induction a using Nat.strongRecOn with
  | ind a ih =>
    intro ha
    by_cases hab : AncV Vs a b
    · exact ⟨a, .refl, hab, fun d h1 _ => h1⟩
    · have ha0 : 0 < a := by
        rcases Nat.eq_zero_or_pos a with h0 | h0
        · subst h0; exact absurd (AncV.zero h b hb) hab
        · exact h0
      obtain ⟨p, j, u, e1, e2, e3, _⟩ := h.rest a _ (List.getElem?_eq_getElem ha) ha0
      obtain ⟨c, h1, h2, h3⟩ := ih p e2 (by omega)
      exact ⟨c, .step (List.getElem?_eq_getElem ha) e1 h1, h2, fun d h4 h5 => h3 d (h4.up (List.getElem?_eq_getElem ha) e1 (fun e => hab (e ▸ h5))) h5⟩
/-- The three answers about a and b: they stay while the index goes on. -/
theorem q_cases (w : World) (B x mb m : Nat) (Vs : List Vn) (A : Option Addr) (cap : Nat) (hm : Vs.length = m) (hml : m ≤ 100) (hok : VsOk Vs) (a b : Int) : ∃ (d e f g c : Int) (is : Bool),
    (∀ W, QL w B x mb Vs A cap m W → Calls Try.prog 24 #[.pointer (some ⟨x, 0, none⟩), .int .i64 a] W fun er w' => er = .returned (.tuple #[.int .i64 d, .int .i64 e]) ∧ Below W.heap.size W w') ∧
    (∀ W, QL w B x mb Vs A cap m W → Calls Try.prog 25 #[.pointer (some ⟨x, 0, none⟩), .int .i64 a, .int .i64 b] W fun er w' => er = .returned (.tuple #[.bool is, .int .i64 f]) ∧ Below W.heap.size W w') ∧
    (∀ W, QL w B x mb Vs A cap m W → Calls Try.prog 26 #[.pointer (some ⟨x, 0, none⟩), .int .i64 a, .int .i64 b] W fun er w' => er = .returned (.tuple #[.int .i64 c, .int .i64 g]) ∧ Below W.heap.size W w') ∧
    (e = 24 ∨ (e = 0 ∧ f = 24) ∨ (e = 0 ∧ f = 0 ∧ g = 0 ∧ ∀ (Vs' : List Vn) (W : World), Vs'.length ≤ 1000 → G2 w B x mb Vs Vs' A cap m W →
      (Calls Try.prog 24 #[.pointer (some ⟨x, 0, none⟩), .int .i64 a] W fun er w' => er = .returned (.tuple #[.int .i64 d, .int .i64 0]) ∧ Below W.heap.size W w') ∧
      (Calls Try.prog 25 #[.pointer (some ⟨x, 0, none⟩), .int .i64 a, .int .i64 b] W fun er w' => er = .returned (.tuple #[.bool is, .int .i64 0]) ∧ Below W.heap.size W w') ∧
      (Calls Try.prog 26 #[.pointer (some ⟨x, 0, none⟩), .int .i64 a, .int .i64 b] W fun er w' => er = .returned (.tuple #[.int .i64 c, .int .i64 0]) ∧ Below W.heap.size W w'))) := by
  by_cases ha : 0 ≤ a ∧ a < (m : Int)
  case neg =>
    exact ⟨0, 24, 24, 24, 0, false, fun W h => ix_depth_no (B + 1) x m a Vs W h.ix hm (by omega) ha, fun W h => ix_anc_no (B + 1) x m a b Vs W h.ix hm (by omega) (fun h => ha h.1), fun W h => ix_common_no (B + 1) x m a b Vs W h.ix hm (by omega) (fun h => ha h.1), Or.inl rfl⟩
  obtain ⟨an, rfl⟩ : ∃ an : Nat, a = (an : Int) := ⟨a.toNat, by omega⟩
  have han : an < m := by omega
  obtain ⟨v, hv⟩ : ∃ v, Vs[an]? = some v := ⟨Vs[an]'(by omega), List.getElem?_eq_getElem _⟩
  by_cases hb : 0 ≤ b ∧ b < (m : Int)
  case neg =>
    exact ⟨v.2.1, 0, 24, 24, 0, false, fun W h => ix_depth_yes (B + 1) x m an Vs v W h.ix hm (by omega) hv, fun W h => ix_anc_no (B + 1) x m (an : Int) b Vs W h.ix hm (by omega) (fun h => hb h.2), fun W h => ix_common_no (B + 1) x m (an : Int) b Vs W h.ix hm (by omega) (fun h => hb h.2), Or.inr (Or.inl ⟨rfl, rfl⟩)⟩
  obtain ⟨bn, rfl⟩ : ∃ bn : Nat, b = (bn : Int) := ⟨b.toNat, by omega⟩
  have hbn : bn < m := by omega
  obtain ⟨c, hc⟩ := deep_ex hok (b := bn) (by omega) an (by omega)
  obtain ⟨is, his⟩ : ∃ is : Bool, is = true ↔ AncV Vs an bn := by
    by_cases h : AncV Vs an bn
    · exact ⟨true, by simp [h]⟩
    · exact ⟨false, by simp [h]⟩
  refine ⟨v.2.1, 0, 0, 0, (c : Int), is, fun W h => ix_depth_yes (B + 1) x m an Vs v W h.ix hm (by omega) hv, fun W h => ix_anc_yes (B + 1) x m an bn Vs W h.ix hm (by omega) han hbn is his, fun W h => ?_, Or.inr (Or.inr ⟨rfl, rfl, rfl, fun Vs' W hl h => ⟨?_, ?_, ?_⟩⟩)⟩
  · refine (common_yes (B + 1) x an bn m Vs W h.ix hm (by omega) han hbn).mono ?_
    rintro e w' ⟨⟨c', rfl, hc'⟩, hbl⟩
    rw [hc'.one hok hc]
    exact ⟨rfl, hbl⟩
  · have hle := h.ext.len
    exact ix_depth_yes (B + 1) x Vs'.length an Vs' v W h.ix rfl hl (by rw [h.ext.at' an (by omega)]; exact hv)
  · have hle := h.ext.len
    exact ix_anc_yes (B + 1) x Vs'.length an bn Vs' W h.ix rfl hl (by omega) (by omega) is (his.trans (h.ext.anc an bn (by omega)).symm)
  · have hle := h.ext.len
    refine (common_yes (B + 1) x an bn Vs'.length Vs' W h.ix rfl hl (by omega) (by omega)).mono ?_
    rintro e w' ⟨⟨c', rfl, hc'⟩, hbl⟩
    rw [h.ext.deep hok (by omega) (by omega) hc hc']
    exact ⟨rfl, hbl⟩
end Go.Proofs.Ythnlcbeibhhjpaa
