/- The reference's Branch. -/
import Derived.Test.YthnlcbeibhhjpaaVtL
namespace Go.Proofs.Ythnlcbeibhhjpaa
open Go.RowKit
set_option maxRecDepth 100000
theorem own_grown {NB g n cap : Nat} {e : TypeId} {xs : List Value} {W W1 : World} (hg : W.grownBy W1 (some g)) (h : W.ownsRow NB e 1 (.slice (some ⟨g, 0, none⟩) n cap) n xs) (hB : NB ≤ W.heap.size) : Below NB W W1 := by
  have hgl := (h.lt g rfl).1
  exact (Below.refl NB W).grown hg hB (fun k hk => by injection hk with hk; omega)
theorem new_one (W : World) (p : Int) : ∀ ad, (some ⟨W.heap.size, 0, none⟩ : Option Addr) = some ad → ∀ (i : Nat) (u : Value), [Value.int .i64 p][i]? = some u → (W.alloc (.cells #[.int .i64 p] 3)).cell? (ad.add i) = some u := fun ad had i u hu => by
  obtain rfl := Option.some.inj had
  have hi := (List.getElem?_eq_some_iff.1 hu).1
  obtain rfl : i = 0 := by simpa using hi
  rw [addr_add]
  obtain rfl : Value.int .i64 p = u := by simpa using hu
  exact (bk1 (bdNew W _)).1
theorem new_kept {W W' : World} {b : Nat} {p : Int} (hc : W'.cell? ⟨b, 0, none⟩ = W.cell? ⟨b, 0, none⟩) (h : W.cell? ⟨b, 0, none⟩ = some (.int .i64 p)) : ∀ ad, (some ⟨b, 0, none⟩ : Option Addr) = some ad → ∀ (i : Nat) (u : Value), [Value.int .i64 p][i]? = some u → W'.cell? (ad.add i) = some u := fun ad had i u hu => by
  obtain rfl := Option.some.inj had
  have hi := (List.getElem?_eq_some_iff.1 hu).1
  obtain rfl : i = 0 := by simpa using hi
  rw [addr_add]
  obtain rfl : Value.int .i64 p = u := by simpa using hu
  exact hc.trans h
theorem bdNew1 (W : World) (p : Int) : ((W.alloc (.cells #[] 3)).alloc (.cells #[.int .i64 p] 3)).cell? ⟨W.heap.size + 1, 0, none⟩ = some (.int .i64 p) := by
  have h := bdNew (W.alloc (.cells #[] 3)) (.cells #[.int .i64 p] 3)
  rw [show (W.alloc (.cells #[] 3)).heap.size = W.heap.size + 1 by simp] at h
  exact (bk1 h).1
theorem bdNew2 (W : World) (p : Int) : ((W.alloc (.cells #[.int .i64 p] 3)).alloc (.cells #[] 3)).cell? ⟨W.heap.size, 0, none⟩ = some (.int .i64 p) := (bk1 (bdOld (bdNew W _))).1
/-- What the reference's Branch leaves, if it goes. -/
def RBrQ (nv : Nat) (p : Int) (P : List Int) (w : World) (er : Ending) (w' : World) : Prop :=
  ∃ g cp, er = .returned (.tuple #[.agg #[.slice (some ⟨g, 0, none⟩) (nv + 1) cp], .int .i64 nv, .int .i64 0]) ∧ w'.ownsRow w.heap.size 3 1 (.slice (some ⟨g, 0, none⟩) (nv + 1) cp) (nv + 1) ((P ++ [p]).map (Value.int .i64)) ∧ Below w.heap.size w w'
theorem rbr_end {nv g6 c6 NB : Nat} {p : Int} {P : List Int} {w w6 : World} {xs : List Value} {v1 : Value} (how : w6.ownsRow NB 3 1 (.slice (some ⟨g6, 0, none⟩) (nv + 1) c6) (nv + 1) xs) (hxs : xs = (P ++ [p]).map (Value.int .i64)) (h1 : w.heap.size + 1 < NB) (hb : Below w.heap.size w w6) :
    RBrQ nv p P w (.returned (.tuple #[.agg #[.slice (some ⟨g6, 0, none⟩) (nv + 1) c6], .int .i64 nv, .int .i64 0])) (w6.setCell ⟨w.heap.size + 1, 0, none⟩ v1) := by
  subst hxs
  refine ⟨g6, c6, rfl, (ownsRow_heap how fun b hb' => heap_off fun e => ?_).mono (by omega), hb.setCell (p := ⟨w.heap.size + 1, 0, none⟩) (by simp) _⟩
  have := (how.lt b hb').1
  omega
set_option maxHeartbeats 8000000 in
theorem refBranch_yes (A : Option Addr) (cap nv : Nat) (p : Int) (P : List Int) (w : World) (hl : P.length = nv) (hn : nv ≤ 900) (h1 : 1 ≤ nv) (h : IntsAt (· < w.heap.size) w A P) (hp : 0 ≤ p ∧ p < (nv : Int)) :
    Calls Try.prog 39 #[.agg #[.slice A nv cap], .int .i64 p] w (RBrQ nv p P w) := by
  obtain ⟨g0, off, hA, hg0, hc⟩ := h (by omega)
  subst hA
  have HIS := Lib.hid (fun W => refIs_any (some ⟨g0, off, none⟩) cap nv p W (by omega) true (by rw [decide_eq_true hp.1, decide_eq_true hp.2]; rfl))
  obtain ⟨W1, hW1⟩ : ∃ W1, W1 = (w.alloc (.cells #[.slice (some ⟨g0, off, none⟩) nv cap] 24)).alloc (.cells #[.slice none 0 0] 24) := ⟨_, rfl⟩
  have hs1 : W1.heap.size = w.heap.size + 2 := by rw [hW1]; simp
  have hb1 : Below w.heap.size w W1 := by rw [hW1]; exact ((Below.refl _ _).alloc (Nat.le_refl _) _).alloc (by simp) _
  have hv1 : W1.heap[w.heap.size]? = some (.cells #[.slice (some ⟨g0, off, none⟩) nv cap] 24 (0, 0)) := by rw [hW1]; exact bdOld (bdNew w _)
  have hr1 : W1.heap[w.heap.size + 1]? = some (.cells #[.slice none 0 0] 24 (0, 0)) := by
    rw [hW1]
    have := bdNew (w.alloc (.cells #[.slice (some ⟨g0, off, none⟩) nv cap] 24)) (.cells #[.slice none 0 0] 24)
    rw [show (w.alloc (.cells #[.slice (some ⟨g0, off, none⟩) nv cap] 24)).heap.size = w.heap.size + 1 by simp] at this
    exact this
  have HIS1 := Lib.hid (HIS.out W1)
  have HW1 := Lib.hid hW1
  have HV1 := Lib.hid hv1
  have HR1 := Lib.hid hr1
  have HB1 := Lib.hid hb1
  have HS1 := Lib.hid hs1
  have HC := Lib.hid hc
  have HL := Lib.hid hl
  have HP := Lib.hid hp
  have hnb : decide ((1000 : Int) ≤ (nv : Int)) = false := decide_eq_false (by omega)
  obtain ⟨i1, hi1, hy0, hy1, hy2⟩ := info_parts Try.infoInt
  clear h hc hW1 hs1 hb1 hv1 hr1 hl hp
  go_enter Try.func39, Try.ntmps39
  go_wp2_with fail
  rw [← HW1.out]
  refine HIS1.out.mono ?_
  rintro er w1 ⟨rfl, hb⟩
  obtain ⟨v0, vf0⟩ := bk1 (bdAt HV1.out hb)
  obtain ⟨r0, rf0⟩ := bk1 (bdAt HR1.out hb)
  have HB := Lib.hid hb
  have hs1 := HS1.out
  have hz1 := hb.size
  have hg0' : g0 < w1.heap.size := by omega
  have HB1w : Hid (Below w.heap.size w w1) := Lib.hid (HB1.out.trans (hb.mono HB1.out.size))
  have hg0w : g0 < w.heap.size := hg0
  have HOW0 : Hid ((w1.alloc (.cells #[] 3)).ownsRow w1.heap.size 3 1 (.slice (some ⟨w1.heap.size, 0, none⟩) 0 0) 0 []) := Lib.hid (World.ownsRow_lit (base := w1.heap.size) (e := 3) (size := 1) w1 #[] 0 (by simp) (by unfold maxLen; omega) rfl)
  have HNW : Hid (∀ ad, (some ⟨g0, off, none⟩ : Option Addr) = some ad → ∀ (i : Nat) (u : Value), (P.map (Value.int .i64))[i]? = some u → (w1.alloc (.cells #[] 3)).cell? (ad.add i) = some u) := Lib.hid (fun ad had i u hu => by
    obtain rfl := Option.some.inj had
    rw [addr_add]
    rw [List.getElem?_map] at hu
    obtain ⟨y, hy, rfl⟩ := Option.map_eq_some_iff.1 hu
    exact ((HB1w.out.alloc (by omega) _).cell (p := ⟨g0, off + i, none⟩) hg0w).trans (HC.out i y hy))
  have hown3 : ((w1.alloc (.cells #[.int .i64 p] 3)).alloc (.cells #[] 3)).ownsRow w1.heap.size 3 1 (.slice (some ⟨w1.heap.size + 1, 0, none⟩) 0 0) 0 [] := by
    have hh := World.ownsRow_lit (base := w1.heap.size) (e := 3) (size := 1) (w1.alloc (.cells #[.int .i64 p] 3)) #[] 0 (by simp) (by unfold maxLen; omega) rfl
    rw [show (w1.alloc (.cells #[.int .i64 p] 3)).heap.size = w1.heap.size + 1 by simp] at hh
    exact hh
  have HOW3 := Lib.hid hown3
  have nwx : ∀ W : World, Below w.heap.size w W → ∀ ad, (some ⟨g0, off, none⟩ : Option Addr) = some ad → ∀ (i : Nat) (u : Value), (P.map (Value.int .i64))[i]? = some u → W.cell? (ad.add i) = some u := fun W hW ad had i u hu => by
    obtain rfl := Option.some.inj had
    rw [addr_add]
    rw [List.getElem?_map] at hu
    obtain ⟨y, hy, rfl⟩ := Option.map_eq_some_iff.1 hu
    exact (hW.cell (p := ⟨g0, off + i, none⟩) hg0w).trans (HC.out i y hy)
  have HNW2 := Lib.hid (nwx ((w1.alloc (.cells #[] 3)).alloc (.cells #[.int .i64 p] 3)) ((HB1w.out.alloc (by omega) _).alloc (by simp; omega) _))
  have HNW3 := Lib.hid (nwx ((w1.alloc (.cells #[.int .i64 p] 3)).alloc (.cells #[] 3)) ((HB1w.out.alloc (by omega) _).alloc (by simp; omega) _))
  clear hown3 nwx
  have R0 := Lib.hid r0
  have RF0 := Lib.hid rf0
  have V0 := Lib.hid v0
  have HRB := Lib.hid (bdAt HR1.out hb)
  have hzz : w.heap.size + 2 ≤ w1.heap.size := by omega
  clear r0 rf0 vf0 hb
  go_wp2_with fail
  go_region_held3 (fun w' => w'.cell? ⟨w.heap.size, 0, none⟩ = some (.slice (some ⟨g0, off, none⟩) nv cap))
    (first
      | go_keep
      | exact z9
      | exact z8
      | fail)
    (first
      | ((refine step_app _ (by rfl) (.tmp 17) (.tmp 19) 22 (by rfl) w1.heap.size 3 i1 _ 8 Try.underlying22 hi1 hy0 hy1 hy2 rfl w1.heap.size 0 0 [] (by rfl) HOW0.out (some ⟨g0, off, none⟩) nv cap (P.map (Value.int .i64)) (by rfl) (by simp [HL.out]) (fun hh => by cases hh) HNW.out (ints_one _) (by unfold maxLen; omega) (by omega) (by simp <;> omega) ?_; intro g3 c3 w3 hown3 hgrow3; (try rw [Nat.zero_add]);
          have HO3 : Hid (w3.ownsRow w1.heap.size 3 1 (.slice (some ⟨g3, 0, none⟩) nv c3) nv (P.map (Value.int .i64))) := Lib.hid (by simpa using hown3);
          have HG3 := Lib.hid (own_grown hgrow3 HOW0.out (by simp));
          have z9 := (HG3.out.cell (p := ⟨w.heap.size, 0, none⟩) (show w.heap.size < w1.heap.size by omega)).trans ((((Below.refl w1.heap.size w1).alloc (Nat.le_refl _) (.cells #[] 3)).cell (p := ⟨w.heap.size, 0, none⟩) (show w.heap.size < w1.heap.size by omega)).trans V0.out)))
      | ((refine step_app _ (by rfl) (.tmp 17) (.tmp 19) 22 (by rfl) w1.heap.size 3 i1 _ 8 Try.underlying22 hi1 hy0 hy1 hy2 rfl (w1.heap.size) 0 0 [] (by rfl) ((HOW0.out.alloc (.cells #[.int .i64 p] 3))) (some ⟨g0, off, none⟩) nv cap (P.map (Value.int .i64)) (by rfl) (by simp [HL.out]) (fun hh => by cases hh) HNW2.out (ints_one _) (by unfold maxLen; omega) (by omega) (by simp <;> omega) ?_; intro g3 c3 w3 hown3 hgrow3; (try rw [Nat.zero_add]);
          have HO3 : Hid (w3.ownsRow w1.heap.size 3 1 (.slice (some ⟨g3, 0, none⟩) nv c3) nv (P.map (Value.int .i64))) := Lib.hid (by simpa using hown3);
          have HG3 := Lib.hid (own_grown hgrow3 ((HOW0.out.alloc (.cells #[.int .i64 p] 3))) (by simp <;> omega));
          have z9 := (HG3.out.cell (p := ⟨w.heap.size, 0, none⟩) (show w.heap.size < w1.heap.size by omega)).trans (((((Below.refl w1.heap.size w1).alloc (Nat.le_refl _) (.cells #[] 3)).alloc (by simp) (.cells #[.int .i64 p] 3)).cell (p := ⟨w.heap.size, 0, none⟩) (show w.heap.size < w1.heap.size by omega)).trans V0.out);
          have NW6 : Hid (∀ ad, (some ⟨w1.heap.size + 1, 0, none⟩ : Option Addr) = some ad → ∀ (i : Nat) (u : Value), [Value.int .i64 p][i]? = some u → w3.cell? (ad.add i) = some u) := Lib.hid (new_kept (hgrow3.cell_far ⟨w1.heap.size + 1, 0, none⟩ (by simp; try omega) (by simp; try omega)) (bdNew1 w1 p))))
      | ((refine step_app _ (by rfl) (.tmp 17) (.tmp 19) 22 (by rfl) w1.heap.size 3 i1 _ 8 Try.underlying22 hi1 hy0 hy1 hy2 rfl (w1.heap.size + 1) 0 0 [] (by rfl) (HOW3.out) (some ⟨g0, off, none⟩) nv cap (P.map (Value.int .i64)) (by rfl) (by simp [HL.out]) (fun hh => by cases hh) HNW3.out (ints_one _) (by unfold maxLen; omega) (by omega) (by simp <;> omega) ?_; intro g3 c3 w3 hown3 hgrow3; (try rw [Nat.zero_add]);
          have HO3 : Hid (w3.ownsRow w1.heap.size 3 1 (.slice (some ⟨g3, 0, none⟩) nv c3) nv (P.map (Value.int .i64))) := Lib.hid (by simpa using hown3);
          have HG3 := Lib.hid (own_grown hgrow3 (HOW3.out) (by simp <;> omega));
          have z9 := (HG3.out.cell (p := ⟨w.heap.size, 0, none⟩) (show w.heap.size < w1.heap.size by omega)).trans (((((Below.refl w1.heap.size w1).alloc (Nat.le_refl _) (.cells #[.int .i64 p] 3)).alloc (by simp) (.cells #[] 3)).cell (p := ⟨w.heap.size, 0, none⟩) (show w.heap.size < w1.heap.size by omega)).trans V0.out);
          have NW6 : Hid (∀ ad, (some ⟨w1.heap.size, 0, none⟩ : Option Addr) = some ad → ∀ (i : Nat) (u : Value), [Value.int .i64 p][i]? = some u → w3.cell? (ad.add i) = some u) := Lib.hid (new_kept (hgrow3.cell_far ⟨w1.heap.size, 0, none⟩ (by simp; try omega) (by simp; try omega)) (bdNew2 w1 p))))
      | ((refine step_app _ (by rfl) (.tmp 20) (.tmp 22) 22 (by rfl) w1.heap.size 3 i1 _ 8 Try.underlying22 hi1 hy0 hy1 hy2 rfl g3 nv c3 (P.map (Value.int .i64)) (by rfl) (HO3.out.alloc _) (some ⟨w3.heap.size, 0, none⟩) 1 1 [.int .i64 p] (by rfl) rfl (fun hh => by cases hh) (new_one w3 p) (ints_one [p]) (by unfold maxLen; omega) (by omega) (by have hh9 := HG3.out.size; (try simp at hh9); (try simp); omega) ?_; intro g6 c6 w6 hown6 hgrow6;
          have HG6 := Lib.hid (own_grown hgrow6 (HO3.out.alloc (.cells #[.int .i64 p] 3)) (by have hh9 := HG3.out.size; (try simp at hh9); (try simp); omega));
          have z8 := (HG6.out.cell (p := ⟨w.heap.size, 0, none⟩) (show w.heap.size < w1.heap.size by omega)).trans ((((Below.refl w3.heap.size w3).alloc (Nat.le_refl _) (.cells #[.int .i64 p] 3)).cell (p := ⟨w.heap.size, 0, none⟩) (show w.heap.size < w3.heap.size by have := HG3.out.size; simp at this; omega)).trans z9);
          have hb6 : w6.heap[w.heap.size + 1]? = some (.cells #[.slice none 0 0] 24 (0, 0)) := (HG6.out.block (w.heap.size + 1) (by omega)).trans (bdOld ((HG3.out.block (w.heap.size + 1) (by omega)).trans (bdOld HRB.out)));
          have z7 := (bk1 hb6).1;
          have y7 := (bk1 hb6).2;
          have HBK6 := Lib.hid hb6;
          have HO6 := Lib.hid hown6;
          clear hb6))
      | ((refine step_app _ (by rfl) (.tmp 20) (.tmp 22) 22 (by rfl) w1.heap.size 3 i1 _ 8 Try.underlying22 hi1 hy0 hy1 hy2 rfl g3 nv c3 (P.map (Value.int .i64)) (by rfl) HO3.out (some ⟨w1.heap.size + 1, 0, none⟩) 1 1 [.int .i64 p] (by rfl) rfl (fun hh => by cases hh) NW6.out (ints_one [p]) (by unfold maxLen; omega) (by omega) (by have hh9 := HG3.out.size; (try simp at hh9); (try simp); omega) ?_; intro g6 c6 w6 hown6 hgrow6;
          have HG6 := Lib.hid (own_grown hgrow6 HO3.out (by have hh9 := HG3.out.size; (try simp at hh9); (try simp); omega));
          have z8 := (HG6.out.cell (p := ⟨w.heap.size, 0, none⟩) (show w.heap.size < w1.heap.size by omega)).trans z9;
          have hb6 : w6.heap[w.heap.size + 1]? = some (.cells #[.slice none 0 0] 24 (0, 0)) := (HG6.out.block (w.heap.size + 1) (by omega)).trans ((HG3.out.block (w.heap.size + 1) (by omega)).trans (bdOld (bdOld HRB.out)));
          have z7 := (bk1 hb6).1;
          have y7 := (bk1 hb6).2;
          have HBK6 := Lib.hid hb6;
          have HO6 := Lib.hid hown6;
          clear hb6))
      | ((refine step_app _ (by rfl) (.tmp 20) (.tmp 22) 22 (by rfl) w1.heap.size 3 i1 _ 8 Try.underlying22 hi1 hy0 hy1 hy2 rfl g3 nv c3 (P.map (Value.int .i64)) (by rfl) HO3.out (some ⟨w1.heap.size, 0, none⟩) 1 1 [.int .i64 p] (by rfl) rfl (fun hh => by cases hh) NW6.out (ints_one [p]) (by unfold maxLen; omega) (by omega) (by have hh9 := HG3.out.size; (try simp at hh9); (try simp); omega) ?_; intro g6 c6 w6 hown6 hgrow6;
          have HG6 := Lib.hid (own_grown hgrow6 HO3.out (by have hh9 := HG3.out.size; (try simp at hh9); (try simp); omega));
          have z8 := (HG6.out.cell (p := ⟨w.heap.size, 0, none⟩) (show w.heap.size < w1.heap.size by omega)).trans z9;
          have hb6 : w6.heap[w.heap.size + 1]? = some (.cells #[.slice none 0 0] 24 (0, 0)) := (HG6.out.block (w.heap.size + 1) (by omega)).trans ((HG3.out.block (w.heap.size + 1) (by omega)).trans (bdOld (bdOld HRB.out)));
          have z7 := (bk1 hb6).1;
          have y7 := (bk1 hb6).2;
          have HBK6 := Lib.hid hb6;
          have HO6 := Lib.hid hown6;
          clear hb6))
      | fail)
  all_goals
    have HBF : Hid (Below w.heap.size w w6) := Lib.hid (by
      have hz3 := HG3.out.size
      have hzw : w.heap.size ≤ w1.heap.size := by omega
      have hm3 := HG3.out.mono hzw
      have hm6 := HG6.out.mono hzw
      first
      | exact Below.trans (w' := w3.alloc (.cells #[.int .i64 p] 3)) (((bdN (HB1w.out.alloc (by omega) (.cells #[] 3)) 1).trans hm3).alloc (by simp at hz3; omega) (.cells #[.int .i64 p] 3)) hm6
      | exact ((bdN ((HB1w.out.alloc (by omega) (.cells #[] 3)).alloc (by simp; omega) (.cells #[.int .i64 p] 3)) 1).trans hm3).trans hm6
      | exact ((bdN ((HB1w.out.alloc (by omega) (.cells #[.int .i64 p] 3)).alloc (by simp; omega) (.cells #[] 3)) 1).trans hm3).trans hm6
      | exact Below.trans (((bdN (HB1w.out.alloc (by omega) (.cells #[] 3)) 1).trans hm3).alloc (by simp at hz3; omega) (.cells #[.int .i64 p] 3)) hm6)
    go_wp2_with fail
    exact bodyPost_ret (v := .tuple #[.agg #[.slice (some ⟨g6, 0, none⟩) (nv + 1) c6], .int .i64 nv, .int .i64 0]) (by simp [results, Try.results39, go_sem, z7]) rfl (rbr_end HO6.out (by simp) (by omega) HBF.out)
set_option maxHeartbeats 4000000 in
theorem refIs_no (A : Option Addr) (cap n : Nat) (k : Int) (w : World) (hn : n ≤ 1000000) (hk : ¬ (0 ≤ k ∧ k < (n : Int))) :
    Calls Try.prog 18 #[.agg #[.slice A n cap], .int .i64 k] w fun e w' => e = .returned (.bool false) ∧ Below w.heap.size w w' := by
  refine refIs_any A cap n k w hn false ?_
  by_cases h1 : 0 ≤ k
  · rw [decide_eq_true h1, decide_eq_false (fun h2 => hk ⟨h1, h2⟩)]; rfl
  · rw [decide_eq_false h1]; rfl
set_option maxHeartbeats 8000000 in
theorem refBranch_no (A : Option Addr) (cap nv : Nat) (p : Int) (w : World) (hn : nv ≤ 900) (hp : ¬ (0 ≤ p ∧ p < (nv : Int))) :
    Calls Try.prog 39 #[.agg #[.slice A nv cap], .int .i64 p] w fun er w' => er = .returned (.tuple #[.agg #[.slice A nv cap], .int .i64 0, .int .i64 24]) ∧ Below w.heap.size w w' := by
  obtain ⟨W1, hW1⟩ : ∃ W1, W1 = (w.alloc (.cells #[.slice A nv cap] 24)).alloc (.cells #[.slice none 0 0] 24) := ⟨_, rfl⟩
  have hb1 : Below w.heap.size w W1 := by rw [hW1]; exact ((Below.refl _ _).alloc (Nat.le_refl _) _).alloc (by simp) _
  have hv1 : W1.heap[w.heap.size]? = some (.cells #[.slice A nv cap] 24 (0, 0)) := by rw [hW1]; exact bdOld (bdNew w _)
  have hr1 : W1.heap[w.heap.size + 1]? = some (.cells #[.slice none 0 0] 24 (0, 0)) := by
    rw [hW1]
    have := bdNew (w.alloc (.cells #[.slice A nv cap] 24)) (.cells #[.slice none 0 0] 24)
    rw [show (w.alloc (.cells #[.slice A nv cap] 24)).heap.size = w.heap.size + 1 by simp] at this
    exact this
  have HIS1 := Lib.hid (refIs_no A cap nv p W1 (by omega) hp)
  have HW1 := Lib.hid hW1
  have HV1 := Lib.hid hv1
  have HR1 := Lib.hid hr1
  have HB1 := Lib.hid hb1
  clear hW1 hb1 hv1 hr1 hp
  go_enter Try.func39, Try.ntmps39
  go_wp2_with fail
  rw [← HW1.out]
  refine HIS1.out.mono ?_
  rintro er w1 ⟨rfl, hb⟩
  obtain ⟨v0, vf0⟩ := bk1 (bdAt HV1.out hb)
  obtain ⟨r0, rf0⟩ := bk1 (bdAt HR1.out hb)
  have HB : Hid (Below w.heap.size w w1) := Lib.hid (HB1.out.trans (hb.mono HB1.out.size))
  clear hb
  go_wp2_with fail
  exact bodyPost_ret (v := .tuple #[.agg #[.slice A nv cap], .int .i64 0, .int .i64 24]) (by simp [results, Try.results39, go_sem, r0]) rfl ⟨rfl, HB.out.setCell (p := ⟨w.heap.size + 1, 0, none⟩) (by simp) _⟩
end Go.Proofs.Ythnlcbeibhhjpaa
