/- Trees of versions: the children of all versions, in memory. -/
import Derived.Test.YthnlcbeibhhjpaaVtB
namespace Go.Proofs.Ythnlcbeibhhjpaa
open Go.RowKit
set_option maxRecDepth 100000
theorem Try.infoInts : (Try.prog.info? 22).map (fun i => (i.zero, i.size, i.bytes)) = some (some (.slice none 0 0), 1, 24) := by kernel_rfl
/-- The children of i among the first k versions. -/
def chI (P : List Int) (k i : Nat) : List Int := ((List.range k).filter fun t => decide (0 < t) && (P[t]? == some (i : Int))).map fun t : Nat => (t : Int)
theorem chI_next (P : List Int) (k i : Nat) : chI P (k + 1) i = chI P k i ++ (if 0 < k ∧ P[k]? = some (i : Int) then [(k : Int)] else []) := by
  unfold chI
  rw [List.range_succ, List.filter_append, List.map_append]
  congr 1
  by_cases h : 0 < k ∧ P[k]? = some (i : Int)
  · rw [if_pos h, List.filter_cons_of_pos (by simp [h.1, h.2])]; rfl
  · rw [if_neg h, List.filter_cons_of_neg (by simp only [Bool.and_eq_true, decide_eq_true_eq, beq_iff_eq]; exact h)]; rfl
theorem chI_len (P : List Int) (k i : Nat) : (chI P k i).length ≤ k := by
  unfold chI
  rw [List.length_map]
  exact Nat.le_trans (List.length_filter_le _ _) (by simp)
/-- Rows of ints, each in a block of its own, in a table. -/
structure ChO (B rb n : Nat) (V : Nat → Value) (R : Nat → List Int) (W : World) : Prop where
  out : W.ownsRow B 22 1 (.slice (some ⟨rb, 0, none⟩) n n) n ((List.range n).map V)
  row : ∀ i, i < n → ∃ A c, V i = .slice A (R i).length c ∧ W.ownsRow B 3 1 (V i) (R i).length ((R i).map (Value.int .i64))
  sep : ∀ i j, i < n → j < n → i ≠ j → (V i).ownBlock = none ∨ (V i).ownBlock ≠ (V j).ownBlock
def upd {α : Type} (f : Nat → α) (p : Nat) (a : α) : Nat → α := fun i => if i = p then a else f i
theorem upd_self {α : Type} (f : Nat → α) (p : Nat) (a : α) : upd f p a p = a := by simp [upd]
theorem upd_other {α : Type} (f : Nat → α) {p i : Nat} (a : α) (h : i ≠ p) : upd f p a i = f i := by simp [upd, h]
theorem range_set (n p : Nat) (V : Nat → Value) (v : Value) : ((List.range n).map V).set p v = (List.range n).map (upd V p v) := by
  apply List.ext_getElem?
  intro i
  rw [List.getElem?_set, List.getElem?_map, List.getElem?_map]
  by_cases hp : p = i
  · subst hp
    rw [if_pos rfl]
    by_cases hn : p < n
    · rw [if_pos (by simpa using hn), List.getElem?_range hn]; simp [upd_self]
    · rw [if_neg (by simpa using hn), List.getElem?_eq_none (by simp; omega)]; rfl
  · rw [if_neg hp]
    by_cases hn : i < n
    · rw [List.getElem?_range hn]; simp [upd_other V v (show i ≠ p by omega)]
    · rw [List.getElem?_eq_none (by simp; omega)]; rfl
theorem ownBlock_of {W : World} {B : Nat} {e : TypeId} {v : Value} {n : Nat} {xs : List Value} (h : W.ownsRow B e 1 v n xs) {b : Nat} (hb : v.ownBlock = some b) : ∃ cs, W.heap[b]? = some (.cells cs e (0, 0)) := by
  rcases h.2 with ⟨hv, _⟩ | ⟨g, cp, cur, hv, _, hh, _⟩
  · rw [hv] at hb; cases hb
  · rw [hv] at hb
    have : g = b := by simpa [Value.ownBlock] using hb
    exact ⟨cur, this ▸ hh⟩
/-- The table behind a row's growth. -/
theorem ChO.out6 {B rb n p : Nat} {V : Nat → Value} {R : Nat → List Int} {W W6 : World} {o : Obj} (h : ChO B rb n V R W) (hp : p < n) (hg : (W.alloc o).grownBy W6 (V p).ownBlock) : W6.ownsRow B 22 1 (.slice (some ⟨rb, 0, none⟩) n n) n ((List.range n).map V) := by
  obtain ⟨Ap, cp, hVp, hrow⟩ := h.row p hp
  obtain ⟨cs, hrb⟩ : ∃ cs, W.heap[rb]? = some (.cells cs 22 (0, 0)) := ownBlock_of h.out rfl
  refine (h.out.alloc o).kept hg (Or.inr fun e => ?_)
  have e' : (V p).ownBlock = some rb := e.symm
  obtain ⟨cs', hc⟩ := ownBlock_of hrow e'
  rw [hrb] at hc
  have := Option.some.inj hc
  injection this with _ h3
  exact absurd h3 (by decide)
/-- A row grows, and its table's cell is set. -/
theorem ChO.grow {B rb n p g2 cap2 : Nat} {V : Nat → Value} {R : Nat → List Int} {W W6 : World} {o : Obj} {x : Int} (h : ChO B rb n V R W) (hp : p < n) (hg : (W.alloc o).grownBy W6 (V p).ownBlock)
    (hown : W6.ownsRow B 3 1 (.slice (some ⟨g2, 0, none⟩) ((R p).length + 1) cap2) ((R p).length + 1) ((R p ++ [x]).map (Value.int .i64))) (hat : (V p).ownBlock = some g2 ∨ W.heap.size ≤ g2) :
    ChO B rb n (upd V p (.slice (some ⟨g2, 0, none⟩) ((R p).length + 1) cap2)) (upd R p (R p ++ [x])) (W6.setCell ⟨rb, p, none⟩ (.slice (some ⟨g2, 0, none⟩) ((R p).length + 1) cap2)) := by
  obtain ⟨Ap, cp, hVp, hrow⟩ := h.row p hp
  have hrb : ∃ cs, W.heap[rb]? = some (.cells cs 22 (0, 0)) := ownBlock_of h.out rfl
  obtain ⟨cs, hrb⟩ := hrb
  have hnb : ∀ b cs', W.heap[b]? = some (.cells cs' 3 (0, 0)) → b ≠ rb := fun b cs' hb e => by
    rw [e, hrb] at hb
    have := Option.some.inj hb
    injection this with _ h3
    exact absurd h3 (by decide)
  have hout6 : W6.ownsRow B 22 1 (.slice (some ⟨rb, 0, none⟩) n n) n ((List.range n).map V) := (h.out.alloc o).kept hg (Or.inr fun e => by
    have e' : (V p).ownBlock = some rb := e.symm
    obtain ⟨cs', hc⟩ := ownBlock_of hrow e'
    exact hnb rb cs' hc rfl)
  have hrb6 : ∀ b, b ≠ rb → (W6.setCell ⟨rb, p, none⟩ (.slice (some ⟨g2, 0, none⟩) ((R p).length + 1) cap2)).heap[b]? = W6.heap[b]? := fun b hb => heap_off hb
  refine ⟨?_, fun i hi => ?_, fun i j hi hj hij => ?_⟩
  · have := (hout6.stored p (.slice (some ⟨g2, 0, none⟩) ((R p).length + 1) cap2)).1
    rw [range_set] at this
    exact this
  · by_cases hip : i = p
    · subst hip
      rw [upd_self, upd_self]
      refine ⟨some ⟨g2, 0, none⟩, cap2, by simp, ?_⟩
      have : W6.ownsRow B 3 1 (.slice (some ⟨g2, 0, none⟩) ((R i).length + 1) cap2) ((R i ++ [x]).length) ((R i ++ [x]).map (Value.int .i64)) := by rw [List.length_append]; exact hown
      refine ownsRow_heap this fun b hb => hrb6 b fun e => ?_
      obtain ⟨cs', hc⟩ := ownBlock_of hown hb
      obtain ⟨cs2, hc2⟩ := ownBlock_of hout6 (show _ = some rb from rfl)
      rw [e, hc2] at hc
      have := Option.some.inj hc
      injection this with _ h3
      exact absurd h3 (by decide)
    · rw [upd_other _ _ hip, upd_other _ _ hip]
      obtain ⟨A, c, hV, hr⟩ := h.row i hi
      refine ⟨A, c, hV, ?_⟩
      have h6 := (hr.alloc o).kept hg (by rcases h.sep i p hi hp hip with h1 | h1; exact Or.inl h1; exact Or.inr h1)
      refine ownsRow_heap h6 fun b hb => hrb6 b fun e => ?_
      obtain ⟨cs', hc⟩ := ownBlock_of hr hb
      exact hnb b cs' hc e
  · have key : ∀ i, i < n → i ≠ p → (V i).ownBlock = none ∨ (V i).ownBlock ≠ some g2 := fun i hi hip => by
      rcases h.sep i p hi hp hip with h1 | h1
      · exact Or.inl h1
      · right
        intro e
        rcases hat with h2 | h2
        · exact h1 (e.trans h2.symm)
        · obtain ⟨A, c, _, hr⟩ := h.row i hi
          have := (hr.lt g2 e).2
          omega
    by_cases hip : i = p
    · subst hip
      rw [upd_self, upd_other _ _ (fun e => hij e.symm)]
      right
      intro e
      rcases key j hj (fun e => hij e.symm) with h1 | h1
      · rw [h1] at e; cases e
      · exact h1 e.symm
    · rw [upd_other _ _ hip]
      by_cases hjp : j = p
      · subst hjp
        rw [upd_self]
        exact key i hi hip
      · rw [upd_other _ _ hjp]
        exact h.sep i j hi hj hij
theorem ChO.start {B rb n : Nat} {W : World} (h : W.ownsRow B 22 1 (.slice (some ⟨rb, 0, none⟩) n n) n (List.replicate n (.slice none 0 0))) : ChO B rb n (fun _ => .slice none 0 0) (fun _ => []) W := by
  refine ⟨?_, fun i _ => ⟨none, 0, rfl, World.ownsRow_nil _ _ _ _⟩, fun _ _ _ _ _ => Or.inl rfl⟩
  have : (List.range n).map (fun _ => Value.slice none 0 0) = List.replicate n (.slice none 0 0) := by
    apply List.ext_getElem?
    intro i
    rw [List.getElem?_map, List.getElem?_replicate]
    by_cases hi : i < n
    · rw [List.getElem?_range hi, if_pos hi]; rfl
    · rw [List.getElem?_eq_none (by simp; omega), if_neg hi]; rfl
  rw [this]
  exact h
theorem madeOne (n : Nat) : (madeCells #[Value.slice none 0 0] (n * 1)).toList = List.replicate n (.slice none 0 0) := by rw [Nat.mul_one]; exact toList_madeCells_one _ _
set_option maxHeartbeats 8000000 in
theorem children_any (A : Option Addr) (cap n : Nat) (P : List Int) (w : World) (hn : P.length = n) (hc : n ≤ cap) (hcm : cap ≤ maxLen) (h : IntsAt (· < w.heap.size) w A P) (hv : VP P) :
    Calls Try.prog 37 #[.agg #[.slice A n cap]] w fun e w' => ∃ rb V, e = .returned (.slice (some ⟨rb, 0, none⟩) n n) ∧ ChO w.heap.size rb n V (fun i => chI P n i) w' ∧ Below w.heap.size w w' := by
  have hn3 := hv.le
  have hnl : n ≤ 1000 := by omega
  have hn1 : 1 ≤ n := by have := hv.pos; omega
  have H1 := Lib.hid h
  have HN := Lib.hid hn
  have HV := Lib.hid hv
  obtain ⟨i1, hi1, hy0, hy1, hy2⟩ := info_parts Try.infoInt
  obtain ⟨i2, hi2, hz0, hz1, hz2⟩ := info_parts Try.infoInts
  have hcm' := hcm
  unfold maxLen at hcm'
  clear h hv hn
  go_enter Try.func37, Try.ntmps37
  go_wp2_with (at_make; refine wpList_make_full _ rfl _ _ 59 rfl w.heap.size 22 i2 _ 1 Try.underlying59 hi2 hz0 hz1 .i64 .i64 _ _ n rfl rfl rfl rfl (by rw [hz2]; omega) (by unfold maxLen; omega) (by simp) ?_)
  intro w1 hown1 hgrow1
  have hsz1 := hgrow1.size
  simp at hsz1
  have hmo := madeOne n
  have hown2 : w1.ownsRow w.heap.size 22 1 (.slice (some ⟨w.heap.size + 1, 0, none⟩) n n) n (List.replicate n (.slice none 0 0)) := by
    rw [← hmo]
    simpa using hown1
  have HC1 := Lib.hid (ChO.start hown2)
  have hb1 : Below w.heap.size w w1 := ((Below.refl _ _).alloc (Nat.le_refl _) _).grown hgrow1 (by simp) (fun k' e => by cases e)
  have HB1 := Lib.hid hb1
  have hx1 := (hgrow1.block w.heap.size (by simp) (by simp)).trans (bdNew w (.cells #[.slice A n cap] 24))
  obtain ⟨c0, f0⟩ := bk1 hx1
  clear hown1 hgrow1 hmo hown2 hb1 hx1
  go_wp2_with fail
  clear c0 f0
  go_loopw [13] (fun s13 wr => ∃ (k : Nat) (V : Nat → Value), k ≤ n ∧ s13 = .int .i64 k ∧ ChO w.heap.size (w.heap.size + 1) n V (fun i => chI P k i) wr ∧ Below w.heap.size w wr) (fun s13 _ => n - (intOf s13).toNat)
  case atStart => exact ⟨0, _, by omega, rfl, HC1.out, HB1.out⟩
  case round =>
    obtain ⟨k, V, hk, rfl, hch, hb⟩ := hrel
    have HCH := Lib.hid hch
    have HB := Lib.hid hb
    have hsz := hb.size
    clear hch hb
    by_cases hlt : k < n
    · have hltI : (k : Int) < (n : Int) := by omega
      obtain ⟨x, hx⟩ : ∃ x, P[k]? = some x := ⟨P[k]'(by rw [HN.out]; exact hlt), List.getElem?_eq_getElem _⟩
      obtain ⟨b, off, hA, hbl, y0⟩ := (H1.out.below HB.out).get hx
      subst hA
      by_cases hk0 : k = 0
      · subst hk0
        have HE : Hid ((fun i => chI P (0 + 1) i) = fun i => chI P 0 i) := Lib.hid (by funext i; rw [chI_next, if_neg (by omega), List.append_nil])
        have hd0 : decide ((0 : Int) < ((0 : Nat) : Int)) = false := by decide
        rw [Nat.add_zero] at y0
        clear hx
        go_wp2_with fail
        go_roundw
        case rel => exact ⟨0 + 1, V, by omega, by go_num, by rw [HE.out]; exact HCH.out, HB.out⟩
        case measure => simp [intOf]; omega
      · obtain ⟨k1, rfl⟩ : ∃ k1, k = k1 + 1 := ⟨k - 1, by omega⟩
        have hpr := HV.out.par k1 x hx
        obtain ⟨p, rfl⟩ : ∃ p : Nat, x = (p : Int) := ⟨x.toNat, by omega⟩
        have hpn : p < n := by omega
        have hpI : (p : Int) < (n : Int) := by omega
        have hd0 : decide ((0 : Int) < ((k1 + 1 : Nat) : Int)) = true := decide_eq_true (by omega)
        obtain ⟨Ap, cp, hVp, hrow⟩ := HCH.out.row p hpn
        have z0 := HCH.out.out.cellAt p (by omega)
        rw [List.getElem?_map, List.getElem?_range hpn] at z0
        simp only [Option.map_some] at z0
        rw [hVp] at z0 hrow
        obtain ⟨q, hq⟩ : ∃ q, q = (chI P (k1 + 1) p).length := ⟨_, rfl⟩
        have hql : q ≤ 1000 := by rw [hq]; have := chI_len P (k1 + 1) p; omega
        rw [← hq] at z0 hrow
        have HQ := Lib.hid hq
        have HVP := Lib.hid hVp
        have HROW := Lib.hid hrow
        have HE : Hid ((fun i => chI P (k1 + 1 + 1) i) = upd (fun i => chI P (k1 + 1) i) p (chI P (k1 + 1) p ++ [((k1 + 1 : Nat) : Int)])) := Lib.hid (by
          funext i
          rw [chI_next]
          by_cases hip : i = p
          · subst hip
            rw [if_pos ⟨by omega, hx⟩, upd_self]
          · rw [if_neg (by rintro ⟨_, h2⟩; rw [hx] at h2; have := Option.some.inj h2; omega), List.append_nil, upd_other _ _ hip])
        clear hx hpr hVp hrow hq
        go_wp2_with (at_builtin; refine wpList_append_lies _ rfl (.tmp 25) (.tmp 27) 22 rfl w.heap.size 3 i1 _ 1 8 Try.underlying22 hi1 hy0 hy1 hy2 rfl (by decide) (.slice Ap q cp) q ((chI P (k1 + 1) p).map (Value.int .i64)) rfl (HROW.out.alloc _) ⟨wr.heap.size, 0, none⟩ 1 1 [.int .i64 ((k1 + 1 : Nat) : Int)] rfl rfl (World.news_of_block (cs := #[.int .i64 ((k1 + 1 : Nat) : Int)]) (t := 3) (fr := (0, 0)) (heap_alloc_new wr _)) (by simp [Value.oneCell']) (by omega) (by unfold maxLen; omega) (by omega) (by simp; omega) (wr.heap.size + 1) (by simp) ?_)
        intro g2 cap2 W6 hown6 hgrow6 hat6 hlt6
        have hgrow7 : (wr.alloc (.cells #[.int .i64 ((k1 + 1 : Nat) : Int)] 3)).grownBy W6 (V p).ownBlock := by rw [HVP.out, ← HQ.out]; exact hgrow6
        have ho6 := HCH.out.out6 hpn hgrow7
        have z1 := ho6.cellAt p (by omega)
        rw [List.getElem?_map, List.getElem?_range hpn] at z1
        simp only [Option.map_some] at z1
        have f1 := ho6.frozenAt p
        have HG := Lib.hid (HCH.out.grow (x := ((k1 + 1 : Nat) : Int)) hpn hgrow7 (by show W6.ownsRow _ _ _ (.slice _ ((chI P (k1 + 1) p).length + 1) _) _ _; rw [← HQ.out]; simpa using hown6) (by rw [HVP.out, ← HQ.out]; rcases hat6 with h1 | h1; exact Or.inl h1; exact Or.inr (by omega)))
        have HB6 := Lib.hid ((HB.out.alloc hsz (.cells #[.int .i64 ((k1 + 1 : Nat) : Int)] 3)).grown hgrow6 (by simp; omega) (fun k' e => by have := (HROW.out.lt k' e).1; omega))
        clear hown6 hgrow6 hat6 hlt6 hgrow7 ho6 z0
        go_wp2_with fail
        go_roundw
        case rel => exact ⟨k1 + 1 + 1, _, by omega, by go_num, by rw [HE.out]; have := HG.out; rw [← HQ.out] at this; exact this, HB6.out.setCell (p := ⟨w.heap.size + 1, p, none⟩) (by simp) _⟩
        case measure => simp [intOf]; omega
    · have hkn : k = n := by omega
      subst hkn
      go_wp2_with fail
      go_ret
      exact ⟨w.heap.size + 1, V, rfl, HCH.out, HB.out⟩
end Go.Proofs.Ythnlcbeibhhjpaa
