/- Walks: merge of entries. -/
import Derived.Deep.LoopGhost
import Derived.Test.YtedjjleckhclcaaCasC
namespace Go.Proofs.Ytedjjleckhclcaa
open Go.RowKit
set_option maxRecDepth 100000

theorem ownBelow {w w' : World} {B : Nat} {e : TypeId} {size n : Nat} {v : Value} {xs : List Value} (h : w.ownsRow B e size v n xs) (hb : Below w.heap.size w w') : w'.ownsRow B e size v n xs :=
  h.kept (row := none) ⟨hb.os, hb.tape, hb.output, hb.size, fun i hi _ => hb.block i hi⟩ (by cases hv : v.ownBlock <;> simp)
abbrev fnCmp : Value := .func (.func 39) #[] #[]
/-- What the loop of merge keeps. -/
def MInv (a b : List CE) (w : World) (k : Nat) (u0 u1 u7 : Value) (wr : World) : Prop :=
  ∃ (a' b' acc : List CE) (A1 A2 A7 : Option Addr) (n1 n2 c1 c2 m c7 : Nat), u7 = .slice A7 m c7 ∧ u0 = .slice A1 n1 c1 ∧ u1 = .slice A2 n2 c2 ∧ a'.length = n1 ∧ b'.length = n2 ∧ n1 ≤ c1 ∧ n2 ≤ c2 ∧ c1 ≤ maxLen ∧ c2 ≤ maxLen ∧ (A1 = none → c1 = 0) ∧ (A2 = none → c2 = 0) ∧
    EntsAt w.heap.size wr A1 a' ∧ EntsAt w.heap.size wr A2 b' ∧ acc ++ mgk Prod.fst a' b' = mgk Prod.fst a b ∧ acc.length = m ∧ m + n1 + n2 ≤ 10000 ∧ n1 + n2 ≤ k ∧ wr.ownsRow w.heap.size 61 2 u7 m (entC acc) ∧ Below w.heap.size w wr
theorem cat3 {w : World} {v1 v2 v3 : Value} {l1 l2 l3 : List CE} {t : TypeId} (h1 : EntsV w.heap.size w v1 l1) (h2 : EntsV w.heap.size w v2 l2) (h3 : EntsV w.heap.size w v3 l3) :
    CatAt (w.alloc (.cells #[v1, v2, v3] t)).heap.size (w.alloc (.cells #[v1, v2, v3] t)) w.heap.size [l1, l2, l3] := by
  have hn := heap_alloc_new w (.cells #[v1, v2, v3] t)
  have key : ∀ (k : Nat) (v : Value) (l : List CE), (#[v1, v2, v3] : Array Value)[k]? = some v → EntsV w.heap.size w v l → ∃ A c, (w.alloc (.cells #[v1, v2, v3] t)).cell? ⟨w.heap.size, k, none⟩ = some (.slice A l.length c) ∧ l.length ≤ c ∧ c ≤ maxLen ∧ (A = none → c = 0) ∧ EntsAt (w.alloc (.cells #[v1, v2, v3] t)).heap.size (w.alloc (.cells #[v1, v2, v3] t)) A l := by
    rintro k v l hk ⟨A, c, rfl, e1, e2, e3, e4⟩
    refine ⟨A, c, (cell_of_row _ _ k _ _ _ hn).trans hk, e1, e2, e3, (EntsAt.below e4 ((Below.refl _ _).alloc (Nat.le_refl _) _)).more (by simp)⟩
  intro k l hl
  match k, hl with
  | 0, hl => simp at hl; subst hl; exact key 0 _ _ rfl h1
  | 1, hl => simp at hl; subst hl; exact key 1 _ _ rfl h2
  | 2, hl => simp at hl; subst hl; exact key 2 _ _ rfl h3
  | k + 3, hl => simp at hl

theorem cat_call {w wr : World} {v1 v2 v3 : Value} {l1 l2 l3 : List CE} (h1 : EntsV wr.heap.size wr v1 l1) (h2 : EntsV wr.heap.size wr v2 l2) (h3 : EntsV wr.heap.size wr v3 l3) (ht : (l1 ++ l2 ++ l3).length ≤ 20000) (hbw : Below w.heap.size w wr) :
    Calls Try.prog 43 #[.slice (some ⟨wr.heap.size, 0, none⟩) 3 3] (wr.alloc (.cells #[v1, v2, v3] 59)) fun e w' => ∃ v, e = .returned v ∧ w'.ownsRow w.heap.size 61 2 v (l1 ++ l2 ++ l3).length (entC (l1 ++ l2 ++ l3)) ∧ Below w.heap.size w w' := by
  have hb := hbw.alloc hbw.size (.cells #[v1, v2, v3] 59)
  have hf : ([l1, l2, l3] : List (List CE)).flatten = l1 ++ l2 ++ l3 := by simp
  refine (concat_any wr.heap.size [l1, l2, l3] _ (by simp) (by simp) (by rw [hf]; exact ht) (cat3 h1 h2 h3)).mono ?_
  rintro e w' ⟨v, rfl, ho, hb2⟩
  rw [hf] at ho
  exact ⟨v, rfl, ho.mono hb.size, hb.trans (hb2.mono hb.size)⟩
theorem grow_below {w1 w2 : World} {v : Value} {o : Obj} {B n size : Nat} {e : TypeId} {xs : List Value} (ho : w1.ownsRow B e size v n xs) (hs : B ≤ w1.heap.size) (hg : ((w1.alloc o).drew).grownBy w2 v.ownBlock) : Below B w1 w2 :=
  (((Below.refl _ w1).alloc hs o).drew).grown hg (by show B ≤ (w1.alloc o).heap.size; simp; omega) (fun k e => (ho.lt k e).1)
theorem mgk_end {a b a' b' acc : List CE} (h : acc ++ mgk Prod.fst a' b' = mgk Prod.fst a b) (hz : a' = [] ∨ b' = []) : mgk Prod.fst a b = acc ++ a' ++ b' := by
  rcases hz with rfl | rfl
  · rw [← h, mgk_nil]; simp
  · rw [← h, mgk_nil2]; simp
theorem minv_a {a b : List CE} {w w2 : World} {p1 o1 n1 n2 c1 c2 m gg cap : Nat} {A2 : Option Addr} {x y : CE} {a' b' acc : List CE}
    (hn1 : (x :: a').length = n1) (hn2 : (y :: b').length = n2) (hc1 : n1 ≤ c1) (hc2 : n2 ≤ c2) (hm1 : c1 ≤ maxLen) (hm2 : c2 ≤ maxLen) (hA2 : A2 = none → c2 = 0) (he1 : EntsAt w.heap.size w2 (some ⟨p1, o1, none⟩) (x :: a')) (he2 : EntsAt w.heap.size w2 A2 (y :: b'))
    (hmg : acc ++ mgk Prod.fst (x :: a') (y :: b') = mgk Prod.fst a b) (hle : x.1 ≤ y.1) (hm : acc.length = m) (ht : m + n1 + n2 ≤ 10000)
    (ho : w2.ownsRow w.heap.size 61 2 (.slice (some ⟨gg, 0, none⟩) (m + 1) cap) (m + 1) (entC acc ++ [.int .i64 x.1, .bool x.2])) (hb : Below w.heap.size w w2) :
    (c1 = 1 → MInv a b w (n1 - 1 + n2) (.slice (some ⟨p1, o1, none⟩) (n1 - 1) 0) (.slice A2 n2 c2) (.slice (some ⟨gg, 0, none⟩) (m + 1) cap) w2) ∧
    (c1 ≠ 1 → MInv a b w (n1 - 1 + n2) (.slice (some ⟨p1, o1 + 2, none⟩) (n1 - 1) (c1 - 1)) (.slice A2 n2 c2) (.slice (some ⟨gg, 0, none⟩) (m + 1) cap) w2) := by
  have e1 : (acc ++ [x]) ++ mgk Prod.fst a' (y :: b') = mgk Prod.fst a b := by rw [← hmg, mgk_le _ _ hle]; simp
  simp only [List.length_cons] at hn1
  constructor
  · intro h1
    have : a' = [] := List.length_eq_zero_iff.1 (by omega)
    subst this
    exact ⟨[], y :: b', acc ++ [x], some ⟨p1, o1, none⟩, A2, some ⟨gg, 0, none⟩, n1 - 1, n2, 0, c2, m + 1, cap, rfl, rfl, rfl, by simp only [List.length_nil] at hn1 ⊢; omega, hn2, by omega, hc2, by omega, hm2, (fun h => by cases h), hA2, fun h => by simp at h, he2, e1, by simp [hm], by omega, by omega, by rw [entC_snoc]; exact ho, hb⟩
  · intro h1
    exact ⟨a', y :: b', acc ++ [x], some ⟨p1, o1 + 2, none⟩, A2, some ⟨gg, 0, none⟩, n1 - 1, n2, c1 - 1, c2, m + 1, cap, rfl, rfl, rfl, by omega, hn2, by omega, hc2, by omega, hm2, (fun h => by cases h), hA2, he1.tail, he2, e1, by simp [hm], by omega, by omega, by rw [entC_snoc]; exact ho, hb⟩
theorem minv_b {a b : List CE} {w w2 : World} {p2 o2 n1 n2 c1 c2 m gg cap : Nat} {A1 : Option Addr} {x y : CE} {a' b' acc : List CE}
    (hn1 : (x :: a').length = n1) (hn2 : (y :: b').length = n2) (hc1 : n1 ≤ c1) (hc2 : n2 ≤ c2) (hm1 : c1 ≤ maxLen) (hm2 : c2 ≤ maxLen) (hA1 : A1 = none → c1 = 0) (he1 : EntsAt w.heap.size w2 A1 (x :: a')) (he2 : EntsAt w.heap.size w2 (some ⟨p2, o2, none⟩) (y :: b'))
    (hmg : acc ++ mgk Prod.fst (x :: a') (y :: b') = mgk Prod.fst a b) (hle : y.1 < x.1) (hm : acc.length = m) (ht : m + n1 + n2 ≤ 10000)
    (ho : w2.ownsRow w.heap.size 61 2 (.slice (some ⟨gg, 0, none⟩) (m + 1) cap) (m + 1) (entC acc ++ [.int .i64 y.1, .bool y.2])) (hb : Below w.heap.size w w2) :
    (c2 = 1 → MInv a b w (n1 + (n2 - 1)) (.slice A1 n1 c1) (.slice (some ⟨p2, o2, none⟩) (n2 - 1) 0) (.slice (some ⟨gg, 0, none⟩) (m + 1) cap) w2) ∧
    (c2 ≠ 1 → MInv a b w (n1 + (n2 - 1)) (.slice A1 n1 c1) (.slice (some ⟨p2, o2 + 2, none⟩) (n2 - 1) (c2 - 1)) (.slice (some ⟨gg, 0, none⟩) (m + 1) cap) w2) := by
  have e1 : (acc ++ [y]) ++ mgk Prod.fst (x :: a') b' = mgk Prod.fst a b := by rw [← hmg, mgk_gt _ _ hle]; simp
  simp only [List.length_cons] at hn2
  constructor
  · intro h1
    have : b' = [] := List.length_eq_zero_iff.1 (by omega)
    subst this
    exact ⟨x :: a', [], acc ++ [y], A1, some ⟨p2, o2, none⟩, some ⟨gg, 0, none⟩, n1, n2 - 1, c1, 0, m + 1, cap, rfl, rfl, rfl, hn1, by simp only [List.length_nil] at hn2 ⊢; omega, hc1, by omega, hm1, by omega, hA1, (fun h => by cases h), he1, fun h => by simp at h, e1, by simp [hm], by omega, by omega, by rw [entC_snoc]; exact ho, hb⟩
  · intro h1
    exact ⟨x :: a', b', acc ++ [y], A1, some ⟨p2, o2 + 2, none⟩, some ⟨gg, 0, none⟩, n1, n2 - 1, c1, c2 - 1, m + 1, cap, rfl, rfl, rfl, hn1, by omega, hc1, by omega, hm1, by omega, hA1, (fun h => by cases h), he1, he2.tail, e1, by simp [hm], by omega, by omega, by rw [entC_snoc]; exact ho, hb⟩

set_option maxHeartbeats 8000000 in
theorem merge_any (va vb : Value) (a b : List CE) (w : World) (ha : EntsV w.heap.size w va a) (hb : EntsV w.heap.size w vb b) (hl : a.length + b.length ≤ 10000) :
    Calls Try.prog 38 #[va, vb, fnCmp] w fun e w' => ∃ v, e = .returned v ∧ w'.ownsRow w.heap.size 61 2 v (mgk Prod.fst a b).length (entC (mgk Prod.fst a b)) ∧ Below w.heap.size w w' := by
  obtain ⟨A1, c1, rfl, a1, a2, a3, a4⟩ := ha
  obtain ⟨A2, c2, rfl, b1, b2, b3, b4⟩ := hb
  have H0 : Hid (MInv a b w (a.length + b.length) (.slice A1 a.length c1) (.slice A2 b.length c2) (.slice none 0 0) w) :=
    ⟨a, b, [], A1, A2, none, _, _, c1, c2, 0, 0, rfl, rfl, rfl, rfl, rfl, a1, b1, a2, b2, a3, b3, a4, b4, rfl, rfl, by omega, Nat.le_refl _, World.ownsRow_nil _ _ _ _, Below.refl _ _⟩
  clear a1 a2 a3 a4 b1 b2 b3 b4
  obtain ⟨i0, hi, hz0, hz1, hz2⟩ := info_parts Try.infoEntry
  go_enter Try.func38, Try.ntmps38
  go_wp2_with fail
  go_loopg [0, 1, 7] (a.length + b.length) (fun k u0 u1 u7 wr => MInv a b w k u0 u1 u7 wr)
  case atStart => exact H0.out
  case round =>
    clear H0
    obtain ⟨a', b', acc, A1, A2, A7, n1, n2, c1, c2, m, c7, rfl, rfl, rfl, hn1, hn2, hc1, hc2, hm1, hm2, hA1, hA2, he1, he2, hmg, hm, htot, hk, hown, hbw⟩ := hrel
    have HMG := Lib.hid hmg
    have HM := Lib.hid hm
    have HO := Lib.hid hown
    have HBW := Lib.hid hbw
    have HE1 := Lib.hid he1
    have HE2 := Lib.hid he2
    have HN1 := Lib.hid hn1
    have HN2 := Lib.hid hn2
    have HA1 := Lib.hid hA1
    have HA2 := Lib.hid hA2
    have hsz := hbw.size
    unfold maxLen at hm1 hm2
    clear hmg hm hown hbw he1 he2 hn1 hn2 hA1 hA2
    cases a' with
    | nil =>
      have hz : n1 = 0 := by have := HN1.out; simpa using this.symm
      have HT := Lib.hid (mgk_end HMG.out (.inl rfl))
      have V1 : EntsV wr.heap.size wr (.slice A7 m c7) acc := entsV_own (by rw [HM.out]; exact HO.out)
      have V2 : EntsV wr.heap.size wr (.slice A1 n1 c1) [] := ⟨A1, c1, by rw [hz]; rfl, by simp, by unfold maxLen; omega, HA1.out, HE1.out.more hsz⟩
      have V3 : EntsV wr.heap.size wr (.slice A2 n2 c2) b' := ⟨A2, c2, by rw [HN2.out], by rw [HN2.out]; exact hc2, by unfold maxLen; omega, HA2.out, HE2.out.more hsz⟩
      have HC := Lib.hid (cat_call (w := w) V1 V2 V3 (by have h1 := HM.out; have h2 := HN2.out; simp; omega) HBW.out)
      subst hz
      clear V1 V2 V3
      go_wp2_with fail
      refine HC.out.mono ?_
      rintro e w1 ⟨v, rfl, ho, hb⟩
      have HO1 := Lib.hid ho
      have HB1 := Lib.hid hb
      clear ho hb
      go_wp2_with fail
      go_ret
      exact ⟨v, rfl, by rw [HT.out]; exact HO1.out, HB1.out⟩
    | cons x a' =>
      cases b' with
      | nil =>
        have hz : n2 = 0 := by have := HN2.out; simpa using this.symm
        have h1 : 0 < n1 := by have := HN1.out; simp at this; omega
        have HT := Lib.hid (mgk_end HMG.out (.inr rfl))
        have V1 : EntsV wr.heap.size wr (.slice A7 m c7) acc := entsV_own (by rw [HM.out]; exact HO.out)
        have V2 : EntsV wr.heap.size wr (.slice A1 n1 c1) (x :: a') := ⟨A1, c1, by rw [HN1.out], by rw [HN1.out]; exact hc1, by unfold maxLen; omega, HA1.out, HE1.out.more hsz⟩
        have V3 : EntsV wr.heap.size wr (.slice A2 n2 c2) [] := ⟨A2, c2, by rw [hz]; rfl, by simp, by unfold maxLen; omega, HA2.out, HE2.out.more hsz⟩
        have HC := Lib.hid (cat_call (w := w) V1 V2 V3 (by have h1 := HM.out; have h2 := HN1.out; simp at h2; simp; omega) HBW.out)
        subst hz
        clear V1 V2 V3
        go_wp2_with fail
        refine HC.out.mono ?_
        rintro e w1 ⟨v, rfl, ho, hb⟩
        have HO1 := Lib.hid ho
        have HB1 := Lib.hid hb
        clear ho hb
        go_wp2_with fail
        go_ret
        exact ⟨v, rfl, by rw [HT.out]; exact HO1.out, HB1.out⟩
      | cons y b' =>
        obtain ⟨p1, o1, hA, hp1, x0, x1⟩ := HE1.out.get (i := 0) rfl
        obtain ⟨p2, o2, hA', hp2, y0, y1⟩ := HE2.out.get (i := 0) rfl
        subst hA hA'
        simp only [Nat.zero_mul, Nat.zero_add, Nat.add_zero] at x0 x1 y0 y1
        have h1 : 0 < n1 := by have := HN1.out; simp at this; omega
        have h2 : 0 < n2 := by have := HN2.out; simp at this; omega
        have h1I : (1 : Int) ≤ (n1 : Int) := by omega
        have h2I : (1 : Int) ≤ (n2 : Int) := by omega
        have h3I : (n1 : Int) ≤ (c1 : Int) := by omega
        have h4I : (n2 : Int) ≤ (c2 : Int) := by omega
        go_wp2_with fail
        go_still_tail 7, (by kernel_rfl)
        change wpList _ _ _ _ _ wr.drew
        go_wp2_with fail
        refine (ecmp_any x y _).mono ?_
        rintro e w1 ⟨rfl, hb1⟩
        have hs1 : wr.heap.size ≤ w1.heap.size := hb1.size
        have q := fun (b o : Nat) (h : b < w.heap.size) => (hb1.cell (p := ⟨b, o, none⟩) (show b < wr.drew.heap.size from by show b < wr.heap.size; omega))
        have x0' := (q p1 o1 hp1).trans x0
        have x1' := (q p1 (o1 + 1) hp1).trans x1
        have y0' := (q p2 o2 hp2).trans y0
        have y1' := (q p2 (o2 + 1) hp2).trans y1
        have HO1 := Lib.hid (ownBelow (w := wr.drew) HO.out hb1)
        have HB1 := Lib.hid (HBW.out.drew.trans (hb1.mono hsz))
        have HBR : Hid (Below w.heap.size wr w1) := ((Below.refl _ wr).drew).trans (hb1.mono hsz)
        have hne : ∀ b, b < w.heap.size → some b ≠ (Value.slice A7 m c7).ownBlock := fun b hb e => by have := (HO1.out.lt b e.symm).1; omega
        have HNE := Lib.hid hne
        clear hne
        clear x0 x1 y0 y1 q
        obtain ⟨r, hr⟩ : ∃ r, r = cmpO x.1 y.1 := ⟨_, rfl⟩
        rw [← hr]
        by_cases hle : x.1 ≤ y.1
        · have hr0 : r ≤ 0 := by rw [hr]; exact cmpO_le.2 hle
          have HLE := Lib.hid hle
          clear hle hr hb1
          go_wp2_with fail
          by_cases hc : c1 = 1
          · have hcI : ((c1 : Nat) : Int) = 1 := by omega
            go_region_held3 (fun w' => w'.cell? ⟨p1, o1, none⟩ = some (.int .i64 x.1) ∧ w'.cell? ⟨p1, o1 + 1, none⟩ = some (.bool x.2))
              (first
                | go_keep
                | (go_split_ands
                   refine ⟨?_, ?_⟩
                   · ((refine (hgrow.cell_far ⟨p1, _, none⟩ (by simp; omega) (HNE.out p1 hp1)).trans ?_); assumption)
                   · ((refine (hgrow.cell_far ⟨p1, _, none⟩ (by simp; omega) (HNE.out p1 hp1)).trans ?_); assumption)))
              ((refine step_append_lies _ (by rfl) (.tmp 25) (.tmp 29) 59 (by rfl) w.heap.size 61 i0 _ 2 16 Try.underlying59 hi hz0 hz1 hz2 rfl (by decide) (.slice A7 m c7) m (entC acc) (by rfl) ((HO1.out.alloc _).drew) ⟨w1.heap.size, 0, none⟩ 1 1 [.int .i64 x.1, .bool x.2] (by rfl) (by rfl) (World.news_of_block (cs := #[.int .i64 x.1, .bool x.2]) (t := 61) (fr := (0, 0)) (heap_alloc_new w1 _)) (by simp [Value.oneCell']) (by omega) (by unfold maxLen; omega) (by omega) (by simp; omega) (w1.heap.size + 1) (by simp) ?_; intro gg cap w2 hown2 hgrow hat hlt))
            have hb2 := grow_below HO1.out (Nat.le_trans hsz hs1) hgrow
            have HI := Lib.hid (minv_a (n2 := n2) (c2 := c2) HN1.out HN2.out hc1 hc2 (by unfold maxLen; omega) (by unfold maxLen; omega) HA2.out (HE1.out.below (HBR.out.trans hb2)) (HE2.out.below (HBR.out.trans hb2)) HMG.out HLE.out HM.out htot hown2 (HB1.out.trans hb2))
            have HI' := Lib.hid (HI.out.1 hc)
            clear hown2 hgrow hat hb2
            go_wp2_with fail
            go_roundg (n1 - 1 + n2)
            case rel => exact HI'.out
            case measure => omega
          · have hcN : ¬ c1 = 1 := hc
            go_region_held3 (fun w' => w'.cell? ⟨p1, o1, none⟩ = some (.int .i64 x.1) ∧ w'.cell? ⟨p1, o1 + 1, none⟩ = some (.bool x.2))
              (first
                | go_keep
                | (go_split_ands
                   refine ⟨?_, ?_⟩
                   · ((refine (hgrow.cell_far ⟨p1, _, none⟩ (by simp; omega) (HNE.out p1 hp1)).trans ?_); assumption)
                   · ((refine (hgrow.cell_far ⟨p1, _, none⟩ (by simp; omega) (HNE.out p1 hp1)).trans ?_); assumption)))
              ((refine step_append_lies _ (by rfl) (.tmp 25) (.tmp 29) 59 (by rfl) w.heap.size 61 i0 _ 2 16 Try.underlying59 hi hz0 hz1 hz2 rfl (by decide) (.slice A7 m c7) m (entC acc) (by rfl) ((HO1.out.alloc _).drew) ⟨w1.heap.size, 0, none⟩ 1 1 [.int .i64 x.1, .bool x.2] (by rfl) (by rfl) (World.news_of_block (cs := #[.int .i64 x.1, .bool x.2]) (t := 61) (fr := (0, 0)) (heap_alloc_new w1 _)) (by simp [Value.oneCell']) (by omega) (by unfold maxLen; omega) (by omega) (by simp; omega) (w1.heap.size + 1) (by simp) ?_; intro gg cap w2 hown2 hgrow hat hlt))
            have hb2 := grow_below HO1.out (Nat.le_trans hsz hs1) hgrow
            have HI := Lib.hid (minv_a (n2 := n2) (c2 := c2) HN1.out HN2.out hc1 hc2 (by unfold maxLen; omega) (by unfold maxLen; omega) HA2.out (HE1.out.below (HBR.out.trans hb2)) (HE2.out.below (HBR.out.trans hb2)) HMG.out HLE.out HM.out htot hown2 (HB1.out.trans hb2))
            have HI' := Lib.hid (HI.out.2 hc)
            clear hown2 hgrow hat hb2
            go_wp2_with fail
            go_roundg (n1 - 1 + n2)
            case rel => exact HI'.out
            case measure => omega
        · have hr0 : ¬ r ≤ 0 := by rw [hr]; intro h; exact hle (cmpO_le.1 h)
          have hr1 : 0 < r := by omega
          have HLE := Lib.hid (show y.1 < x.1 by omega)
          clear hle hr hb1 hr0
          go_wp2_with fail
          by_cases hc : c2 = 1
          · have hcI : ((c2 : Nat) : Int) = 1 := by omega
            go_region_held3 (fun w' => w'.cell? ⟨p2, o2, none⟩ = some (.int .i64 y.1) ∧ w'.cell? ⟨p2, o2 + 1, none⟩ = some (.bool y.2))
              (first
                | go_keep
                | (go_split_ands
                   refine ⟨?_, ?_⟩
                   · ((refine (hgrow.cell_far ⟨p2, _, none⟩ (by simp; omega) (HNE.out p2 hp2)).trans ?_); assumption)
                   · ((refine (hgrow.cell_far ⟨p2, _, none⟩ (by simp; omega) (HNE.out p2 hp2)).trans ?_); assumption)))
              ((refine step_append_lies _ (by rfl) (.tmp 33) (.tmp 37) 59 (by rfl) w.heap.size 61 i0 _ 2 16 Try.underlying59 hi hz0 hz1 hz2 rfl (by decide) (.slice A7 m c7) m (entC acc) (by rfl) ((HO1.out.alloc _).drew) ⟨w1.heap.size, 0, none⟩ 1 1 [.int .i64 y.1, .bool y.2] (by rfl) (by rfl) (World.news_of_block (cs := #[.int .i64 y.1, .bool y.2]) (t := 61) (fr := (0, 0)) (heap_alloc_new w1 _)) (by simp [Value.oneCell']) (by omega) (by unfold maxLen; omega) (by omega) (by simp; omega) (w1.heap.size + 1) (by simp) ?_; intro gg cap w2 hown2 hgrow hat hlt))
            have hb2 := grow_below HO1.out (Nat.le_trans hsz hs1) hgrow
            have HI := Lib.hid (minv_b (n1 := n1) (c1 := c1) HN1.out HN2.out hc1 hc2 (by unfold maxLen; omega) (by unfold maxLen; omega) HA1.out (HE1.out.below (HBR.out.trans hb2)) (HE2.out.below (HBR.out.trans hb2)) HMG.out HLE.out HM.out htot hown2 (HB1.out.trans hb2))
            have HI' := Lib.hid (HI.out.1 hc)
            clear hown2 hgrow hat hb2
            go_wp2_with fail
            go_roundg (n1 + (n2 - 1))
            case rel => exact HI'.out
            case measure => omega
          · have hcN : ¬ c2 = 1 := hc
            go_region_held3 (fun w' => w'.cell? ⟨p2, o2, none⟩ = some (.int .i64 y.1) ∧ w'.cell? ⟨p2, o2 + 1, none⟩ = some (.bool y.2))
              (first
                | go_keep
                | (go_split_ands
                   refine ⟨?_, ?_⟩
                   · ((refine (hgrow.cell_far ⟨p2, _, none⟩ (by simp; omega) (HNE.out p2 hp2)).trans ?_); assumption)
                   · ((refine (hgrow.cell_far ⟨p2, _, none⟩ (by simp; omega) (HNE.out p2 hp2)).trans ?_); assumption)))
              ((refine step_append_lies _ (by rfl) (.tmp 33) (.tmp 37) 59 (by rfl) w.heap.size 61 i0 _ 2 16 Try.underlying59 hi hz0 hz1 hz2 rfl (by decide) (.slice A7 m c7) m (entC acc) (by rfl) ((HO1.out.alloc _).drew) ⟨w1.heap.size, 0, none⟩ 1 1 [.int .i64 y.1, .bool y.2] (by rfl) (by rfl) (World.news_of_block (cs := #[.int .i64 y.1, .bool y.2]) (t := 61) (fr := (0, 0)) (heap_alloc_new w1 _)) (by simp [Value.oneCell']) (by omega) (by unfold maxLen; omega) (by omega) (by simp; omega) (w1.heap.size + 1) (by simp) ?_; intro gg cap w2 hown2 hgrow hat hlt))
            have hb2 := grow_below HO1.out (Nat.le_trans hsz hs1) hgrow
            have HI := Lib.hid (minv_b (n1 := n1) (c1 := c1) HN1.out HN2.out hc1 hc2 (by unfold maxLen; omega) (by unfold maxLen; omega) HA1.out (HE1.out.below (HBR.out.trans hb2)) (HE2.out.below (HBR.out.trans hb2)) HMG.out HLE.out HM.out htot hown2 (HB1.out.trans hb2))
            have HI' := Lib.hid (HI.out.2 hc)
            clear hown2 hgrow hat hb2
            go_wp2_with fail
            go_roundg (n1 + (n2 - 1))
            case rel => exact HI'.out
            case measure => omega
end Go.Proofs.Ytedjjleckhclcaa
