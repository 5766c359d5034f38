/- VersiontreeEuler: its walk. -/
import Derived.Deep.DeepCutAuto
import Derived.Deep.OwnRows
import Derived.Test.YthnlcbeibhhjpaaVtV
import Derived.Test.YthnlcbeibhhjpaaVtW
namespace Go.Proofs.Ythnlcbeibhhjpaa
open Go.RowKit
set_option maxRecDepth 100000
theorem madeZ (n : Nat) : (madeCells #[Value.int .i64 0] n).toList = (List.replicate n (0 : Int)).map (Value.int .i64) := by rw [List.map_replicate]; exact toList_madeCells_one _ _
/-- Two rows of numbers of the call's own. -/
structure TwoR (w5 : World) (p q m : Nat) (X Y : List Int) (W : World) : Prop where
  rp : W.ownsRow w5.heap.size 3 1 (.slice (some ⟨p, 0, none⟩) m m) m (X.map (Value.int .i64))
  rq : W.ownsRow w5.heap.size 3 1 (.slice (some ⟨q, 0, none⟩) m m) m (Y.map (Value.int .i64))
  hne : p ≠ q
  bel : Below w5.heap.size w5 W
theorem TwoR.lens {w5 : World} {p q m : Nat} {X Y : List Int} {W : World} (h : TwoR w5 p q m X Y W) : X.length = m ∧ Y.length = m := by
  have h1 := h.rp.1
  have h2 := h.rq.1
  rw [List.length_map] at h1 h2
  omega
theorem TwoR.setP {w5 : World} {p q m k : Nat} {X Y : List Int} {W : World} (h : TwoR w5 p q m X Y W) (x : Int) : TwoR w5 p q m (X.set k x) Y (W.setCell ⟨p, k, none⟩ (.int .i64 x)) := by
  have h1 := (h.rp.stored k (.int .i64 x)).1
  rw [← List.map_set] at h1
  have hp := (h.rp.lt p rfl).1
  have hne := h.hne
  refine ⟨h1, ownsRow_heap h.rq fun b hb => heap_off fun e => ?_, h.hne, h.bel.setCell (p := ⟨p, k, none⟩) hp _⟩
  have hbq : b = q := by simpa [Value.ownBlock] using hb.symm
  exact hne (e.symm.trans hbq)
theorem TwoR.setQ {w5 : World} {p q m k : Nat} {X Y : List Int} {W : World} (h : TwoR w5 p q m X Y W) (x : Int) : TwoR w5 p q m X (Y.set k x) (W.setCell ⟨q, k, none⟩ (.int .i64 x)) := by
  have h1 := (h.rq.stored k (.int .i64 x)).1
  rw [← List.map_set] at h1
  have hq := (h.rq.lt q rfl).1
  have hne := h.hne
  refine ⟨ownsRow_heap h.rp fun b hb => heap_off fun e => ?_, h1, h.hne, h.bel.setCell (p := ⟨q, k, none⟩) hq _⟩
  have hbp : b = p := by simpa [Value.ownBlock] using hb.symm
  exact hne (hbp.symm.trans e)
theorem TwoR.at' {w5 : World} {p q m k : Nat} {X Y : List Int} {W : World} (h : TwoR w5 p q m X Y W) (hk : k < m) : ∃ x y : Int, X[k]? = some x ∧ Y[k]? = some y ∧ W.cell? ⟨p, k, none⟩ = some (.int .i64 x) ∧ W.cell? ⟨q, k, none⟩ = some (.int .i64 y) ∧ W.frozen? ⟨p, k, none⟩ = false ∧ W.frozen? ⟨q, k, none⟩ = false := by
  obtain ⟨h1, h2⟩ := h.lens
  obtain ⟨x, hx⟩ : ∃ x, X[k]? = some x := ⟨X[k]'(by omega), List.getElem?_eq_getElem _⟩
  obtain ⟨y, hy⟩ : ∃ y, Y[k]? = some y := ⟨Y[k]'(by omega), List.getElem?_eq_getElem _⟩
  exact ⟨x, y, hx, hy, (h.rp.cellAt k (by omega)).trans (by rw [List.getElem?_map, hx]; rfl), (h.rq.cellAt k (by omega)).trans (by rw [List.getElem?_map, hy]; rfl), h.rp.frozenAt k, h.rq.frozenAt k⟩
theorem two_start (w5 : World) (p q m : Nat) (hm : m ≤ 1000) (W : World) (hp : w5.heap.size ≤ p) (hq : w5.heap.size ≤ q) (hne : p ≠ q) (h1 : W.heap[p]? = some (.cells (madeCells #[Value.int .i64 0] m) 3 (0, 0))) (h2 : W.heap[q]? = some (.cells (madeCells #[Value.int .i64 0] m) 3 (0, 0))) (hb : Below w5.heap.size w5 W) : TwoR w5 p q m (List.replicate m 0) (List.replicate m 0) W := by
  have hl : (madeCells #[Value.int .i64 0] m).size = m := by
    have := congrArg List.length (madeZ m)
    simpa using this
  have row : ∀ b, w5.heap.size ≤ b → W.heap[b]? = some (.cells (madeCells #[Value.int .i64 0] m) 3 (0, 0)) → W.ownsRow w5.heap.size 3 1 (.slice (some ⟨b, 0, none⟩) m m) m ((List.replicate m (0 : Int)).map (Value.int .i64)) := fun b hb hh => by
    refine ⟨by simp, Or.inr ⟨b, m, _, rfl, hb, hh, ?_⟩⟩
    exact ⟨Nat.le_refl _, by unfold maxLen; omega, by rw [hl]; omega, by rw [madeZ, List.take_of_length_le (by simp)]⟩
  exact ⟨row p hp h1, row q hq h2, hne, hb⟩
/-- What stands in the two rows after i visits. -/
def VisI (T : List Int) (m i : Nat) (X Y : List Int) : Prop := ∀ v : Nat, v < m → ((v : Int) ∉ T.take i ∧ X[v]? = some (-1)) ∨ ∃ f l : Nat, X[v]? = some (f : Int) ∧ Y[v]? = some (l : Int) ∧ FirstAt (T.take i) (v : Int) f ∧ LastAt (T.take i) (v : Int) l
theorem VisI.zero (T : List Int) (m : Nat) (X Y : List Int) (h : ∀ v, v < m → X[v]? = some (-1)) : VisI T m 0 X Y := fun v hv => Or.inl ⟨by simp, h v hv⟩
theorem VisI.next {T : List Int} {m i u : Nat} {X Y : List Int} (h : VisI T m i X Y) (hX : X.length = m) (hY : Y.length = m) (hu : u < m) (hT : T[i]? = some (u : Int)) (X' : List Int) (hX' : X' = if (u : Int) ∈ T.take i then X else X.set u (i : Int)) : VisI T m (i + 1) X' (Y.set u (i : Int)) := fun v hv => by
  have hil := (List.getElem?_eq_some_iff.1 hT).1
  have htk : T.take (i + 1) = T.take i ++ [(u : Int)] := by rw [List.take_add_one, hT]; rfl
  have hlen : (T.take i).length = i := by rw [List.length_take]; omega
  have last : ∀ j (y : Int), (T.take (i + 1))[j]? = some y → (j < i ∧ (T.take i)[j]? = some y) ∨ (j = i ∧ y = (u : Int)) := fun j y hj => by
    rw [htk] at hj
    rcases Nat.lt_or_ge j i with h1 | h1
    · rw [List.getElem?_append_left (by omega)] at hj; exact Or.inl ⟨h1, hj⟩
    · rw [List.getElem?_append_right (by omega), hlen] at hj
      have h2 := (List.getElem?_eq_some_iff.1 hj).1
      have h3 : j - i = 0 := by simpa using h2
      rw [h3] at hj
      exact Or.inr ⟨by omega, by simpa using hj.symm⟩
  have old : ∀ j (y : Int), (T.take i)[j]? = some y → (T.take (i + 1))[j]? = some y := fun j y hj => by
    rw [htk, List.getElem?_append_left (List.getElem?_eq_some_iff.1 hj).1]; exact hj
  have new : (T.take (i + 1))[i]? = some (u : Int) := by rw [htk, List.getElem?_append_right (by omega), hlen]; simp
  by_cases hvu : v = u
  · subst hvu
    right
    rcases h v hv with ⟨h1, h2⟩ | ⟨f, l, h1, h2, h3, h4⟩
    · rw [if_neg h1] at hX'
      subst hX'
      refine ⟨i, i, List.getElem?_set_self (by omega), List.getElem?_set_self (by omega), ⟨new, fun j hj => ?_⟩, ⟨new, fun j hj => ?_⟩⟩
      · rcases last j _ hj with ⟨e1, e2⟩ | ⟨e1, _⟩
        · exact absurd (List.mem_of_getElem? e2) h1
        · omega
      · rcases last j _ hj with ⟨e1, _⟩ | ⟨e1, _⟩ <;> omega
    · have hin : (v : Int) ∈ T.take i := List.mem_of_getElem? h3.1
      rw [if_pos hin] at hX'
      subst hX'
      refine ⟨f, i, h1, List.getElem?_set_self (by omega), ⟨old f _ h3.1, fun j hj => ?_⟩, ⟨new, fun j hj => ?_⟩⟩
      · rcases last j _ hj with ⟨e1, e2⟩ | ⟨e1, _⟩
        · exact h3.2 j e2
        · have := (List.getElem?_eq_some_iff.1 h3.1).1; omega
      · rcases last j _ hj with ⟨e1, _⟩ | ⟨e1, _⟩ <;> omega
  · have hXv : X'[v]? = X[v]? := by
      subst hX'
      split
      · rfl
      · rw [List.getElem?_set_ne (by omega)]
    have hYv : (Y.set u (i : Int))[v]? = Y[v]? := by rw [List.getElem?_set_ne (by omega)]
    rw [hXv, hYv]
    rcases h v hv with ⟨h1, h2⟩ | ⟨f, l, h1, h2, h3, h4⟩
    · left
      refine ⟨fun hm => ?_, h2⟩
      rw [htk] at hm
      rcases List.mem_append.1 hm with h5 | h5
      · exact h1 h5
      · have := List.mem_singleton.1 h5; omega
    · right
      refine ⟨f, l, h1, h2, ⟨old f _ h3.1, fun j hj => ?_⟩, ⟨old l _ h4.1, fun j hj => ?_⟩⟩
      · rcases last j _ hj with ⟨e1, e2⟩ | ⟨_, e2⟩
        · exact h3.2 j e2
        · omega
      · rcases last j _ hj with ⟨e1, e2⟩ | ⟨_, e2⟩
        · exact h4.2 j e2
        · omega
set_option maxHeartbeats 1000000 in
theorem contains_no (P : Nat → Prop) (A : Option Addr) (n c : Nat) (L : List Int) (x : Int) (w : World) (hn : L.length = n) (hm : n ≤ maxLen) (h : IntsAt P w A L) (hx : x ∉ L) :
    Calls Try.prog 32 #[.slice A n c, .int .i64 x] w fun e w' => e = .returned (.bool false) ∧ w = w' := by
  subst hn
  have HI := Lib.hid (index_any P A c L x w hm h)
  rw [idxI_none (fun i u _ hu => by
    have : u ∈ L := List.mem_of_getElem? hu
    simp only [beq_eq_false_iff_ne, ne_eq]
    rintro rfl
    exact hx this)] at HI
  clear h hx
  go_enter Try.func32, Try.ntmps32
  go_wp2_with fail
  refine HI.out.mono ?_
  rintro er w1 ⟨rfl, rfl⟩
  go_wp2_with fail
  go_ret
  exact ⟨rfl, rfl⟩
set_option maxHeartbeats 16000000 in
theorem lawEuler_any (A0 : Option Addr) (c0 : Nat) (L : List Int) (a b : Int) (w : World) (hm : L.length ≤ maxLen) (hA : IntsAt (· < w.heap.size) w A0 L) :
    Calls Try.prog 7 #[.slice A0 L.length c0, .int .i64 a, .int .i64 b] w fun e w' => e = .returned (.bool true) ∧ Below w.heap.size w w' := by
  unfold maxLen at hm
  have HW := Lib.hid (awakeV_any w)
  have HA := Lib.hid hA
  obtain ⟨n, hn⟩ : ∃ n, L.length = n := ⟨_, rfl⟩
  rw [hn] at hm ⊢
  have HN := Lib.hid hn
  clear hn hA
  by_cases h60 : n ≤ 60
  case neg =>
    have d1 : decide ((60 : Int) < (n : Int)) = true := decide_eq_true (by omega)
    go_enter Try.func7, Try.ntmps7
    go_wp2_with fail
    refine HW.out.mono ?_
    rintro er w1 ⟨rfl, hb1⟩
    go_wp2_with fail
    go_ret
    exact ⟨rfl, hb1⟩
  have d1 : decide ((60 : Int) < (n : Int)) = false := decide_eq_false (by omega)
  go_enter Try.func7, Try.ntmps7
  go_wp2_with fail
  refine HW.out.mono ?_
  rintro er w1 ⟨rfl, hb1⟩
  have HB1 := Lib.hid hb1
  have HP := Lib.hid (grown_any A0 c0 n L w1 HN.out (by omega) ((HA.out.below hb1).more (fun b hb => by have := hb1.size; omega)))
  clear hb1 HW
  go_wp2_with fail
  refine HP.out.mono ?_
  rintro er w2 ⟨x, Vs, A, cap, rfl, hix, hr, hmk, hb2⟩
  obtain ⟨m, hme⟩ : ∃ m, Vs.length = m := ⟨_, rfl⟩
  rw [hme] at hmk ⊢
  have HR0 := Lib.hid (QL.start (m := m) HB1.out hix hr hb2)
  have hml : m ≤ 61 := by omega
  have hm1 : 0 < m := by have := hix.pos; omega
  have HM := Lib.hid hme
  have HOK := Lib.hid hix.ok
  obtain ⟨T, hT⟩ : ∃ T, T = eulF (parV Vs) m (m + 1) 0 := ⟨_, rfl⟩
  obtain ⟨q2, hq2⟩ : ∃ q2, q2 = 2 * m := ⟨_, rfl⟩
  have hcnt : T.length = q2 := by rw [hT, hq2]; exact eul_count hix.ok hme
  have HQ2 := Lib.hid hq2
  have HT := Lib.hid hT
  have HCN := Lib.hid hcnt
  have hpl : (parV Vs).length = m := by rw [parV_len, hme]
  have HPL := Lib.hid hpl
  have HEU : Hid (∀ (A' : Option Addr) (cp : Nat) (W : World), ORow 0 W A' cp (parV Vs) → Calls Try.prog 13 #[.agg #[.slice A' m cp]] W fun e w' => (∃ A2 cp2, e = .returned (.tuple #[.slice A2 q2 cp2, .int .i64 0]) ∧ ORow W.heap.size w' A2 cp2 T) ∧ Below W.heap.size W w') := Lib.hid (fun A' cp W h => by
    have hl := h.len
    rw [HPL.out] at hl
    have h1 := euler_yes A' cp m (parV Vs) W HPL.out hl.2.1 hl.2.2 (intsAt_own h (fun _ _ h => h)) (HOK.out.vp (by rw [HM.out]; omega)) (by rw [← HT.out, HCN.out, HQ2.out]; omega)
    rw [← HT.out, HCN.out] at h1
    refine h1.mono ?_
    rintro e w' ⟨⟨A2, cp2, he, ho⟩, hb⟩
    refine ⟨⟨A2, cp2, he, ?_⟩, hb⟩
    unfold ORow
    rw [HCN.out]
    exact ho)
  have HTR := Lib.hid (ix_tree (w1.heap.size + 1) x m Vs _ HR0.out.ix hme (by omega))
  have hq2l : q2 ≤ 122 := by omega
  have hmul : (2 : Int) * (m : Int) = (q2 : Int) := by omega
  have e1 : ((q2 : Int) != (q2 : Int)) = false := by simp
  clear hix hr hb2 hme HP hT hcnt hpl hq2
  go_wp2_with fail
  refine HTR.out.mono ?_
  rintro er w3 ⟨⟨A1, cp1, rfl, hr1⟩, hb3⟩
  have HR3 := Lib.hid (HR0.out.next hb3)
  have HEU' := Lib.hid (HEU.out A1 cp1 w3 (hr1.more (by omega)))
  clear hr1 hb3 HTR
  go_wp2_with fail
  refine HEU'.out.mono ?_
  rintro er w4 ⟨⟨A2, cp2, rfl, hr2⟩, hb4⟩
  have HR4 := Lib.hid (HR3.out.next hb4)
  obtain ⟨g2, hA2⟩ : ∃ g2, A2 = some ⟨g2, 0, none⟩ := by
    obtain ⟨g, cap', hv, hg, hgl⟩ := World.ownsRow.form hr2 (by rw [HCN.out, HQ2.out]; omega)
    exact ⟨g, by injection hv⟩
  subst hA2
  have HT4 := Lib.hid hr2
  have HLEN := Lib.hid (ix_len (w1.heap.size + 1) x m Vs w4 HR4.out.ix HM.out (by omega))
  have hz4 : g2 < w4.heap.size := (World.ownsRow.lt hr2 g2 rfl).2
  clear hb4 hr2 HEU HEU'
  go_wp2_with fail
  refine HLEN.out.mono ?_
  rintro er w5 ⟨rfl, hb5⟩
  have HR5 := Lib.hid (HR4.out.next hb5)
  have HT5 := Lib.hid (HT4.out.below hb5)
  have hz5 : g2 < w5.heap.size := by have := hb5.size; omega
  have hmk := fun W => run_make_row' (P := Try.prog) 22 3 (.int .i64 0) 8 Try.underlying22 Try.infoInt (by rfl) .i64 .i64 m (by omega) (by omega) W
  clear hb5 HLEN HT4 HR4 HR3 HR0
  go_upto_region 12 with fail
  go_cut [13, 14] from 22 (fun v13 v14 wx => ∃ p q : Nat, v13 = .slice (some ⟨p, 0, none⟩) m m ∧ v14 = .slice (some ⟨q, 0, none⟩) m m ∧ TwoR w5 p q m (List.replicate m 0) (List.replicate m 0) wx ∧ p < wx.heap.size ∧ q < wx.heap.size)
  case first =>
    have hn1 := bdNew w5 (.cells (madeCells #[Value.int .i64 0] m) 3)
    have hn2 := bdNew (w5.alloc (.cells (madeCells #[Value.int .i64 0] m) 3)) (.cells (madeCells #[Value.int .i64 0] m) 3)
    have hsz6 : (w5.alloc (.cells (madeCells #[Value.int .i64 0] m) 3)).heap.size = w5.heap.size + 1 := by simp
    rw [hsz6] at hn2
    have hbb : Below w5.heap.size w5 (((w5.alloc (.cells (madeCells #[Value.int .i64 0] m) 3)).alloc (.cells (madeCells #[Value.int .i64 0] m) 3)).drew) := bdN (((Below.refl _ _).alloc (Nat.le_refl _) _).alloc (by simp) _) 1
    have HN1 := Lib.hid (bdOld (p := .cells (madeCells #[Value.int .i64 0] m) 3) hn1)
    have HN2 := Lib.hid hn2
    have HBB := Lib.hid hbb
    have HSS : Hid (((w5.alloc (.cells (madeCells #[Value.int .i64 0] m) 3)).alloc (.cells (madeCells #[Value.int .i64 0] m) 3)).drew.heap.size = w5.heap.size + 2) := Lib.hid (by simp)
    clear hn1 hn2 hsz6 hbb
    go_region
    all_goals
      go_wp2_with fail
      go_meet
      first
      | exact ⟨_, _, rfl, rfl, two_start w5 w5.heap.size (w5.heap.size + 1) m (by omega) _ (by omega) (by omega) (by omega) HN1.out HN2.out HBB.out, by rw [HSS.out]; omega, by rw [HSS.out]; omega⟩
      | exact ⟨_, _, rfl, rfl, two_start w5 (w5.heap.size + 1) w5.heap.size m (by omega) _ (by omega) (by omega) (by omega) HN2.out HN1.out HBB.out, by rw [HSS.out]; omega, by rw [HSS.out]; omega⟩
  case rest =>
    obtain ⟨p, q, rfl, rfl, htw, hpl, hql⟩ := hcut
    have HTW := Lib.hid htw
    clear htw
    go_wp2_with fail
    go_loopw [55] (fun s wr => ∃ (k : Nat) (X Y : List Int), k ≤ m ∧ s = .int .i64 k ∧ (∀ v, v < k → X[v]? = some (-1)) ∧ TwoR w5 p q m X Y wr ∧ p < wr.heap.size ∧ q < wr.heap.size) (fun s _ => m - (intOf s).toNat)
    case atStart => exact ⟨0, _, _, by omega, rfl, fun v hv => absurd hv (by omega), HTW.out, hpl, hql⟩
    case round =>
      obtain ⟨k, X, Y, hk, rfl, hneg, htw, hpl', hql'⟩ := hrel
      have HNEG := Lib.hid hneg
      have HTW1 := Lib.hid htw
      by_cases hlt : k < m
      · have hltI : (k : Int) < (m : Int) := by omega
        have hk0 : (0 : Int) ≤ (k : Int) := by omega
        obtain ⟨x0, y0, _, _, z0, z1, f0, f1⟩ := htw.at' hlt
        clear hneg htw
        go_wp2_with fail
        go_roundw
        case rel =>
          refine ⟨k + 1, X.set k (-1), Y, by omega, by go_num, fun v hv => ?_, HTW1.out.setP _, by simpa using hpl', by simpa using hql'⟩
          by_cases hvk : v = k
          · subst hvk; exact List.getElem?_set_self (by have := HTW1.out.lens.1; omega)
          · rw [List.getElem?_set_ne (by omega)]; exact HNEG.out v (by omega)
        case measure => simp [intOf]; omega
      · obtain rfl : k = m := by omega
        have HV0 := Lib.hid (VisI.zero T k X Y hneg)
        obtain ⟨wo, rfl⟩ : ∃ wo, wo = wr := ⟨_, rfl⟩
        clear hneg htw
        go_wp2_with fail
        go_loopw [64] (fun s wr => ∃ (i : Nat) (X Y : List Int), i ≤ q2 ∧ s = .int .i64 i ∧ VisI T k i X Y ∧ TwoR w5 p q k X Y wr ∧ p < wr.heap.size ∧ q < wr.heap.size) (fun s _ => q2 - (intOf s).toNat)
        case atStart => exact ⟨0, X, Y, by omega, rfl, HV0.out, HTW1.out, hpl', hql'⟩
        case round =>
          obtain ⟨i, X', Y', hi, rfl, hvis, htw, hpl2, hql2⟩ := hrel
          have HVI := Lib.hid hvis
          have HTW2 := Lib.hid htw
          by_cases hlt : i < q2
          · have hltI : (i : Int) < (q2 : Int) := by omega
            obtain ⟨t, ht⟩ : ∃ t, T[i]? = some t := ⟨T[i]'(by rw [HCN.out]; exact hlt), List.getElem?_eq_getElem _⟩
            obtain ⟨v, rfl, hvm, _⟩ := (eul_mem HOK.out HM.out (k + 1) 0 hm1 (by omega) t).1 (by rw [← HT.out]; exact List.mem_of_getElem? ht)
            have hTI := (intsAt_own (P := (· < w5.heap.size)) HT5.out (fun _ _ h => h)).below htw.bel
            obtain ⟨gb, off, hA, hgb, t0⟩ := hTI.get ht
            obtain rfl : gb = g2 := by injection hA with hA; injection hA with h1 h2 h3; exact h1.symm
            obtain rfl : off = 0 := by injection hA with hA; injection hA with h1 h2 h3; exact h2.symm
            rw [Nat.zero_add] at t0
            have hv0 : (0 : Int) ≤ (v : Int) := by omega
            have hvI : (v : Int) < (k : Int) := by omega
            obtain ⟨x0, y0, hx0, hy0, z0, z1, f0, f1⟩ := htw.at' hvm
            have hlens := htw.lens
            have hpge := (htw.rp.lt p rfl).1
            have hqge := (htw.rq.lt q rfl).1
            have hgp : gb ≠ p := by omega
            have hgq : gb ≠ q := by omega
            have hpq := htw.hne
            have hqp : q ≠ p := fun e => hpq e.symm
            have HTt := Lib.hid ht
            have HLN := Lib.hid hlens
            rcases hvis v hvm with ⟨h1, h2⟩ | ⟨f, l, h1, h2, h3, h4⟩
            · rw [hx0] at h2
              obtain rfl := Option.some.inj h2
              have HNX := Lib.hid (hvis.next hlens.1 hlens.2 hvm ht (X'.set v (i : Int)) (by rw [if_neg h1]))
              clear hvis htw ht hTI hx0 hy0 h1 h2 hlens hA
              go_wp2_with fail
              go_roundw
              case rel => exact ⟨i + 1, _, _, by omega, by go_num, HNX.out, (HTW2.out.setP _).setQ _, by simpa using hpl2, by simpa using hql2⟩
              case measure => simp [intOf]; omega
            · rw [hx0] at h1
              obtain rfl := Option.some.inj h1
              have d3 : decide ((f : Int) < 0) = false := decide_eq_false (by omega)
              have HNX := Lib.hid (hvis.next hlens.1 hlens.2 hvm ht X' (by rw [if_pos (List.mem_of_getElem? h3.1)]))
              clear hvis htw ht hTI hx0 hy0 h1 h2 h3 h4 hlens hA
              go_wp2_with fail
              go_roundw
              case rel => exact ⟨i + 1, _, _, by omega, by go_num, HNX.out, HTW2.out.setQ _, by simpa using hpl2, by simpa using hql2⟩
              case measure => simp [intOf]; omega
          · obtain rfl : i = q2 := by omega
            have hall : ∀ v : Nat, v < k → ∃ f l : Nat, X'[v]? = some (f : Int) ∧ Y'[v]? = some (l : Int) ∧ FirstAt T (v : Int) f ∧ LastAt T (v : Int) l := fun v hv => by
              rcases hvis v hv with ⟨h1, _⟩ | h1
              · exfalso
                refine h1 ?_
                rw [List.take_of_length_le (by rw [HCN.out]; exact Nat.le_refl _), HT.out]
                exact (eul_mem HOK.out HM.out (k + 1) 0 hm1 (by omega) _).2 ⟨v, rfl, hv, AncV.zero HOK.out v (by rw [HM.out]; exact hv)⟩
              · rw [List.take_of_length_le (by rw [HCN.out]; exact Nat.le_refl _)] at h1
                exact h1
            have hlx := htw.lens.1
            have HCON := Lib.hid (contains_no (fun _ => True) (some ⟨p, 0, none⟩) k k X' (-1) wr hlx (by unfold maxLen; omega) (intsAt_own (B := w5.heap.size) (n := k) (c := k) (by rw [hlx]; exact htw.rp) (fun _ _ _ => trivial)) (fun hmem => by
              obtain ⟨v, hv⟩ := List.getElem?_of_mem hmem
              obtain ⟨f, l, h1, _⟩ := hall v (by have := (List.getElem?_eq_some_iff.1 hv).1; omega)
              rw [h1] at hv
              have := Option.some.inj hv
              omega))
            have HALL := Lib.hid hall
            have HQF := Lib.hid (HR5.out.next htw.bel)
            clear hvis htw hall hlx
            go_wp2_with fail
            refine HCON.out.mono ?_
            rintro er w9 ⟨rfl, rfl⟩
            clear HCON
            by_cases h0 : a < 0
            · have e0' : decide (a < 0) = true := decide_eq_true h0
              go_wp2_with fail
              go_ret
              exact ⟨rfl, HQF.out.bel⟩
            have e0' : decide (a < 0) = false := decide_eq_false h0
            by_cases h1 : b < 0
            · have e1' : decide (b < 0) = true := decide_eq_true h1
              go_wp2_with fail
              go_ret
              exact ⟨rfl, HQF.out.bel⟩
            have e1' : decide (b < 0) = false := decide_eq_false h1
            by_cases h2 : (k : Int) ≤ a
            · have e2' : decide ((k : Int) ≤ a) = true := decide_eq_true h2
              go_wp2_with fail
              go_ret
              exact ⟨rfl, HQF.out.bel⟩
            have e2' : decide ((k : Int) ≤ a) = false := decide_eq_false h2
            by_cases h3 : (k : Int) ≤ b
            · have e3' : decide ((k : Int) ≤ b) = true := decide_eq_true h3
              go_wp2_with fail
              go_ret
              exact ⟨rfl, HQF.out.bel⟩
            have e3' : decide ((k : Int) ≤ b) = false := decide_eq_false h3
            obtain ⟨a, rfl⟩ : ∃ j : Nat, a = (j : Int) := ⟨a.toNat, by omega⟩
            obtain ⟨b, rfl⟩ : ∃ j : Nat, b = (j : Int) := ⟨b.toNat, by omega⟩
            have ha : a < k := by omega
            have hb : b < k := by omega
            clear h0 h1 h2 h3
            obtain ⟨fa, la, xa, ya, hfa, hla⟩ := HALL.out a ha
            obtain ⟨fb, lb, xb, yb, hfb, hlb⟩ := HALL.out b hb
            have henc := eul_enc HOK.out HM.out ha hb (by rw [← HT.out]; exact hfa) (by rw [← HT.out]; exact hla) (by rw [← HT.out]; exact hfb) (by rw [← HT.out]; exact hlb)
            have cell : ∀ v : Nat, v < k → ∀ f l : Nat, X'[v]? = some (f : Int) → Y'[v]? = some (l : Int) → wr.cell? ⟨p, v, none⟩ = some (.int .i64 f) ∧ wr.cell? ⟨q, v, none⟩ = some (.int .i64 l) := fun v hv f l e1 e2 => by
              obtain ⟨x, y, g1, g2, g3, g4, _⟩ := HTW2.out.at' hv
              rw [e1] at g1
              rw [e2] at g2
              rw [Option.some.inj g1, Option.some.inj g2]
              exact ⟨g3, g4⟩
            obtain ⟨ca, cl⟩ := cell a ha fa la xa ya
            obtain ⟨cb, clb⟩ := cell b hb fb lb xb yb
            obtain ⟨is, his⟩ : ∃ is : Bool, is = true ↔ AncV Vs a b := by
              by_cases h : AncV Vs a b
              · exact ⟨true, by simp [h]⟩
              · exact ⟨false, by simp [h]⟩
            have HAN := Lib.hid (ix_anc_yes (w1.heap.size + 1) x k a b Vs wr HQF.out.ix HM.out (by omega) ha hb is his)
            have d5 : decide ((fa : Int) < (la : Int)) = true := decide_eq_true (by omega)
            have d5' : decide (fa < la) = true := decide_eq_true (by omega)
            have d5'' : fa < la := by omega
            have hd : is = (decide ((fa : Int) ≤ (fb : Int)) && decide ((lb : Int) ≤ (la : Int))) := by
              cases hv : is
              · have hn : ¬ AncV Vs a b := fun h => by have := his.2 h; rw [hv] at this; cases this
                by_cases h1 : fa ≤ fb
                · by_cases h2 : lb ≤ la
                  · exact absurd (henc.2.1 ⟨h1, h2⟩) hn
                  · rw [decide_eq_false (show ¬ (lb : Int) ≤ (la : Int) by omega)]; simp
                · rw [decide_eq_false (show ¬ (fa : Int) ≤ (fb : Int) by omega)]; rfl
              · have := henc.2.2 (his.1 hv)
                rw [decide_eq_true (show (fa : Int) ≤ (fb : Int) by omega), decide_eq_true (show (lb : Int) ≤ (la : Int) by omega)]; rfl
            have HD := Lib.hid hd
            have ha0 : (0 : Int) ≤ (a : Int) := by omega
            have hb0 : (0 : Int) ≤ (b : Int) := by omega
            have haI : (a : Int) < (k : Int) := by omega
            have hbI : (b : Int) < (k : Int) := by omega
            clear xa ya hfa hla xb yb hfb hlb henc cell his hd
            go_wp2_with fail
            refine HAN.out.mono ?_
            rintro er w10 ⟨rfl, hb10⟩
            have ca' := (hb10.cell (p := ⟨p, a, none⟩) hpl2).trans ca
            have cl' := (hb10.cell (p := ⟨q, a, none⟩) hql2).trans cl
            have cb' := (hb10.cell (p := ⟨p, b, none⟩) hpl2).trans cb
            have clb' := (hb10.cell (p := ⟨q, b, none⟩) hql2).trans clb
            have HQG := Lib.hid (HQF.out.next hb10)
            clear hb10 ca cl cb clb
            by_cases h1 : fa ≤ fb
            · have d6 : decide ((fa : Int) ≤ (fb : Int)) = true := decide_eq_true (by omega)
              have d6' : decide (fa ≤ fb) = true := decide_eq_true (by omega)
              by_cases h2 : lb ≤ la
              · have d7 : decide ((lb : Int) ≤ (la : Int)) = true := decide_eq_true (by omega)
                have d7' : decide (lb ≤ la) = true := decide_eq_true (by omega)
                have d8 : is = true := by rw [HD.out, d6, d7]; rfl
                subst d8
                clear h1 h2
                go_wp2_with fail
                go_quiet (fail)
                go_wp2_with fail
                go_ret
                exact ⟨rfl, bdN HQG.out.bel _⟩
              · have d7 : decide ((lb : Int) ≤ (la : Int)) = false := decide_eq_false (by omega)
                have d7' : decide (lb ≤ la) = false := decide_eq_false (by omega)
                have d8 : is = false := by rw [HD.out, d6, d7]; rfl
                subst d8
                clear h1 h2
                go_wp2_with fail
                go_quiet (fail)
                go_wp2_with fail
                go_ret
                exact ⟨rfl, bdN HQG.out.bel _⟩
            · have d6 : decide ((fa : Int) ≤ (fb : Int)) = false := decide_eq_false (by omega)
              have d6' : decide (fa ≤ fb) = false := decide_eq_false (by omega)
              have d8 : is = false := by rw [HD.out, d6]; rfl
              subst d8
              clear h1
              go_wp2_with fail
              go_quiet (fail)
              go_wp2_with fail
              go_ret
              exact ⟨rfl, bdN HQG.out.bel _⟩
end Go.Proofs.Ythnlcbeibhhjpaa
