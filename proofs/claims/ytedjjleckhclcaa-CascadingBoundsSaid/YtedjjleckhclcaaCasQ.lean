/- Walks: the reference's merge. -/
import Derived.Test.YtedjjleckhclcaaCasP
namespace Go.Proofs.Ytedjjleckhclcaa
open Go.RowKit
set_option maxRecDepth 100000

theorem mstep_a {a b acc : List Int} {i k : Nat} {x : Int} (h : acc ++ mgk id (a.drop i) (b.drop k) = mgk id a b) (hx : a[i]? = some x) (hy : ∀ y, b[k]? = some y → x ≤ y) : (acc ++ [x]) ++ mgk id (a.drop (i + 1)) (b.drop k) = mgk id a b := by
  obtain ⟨hl, he⟩ := List.getElem?_eq_some_iff.1 hx
  rw [List.drop_eq_getElem_cons hl, he] at h
  rw [← h, List.append_assoc]
  congr 1
  rcases Nat.lt_or_ge k b.length with hk | hk
  · rw [List.drop_eq_getElem_cons hk, mgk_le _ _ (show id x ≤ id b[k] from hy _ (List.getElem?_eq_getElem hk))]; rfl
  · rw [List.drop_eq_nil_of_le hk, mgk_nil2, mgk_nil2]; rfl
theorem mstep_b {a b acc : List Int} {i k : Nat} {y : Int} (h : acc ++ mgk id (a.drop i) (b.drop k) = mgk id a b) (hy : b[k]? = some y) (hx : ∀ x, a[i]? = some x → y < x) : (acc ++ [y]) ++ mgk id (a.drop i) (b.drop (k + 1)) = mgk id a b := by
  obtain ⟨hl, he⟩ := List.getElem?_eq_some_iff.1 hy
  rw [List.drop_eq_getElem_cons hl, he] at h
  rw [← h, List.append_assoc]
  congr 1
  rcases Nat.lt_or_ge i a.length with hk | hk
  · rw [List.drop_eq_getElem_cons hk, mgk_gt _ _ (show id y < id a[i] from hx _ (List.getElem?_eq_getElem hk))]; rfl
  · rw [List.drop_eq_nil_of_le hk, mgk_nil, mgk_nil]; rfl
theorem mend {a b acc : List Int} {i k : Nat} (h : acc ++ mgk id (a.drop i) (b.drop k) = mgk id a b) (hi : a.length ≤ i) (hk : b.length ≤ k) : acc = mgk id a b := by
  rw [List.drop_eq_nil_of_le hi, List.drop_eq_nil_of_le hk, mgk_nil, List.append_nil] at h
  exact h
/-- What the loop of merge keeps. -/
def RInv (w : World) (a b : List Int) (i k m : Nat) (v : Value) (wr : World) : Prop :=
  ∃ acc : List Int, acc ++ mgk id (a.drop i) (b.drop k) = mgk id a b ∧ acc.length = m ∧ wr.ownsRow w.heap.size 3 1 v m (vals acc) ∧ Below w.heap.size w wr
theorem rinv_post {w wr : World} {a b : List Int} {i k m : Nat} {v : Value} (h : RInv w a b i k m v wr) (hi : a.length ≤ i) (hk : b.length ≤ k) : IntsV (fun x => w.heap.size ≤ x ∧ x < wr.heap.size) wr v (mgk id a b) ∧ Below w.heap.size w wr := by
  obtain ⟨acc, h1, h2, h3, h4⟩ := h
  have e := mend h1 hi hk
  subst e
  rw [← h2] at h3
  exact ⟨intsV_own h3 (fun x h1 h2 => ⟨h1, h2⟩), h4⟩

set_option maxHeartbeats 8000000 in
theorem rmerge_any (A1 A2 : Option Addr) (c1 c2 : Nat) (a b : List Int) (w : World) (h1 : IntsAt (· < w.heap.size) w A1 a) (h2 : IntsAt (· < w.heap.size) w A2 b) (hl : a.length + b.length ≤ 10000) :
    Calls Try.prog 31 #[.slice A1 a.length c1, .slice A2 b.length c2] w fun e w' => ∃ v, e = .returned v ∧ IntsV (fun x => w.heap.size ≤ x ∧ x < w'.heap.size) w' v (mgk id a b) ∧ Below w.heap.size w w' := by
  have H1 := Lib.hid h1
  have H2 := Lib.hid h2
  clear h1 h2
  obtain ⟨na, hna⟩ : ∃ na, a.length = na := ⟨_, rfl⟩
  obtain ⟨nb, hnb⟩ : ∃ nb, b.length = nb := ⟨_, rfl⟩
  have HNA := Lib.hid hna
  have HNB := Lib.hid hnb
  rw [hna, hnb] at hl ⊢
  clear hna hnb
  have H0 : Hid (RInv w a b 0 0 0 (.slice none 0 0) w) := Lib.hid ⟨[], rfl, rfl, World.ownsRow_nil _ _ _ _, Below.refl _ _⟩
  obtain ⟨i1, hi1, hy0, hy1, hy2⟩ := info_parts Try.infoInt
  go_enter Try.func31, Try.ntmps31
  go_wp2_with fail
  go_loopw [5, 6, 7] (fun u vi vk wr => ∃ (i k m c : Nat) (A : Option Addr), i ≤ na ∧ k ≤ nb ∧ Hid (m = i + k) ∧ vi = .int .i64 i ∧ vk = .int .i64 k ∧ u = .slice A m c ∧ RInv w a b i k m (.slice A m c) wr) (fun _ vi vk _ => (na - (intOf vi).toNat) + (nb - (intOf vk).toNat))
  case atStart => exact ⟨0, 0, 0, 0, none, by omega, by omega, Lib.hid rfl, rfl, rfl, rfl, H0.out⟩
  case round =>
    clear H0
    obtain ⟨i, k, m, c, A, hi, hk, HMM, rfl, rfl, rfl, acc, hmg, hml, hown, hbw⟩ := hrel
    have HMG := Lib.hid hmg
    have HML := Lib.hid hml
    have HO := Lib.hid hown
    have HB := Lib.hid hbw
    have hsz := hbw.size
    have hm : m ≤ 10000 := by have := HMM.out; omega
    clear hmg hml hown hbw
    by_cases hli : i < na
    · obtain ⟨x, hx⟩ : ∃ x, a[i]? = some x := ⟨a[i]'(by rw [HNA.out]; exact hli), List.getElem?_eq_getElem _⟩
      obtain ⟨p1, o1, hA, hp1, hc1⟩ := H1.out (by rw [HNA.out]; omega)
      subst hA
      have x0 := (HB.out.cell (p := ⟨p1, o1 + i, none⟩) hp1).trans (hc1 i x hx)
      have hliI : (i : Int) < (na : Int) := by omega
      have hd0 : decide ((i : Int) < (na : Int)) = true := decide_eq_true hliI
      have HX := Lib.hid hx
      clear hx hc1
      by_cases hlk : k < nb
      · obtain ⟨y, hy⟩ : ∃ y, b[k]? = some y := ⟨b[k]'(by rw [HNB.out]; exact hlk), List.getElem?_eq_getElem _⟩
        obtain ⟨p2, o2, hA, hp2, hc2⟩ := H2.out (by rw [HNB.out]; omega)
        subst hA
        have y0 := (HB.out.cell (p := ⟨p2, o2 + k, none⟩) hp2).trans (hc2 k y hy)
        have hlkI : (k : Int) < (nb : Int) := by omega
        have hd1 : decide ((nb : Int) ≤ (k : Int)) = false := decide_eq_false (by omega)
        have hd1n : decide (nb ≤ k) = false := decide_eq_false (by omega)
        have HY := Lib.hid hy
        clear hy hc2
        by_cases hxy : x ≤ y
        · have hd2 : decide (x ≤ y) = true := decide_eq_true hxy
          have HS : Hid (∀ acc, acc ++ mgk id (a.drop i) (b.drop k) = mgk id a b → (acc ++ [x]) ++ mgk id (a.drop (i + 1)) (b.drop k) = mgk id a b) := Lib.hid fun acc h => mstep_a h HX.out (fun z hz => by rw [HY.out] at hz; obtain rfl := Option.some.inj hz; exact hxy)
          go_wp2_with fail
          go_quiet (fail)
          go_wp2_with (at_builtin; refine wpList_append_lies _ rfl (.tmp 39) (.tmp 44) 31 rfl w.heap.size 3 i1 _ 1 8 Try.underlying31 hi1 hy0 hy1 hy2 rfl (by decide) (.slice A m c) m (vals acc) rfl (World.ownsRow.alloc (w := (wr.drewN nq)) HO.out _) ⟨wr.heap.size, 0, none⟩ 1 1 [.int .i64 x] rfl rfl (World.news_of_block (cs := #[.int .i64 x]) (t := 3) (fr := (0, 0)) (heap_alloc_new (wr.drewN nq) _)) (by simp [Value.oneCell']) (by omega) (by unfold maxLen; omega) (by omega) (by simp; omega) (wr.heap.size + 1) (by simp) ?_; intro g cap w2 hown2 hgrow hat hlt2)
          have HBB := Lib.hid (app_below (w1 := (wr.drewN nq)) (below_drewN HB.out nq) HO.out (Nat.le_refl _) hsz hgrow)
          have HI : Hid (RInv w a b (i + 1) k (m + 1) (.slice (some ⟨g, 0, none⟩) (m + 1) cap) w2) := Lib.hid ⟨acc ++ [x], HS.out _ HMG.out, by rw [List.length_append, HML.out]; rfl, by rw [vals_snoc]; exact hown2, HBB.out⟩
          clear hown2 hgrow hat hlt2 HBB
          go_wp2_with fail
          go_roundw
          case rel => exact ⟨(i + 1), k, m + 1, cap, some ⟨g, 0, none⟩, by omega, by omega, Lib.hid (by have := HMM.out; omega), by go_num, by go_num, rfl, HI.out⟩
          case measure => simp [intOf]; omega
        · have hd2 : decide (x ≤ y) = false := decide_eq_false hxy
          have HS : Hid (∀ acc, acc ++ mgk id (a.drop i) (b.drop k) = mgk id a b → (acc ++ [y]) ++ mgk id (a.drop i) (b.drop (k + 1)) = mgk id a b) := Lib.hid fun acc h => mstep_b h HY.out (fun z hz => by rw [HX.out] at hz; obtain rfl := Option.some.inj hz; omega)
          go_wp2_with fail
          go_quiet (fail)
          go_wp2_with (at_builtin; refine wpList_append_lies _ rfl (.tmp 48) (.tmp 53) 31 rfl w.heap.size 3 i1 _ 1 8 Try.underlying31 hi1 hy0 hy1 hy2 rfl (by decide) (.slice A m c) m (vals acc) rfl (World.ownsRow.alloc (w := (wr.drewN nq)) HO.out _) ⟨wr.heap.size, 0, none⟩ 1 1 [.int .i64 y] rfl rfl (World.news_of_block (cs := #[.int .i64 y]) (t := 3) (fr := (0, 0)) (heap_alloc_new (wr.drewN nq) _)) (by simp [Value.oneCell']) (by omega) (by unfold maxLen; omega) (by omega) (by simp; omega) (wr.heap.size + 1) (by simp) ?_; intro g cap w2 hown2 hgrow hat hlt2)
          have HBB := Lib.hid (app_below (w1 := (wr.drewN nq)) (below_drewN HB.out nq) HO.out (Nat.le_refl _) hsz hgrow)
          have HI : Hid (RInv w a b i (k + 1) (m + 1) (.slice (some ⟨g, 0, none⟩) (m + 1) cap) w2) := Lib.hid ⟨acc ++ [y], HS.out _ HMG.out, by rw [List.length_append, HML.out]; rfl, by rw [vals_snoc]; exact hown2, HBB.out⟩
          clear hown2 hgrow hat hlt2 HBB
          go_wp2_with fail
          go_roundw
          case rel => exact ⟨i, (k + 1), m + 1, cap, some ⟨g, 0, none⟩, by omega, by omega, Lib.hid (by have := HMM.out; omega), by go_num, by go_num, rfl, HI.out⟩
          case measure => simp [intOf]; omega
      · have hd1 : decide ((nb : Int) ≤ (k : Int)) = true := decide_eq_true (by omega)
        have hd1n : decide (nb ≤ k) = true := decide_eq_true (by omega)
        have hkI : (nb : Int) ≤ (k : Int) := by omega
        have HS : Hid (∀ acc, acc ++ mgk id (a.drop i) (b.drop k) = mgk id a b → (acc ++ [x]) ++ mgk id (a.drop (i + 1)) (b.drop k) = mgk id a b) := Lib.hid fun acc h => mstep_a h HX.out (fun z hz => absurd (List.getElem?_eq_some_iff.1 hz).1 (by rw [HNB.out]; exact hlk))
        go_wp2_with fail
        go_quiet (fail)
        go_wp2_with (at_builtin; refine wpList_append_lies _ rfl (.tmp 39) (.tmp 44) 31 rfl w.heap.size 3 i1 _ 1 8 Try.underlying31 hi1 hy0 hy1 hy2 rfl (by decide) (.slice A m c) m (vals acc) rfl (World.ownsRow.alloc (w := (wr.drewN nq)) HO.out _) ⟨wr.heap.size, 0, none⟩ 1 1 [.int .i64 x] rfl rfl (World.news_of_block (cs := #[.int .i64 x]) (t := 3) (fr := (0, 0)) (heap_alloc_new (wr.drewN nq) _)) (by simp [Value.oneCell']) (by omega) (by unfold maxLen; omega) (by omega) (by simp; omega) (wr.heap.size + 1) (by simp) ?_; intro g cap w2 hown2 hgrow hat hlt2)
        have HBB := Lib.hid (app_below (w1 := (wr.drewN nq)) (below_drewN HB.out nq) HO.out (Nat.le_refl _) hsz hgrow)
        have HI : Hid (RInv w a b (i + 1) k (m + 1) (.slice (some ⟨g, 0, none⟩) (m + 1) cap) w2) := Lib.hid ⟨acc ++ [x], HS.out _ HMG.out, by rw [List.length_append, HML.out]; rfl, by rw [vals_snoc]; exact hown2, HBB.out⟩
        clear hown2 hgrow hat hlt2 HBB
        go_wp2_with fail
        go_roundw
        case rel => exact ⟨(i + 1), k, m + 1, cap, some ⟨g, 0, none⟩, by omega, by omega, Lib.hid (by have := HMM.out; omega), by go_num, by go_num, rfl, HI.out⟩
        case measure => simp [intOf]; omega
    · have hd0 : decide ((i : Int) < (na : Int)) = false := decide_eq_false (by omega)
      have hd0n : decide (i < na) = false := decide_eq_false (by omega)
      have hinI : (na : Int) ≤ (i : Int) := by omega
      have hliI : ¬ (i : Int) < (na : Int) := by omega
      by_cases hlk : k < nb
      · obtain ⟨y, hy⟩ : ∃ y, b[k]? = some y := ⟨b[k]'(by rw [HNB.out]; exact hlk), List.getElem?_eq_getElem _⟩
        obtain ⟨p2, o2, hA, hp2, hc2⟩ := H2.out (by rw [HNB.out]; omega)
        subst hA
        have y0 := (HB.out.cell (p := ⟨p2, o2 + k, none⟩) hp2).trans (hc2 k y hy)
        have hlkI : (k : Int) < (nb : Int) := by omega
        have hd1 : decide ((nb : Int) ≤ (k : Int)) = false := decide_eq_false (by omega)
        have hd1n : decide (nb ≤ k) = false := decide_eq_false (by omega)
        have HY := Lib.hid hy
        clear hy hc2
        have HS : Hid (∀ acc, acc ++ mgk id (a.drop i) (b.drop k) = mgk id a b → (acc ++ [y]) ++ mgk id (a.drop i) (b.drop (k + 1)) = mgk id a b) := Lib.hid fun acc h => mstep_b h HY.out (fun z hz => absurd (List.getElem?_eq_some_iff.1 hz).1 (by rw [HNA.out]; exact hli))
        go_wp2_with fail
        go_quiet (fail)
        go_wp2_with (at_builtin; refine wpList_append_lies _ rfl (.tmp 48) (.tmp 53) 31 rfl w.heap.size 3 i1 _ 1 8 Try.underlying31 hi1 hy0 hy1 hy2 rfl (by decide) (.slice A m c) m (vals acc) rfl (World.ownsRow.alloc (w := (wr.drewN nq)) HO.out _) ⟨wr.heap.size, 0, none⟩ 1 1 [.int .i64 y] rfl rfl (World.news_of_block (cs := #[.int .i64 y]) (t := 3) (fr := (0, 0)) (heap_alloc_new (wr.drewN nq) _)) (by simp [Value.oneCell']) (by omega) (by unfold maxLen; omega) (by omega) (by simp; omega) (wr.heap.size + 1) (by simp) ?_; intro g cap w2 hown2 hgrow hat hlt2)
        have HBB := Lib.hid (app_below (w1 := (wr.drewN nq)) (below_drewN HB.out nq) HO.out (Nat.le_refl _) hsz hgrow)
        have HI : Hid (RInv w a b i (k + 1) (m + 1) (.slice (some ⟨g, 0, none⟩) (m + 1) cap) w2) := Lib.hid ⟨acc ++ [y], HS.out _ HMG.out, by rw [List.length_append, HML.out]; rfl, by rw [vals_snoc]; exact hown2, HBB.out⟩
        clear hown2 hgrow hat hlt2 HBB
        go_wp2_with fail
        go_roundw
        case rel => exact ⟨i, (k + 1), m + 1, cap, some ⟨g, 0, none⟩, by omega, by omega, Lib.hid (by have := HMM.out; omega), by go_num, by go_num, rfl, HI.out⟩
        case measure => simp [intOf]; omega
      · have HP := Lib.hid (rinv_post (w := w) (wr := wr) (a := a) (b := b) (i := i) (k := k) (m := m) (v := .slice A m c) ⟨acc, HMG.out, HML.out, HO.out, HB.out⟩ (by rw [HNA.out]; omega) (by rw [HNB.out]; omega))
        go_wp2_with fail
        go_ret
        exact ⟨_, rfl, HP.out⟩
end Go.Proofs.Ytedjjleckhclcaa
