/- The reference's Blocks. -/
import Derived.Test.YtmlgbmfjnbhamaaTlN
namespace Go.Proofs.Ytmlgbmfjnbhamaa
open Go.RowKit
set_option maxRecDepth 100000
theorem disA_le (bs : List Int) : (disA bs).length ≤ bs.length := by
  induction bs using rev_ind with
  | h0 => simp [disA]
  | h1 l y ih =>
    rw [disA_snoc]
    split
    · rw [List.length_append]; omega
    · rw [List.length_append, List.length_append]; simp; omega
theorem take_mem {S : List Int} {k : Nat} {y q : Int} (h : S[k]? = some y) : (q ∈ S.take (k + 1)) ↔ (q ∈ S.take k ∨ y = q) := by
  rw [List.take_add_one, h, List.mem_append]
  simp only [Option.toList_some, List.mem_singleton]
  exact ⟨fun h => h.imp_right Eq.symm, fun h => h.imp_right Eq.symm⟩
set_option maxHeartbeats 8000000 in
theorem refBlocks_any (A1 A2 : Option Addr) (c1 c2 n m : Nat) (L M : List Int) (sz : Int) (w : World) (hn : L.length = n) (hm : M.length = m) (_hnl : n ≤ 60000) (hml : m ≤ 60000) (h1 : IntsAt (· < w.heap.size) w A1 L) (h2 : IntsAt (· < w.heap.size) w A2 M) (hk : InvK L n) (hs : 1 ≤ sz)
    (hM : ∀ (j : Nat) (v : Int), M[j]? = some v → 0 ≤ v ∧ v < (n : Int)) :
    Calls Try.prog 23 #[.slice A1 n c1, .slice A2 m c2, .int .i64 sz] w fun e w' => e = .returned (.int .i64 ((disA (blks L M sz)).length : Int)) ∧ Below w.heap.size w w' := by
  have H1 := Lib.hid h1
  have H2 := Lib.hid h2
  have HN := Lib.hid hn
  have HMN := Lib.hid hm
  have HK := Lib.hid hk
  have HMR := Lib.hid hM
  obtain ⟨i1, hi1, hy0, hy1, hy2⟩ := info_parts Try.infoInt
  obtain ⟨c, hc⟩ : ∃ c, c = (disA (blks L M sz)).length := ⟨_, rfl⟩
  rw [← hc]
  have HC := Lib.hid hc
  clear h1 h2 hn hm hk hM hc
  go_enter Try.func23, Try.ntmps23
  go_wp2_with fail
  go_loopw [7, 8, 9, 10, 11] (fun s7 s8 _ _ _ wr => ∃ (j sl cp : Nat) (A7 : Option Addr), j ≤ m ∧ s8 = .int .i64 j ∧ sl = (disA (blks L (M.take j) sz)).length ∧ s7 = .slice A7 sl cp ∧ wr.ownsRow w.heap.size 3 1 (.slice A7 sl cp) sl ((disA (blks L (M.take j) sz)).map (Value.int .i64)) ∧ Below w.heap.size w wr) (fun _ s8 _ _ _ _ => m - (intOf s8).toNat)
  case atStart => exact ⟨0, 0, 0, none, by omega, rfl, rfl, rfl, World.ownsRow_nil _ _ _ _, Below.refl _ _⟩
  case round =>
    obtain ⟨j, sl, cp, A7, hj, rfl, hsl, rfl, how, hb⟩ := hrel
    have HOW := Lib.hid how
    have HB := Lib.hid hb
    have hsz := hb.size
    have hslm : sl ≤ 60000 := by rw [hsl]; exact Nat.le_trans (disA_le _) (by unfold blks; rw [List.length_map, List.length_take]; omega)
    obtain ⟨S, hS⟩ : ∃ S, S = disA (blks L (M.take j) sz) := ⟨_, rfl⟩
    rw [← hS] at hsl HOW how
    have HSL := Lib.hid hsl
    have HS := Lib.hid hS
    by_cases hlt : j < m
    · have hltI : (j : Int) < (m : Int) := by omega
      have hj0 : (0 : Int) ≤ (j : Int) := by omega
      obtain ⟨v, hv⟩ : ∃ v, M[j]? = some v := ⟨M[j]'(by rw [HMN.out]; exact hlt), List.getElem?_eq_getElem _⟩
      obtain ⟨b2, o2, hA2, hbl2, y0⟩ := (H2.out.below hb).get hv
      subst hA2
      obtain ⟨v0, v1⟩ := HMR.out j v hv
      obtain ⟨p, rfl⟩ : ∃ p : Nat, v = (p : Int) := ⟨v.toNat, by omega⟩
      have hpn : p < n := by omega
      have hpI : (p : Int) < (n : Int) := by omega
      have hp0 : (0 : Int) ≤ (p : Int) := by omega
      obtain ⟨x, hxx⟩ : ∃ x, L[p]? = some x := ⟨L[p]'(by rw [HN.out]; exact hpn), List.getElem?_eq_getElem _⟩
      obtain ⟨b1, o1, hA1, hbl1, x0⟩ := (H1.out.below hb).get hxx
      subst hA1
      obtain ⟨q1, q2, _⟩ := HK.out.ok p hpn
      have hxD := getD_of hxx
      rw [hxD] at q1 q2
      rw [HN.out] at q2
      obtain ⟨q, hq⟩ : ∃ q, x.tdiv sz = q := ⟨_, rfl⟩
      have hbt := blks_take (L := L) (sz := sz) hv
      rw [Int.toNat_natCast, hxD, hq] at hbt
      have hdis := disA_snoc (blks L (M.take j) sz) q
      rw [← hbt, ← hS] at hdis
      have HDIS := Lib.hid hdis
      have hq0 : 0 ≤ q := by rw [← hq, Int.tdiv_eq_ediv_of_nonneg q1]; exact Int.ediv_nonneg q1 (by omega)
      have hq1 : q ≤ 60000 := by rw [← hq, Int.tdiv_eq_ediv_of_nonneg q1]; exact Int.le_trans (Int.ediv_le_self _ q1) (by omega)
      have hz : sz ≠ 0 := by omega
      have hxl : x ≤ 60000 := by omega
      clear how hb hv hxx hbt hxD hsl hS hdis
      go_wp2_with fail
      go_loop [10, 11] (fun s10 s11 => ∃ k : Nat, k ≤ sl ∧ s11 = .int .i64 k ∧ s10 = .bool (decide (q ∈ S.take k))) (fun _ s11 => sl - (intOf s11).toNat)
      case atStart => exact ⟨0, by omega, rfl, by simp⟩
      case round =>
        obtain ⟨k, hk, rfl, rfl⟩ := hrel
        by_cases hks : k < sl
        · have hksI : (k : Int) < (sl : Int) := by omega
          have hk0 : (0 : Int) ≤ (k : Int) := by omega
          obtain ⟨y, hy⟩ : ∃ y, S[k]? = some y := ⟨S[k]'(by have := HSL.out; omega), List.getElem?_eq_getElem _⟩
          obtain ⟨g, cp', hvv, hg, hgl⟩ := HOW.out.form (by omega)
          have hA : A7 = some ⟨g, 0, none⟩ := by injection hvv
          subst hA
          have z0 : wr.cell? ⟨g, k, none⟩ = some (.int .i64 y) := (HOW.out.cellAt k (by omega)).trans (by rw [List.getElem?_map, hy]; rfl)
          have HTM := Lib.hid (take_mem (q := q) hy)
          clear hy hvv
          by_cases hmem : q ∈ S.take k
          · have HME := Lib.hid hmem
            rw [decide_eq_true hmem]
            clear hmem
            go_wp2_with fail
            go_round
            case rel => exact ⟨k + 1, by omega, by go_num, by rw [decide_eq_true (HTM.out.2 (Or.inl HME.out))]⟩
            case measure => simp [intOf]; omega
          · have HME := Lib.hid hmem
            rw [decide_eq_false hmem]
            clear hmem
            by_cases hyq : y = q
            · subst hyq
              go_wp2_with fail
              go_round
              case rel => exact ⟨k + 1, by omega, by go_num, by rw [decide_eq_true (HTM.out.2 (Or.inr rfl))]⟩
              case measure => simp [intOf]; omega
            · have hb0 : (y == q) = false := by simpa using hyq
              have HYQ := Lib.hid hyq
              clear hyq
              go_wp2_with fail
              go_round
              case rel => exact ⟨k + 1, by omega, by go_num, by rw [decide_eq_false (fun h => (HTM.out.1 h).elim HME.out HYQ.out)]⟩
              case measure => simp [intOf]; omega
        · have hke : k = sl := by omega
          subst hke
          have hall : S.take k = S := List.take_of_length_le (by rw [← HSL.out]; exact Nat.le_refl _)
          rw [hall]
          by_cases hmem : q ∈ S
          · have HD2 : Hid (disA (blks L (M.take (j + 1)) sz) = S) := Lib.hid (by rw [HDIS.out, if_pos hmem])
            rw [decide_eq_true hmem]
            clear hmem hall
            go_wp2_with fail
            go_roundw
            case rel => exact ⟨j + 1, k, cp, A7, by omega, by go_num, by rw [HD2.out, ← HSL.out], rfl, by rw [HD2.out]; exact HOW.out, HB.out⟩
            case measure => simp [intOf]; omega
          · have HD2 : Hid (disA (blks L (M.take (j + 1)) sz) = S ++ [q]) := Lib.hid (by rw [HDIS.out, if_neg hmem])
            rw [decide_eq_false hmem]
            clear hmem hall
            go_wp2_with (at_builtin; refine wpList_append_lies _ rfl (.tmp 44) (.tmp 46) 23 rfl w.heap.size 3 i1 _ 1 8 Try.underlying23 hi1 hy0 hy1 hy2 rfl (by decide) (.slice A7 k cp) k (S.map (Value.int .i64)) rfl (HOW.out.alloc _) ⟨wr.heap.size, 0, none⟩ 1 1 [.int .i64 q] rfl rfl (World.news_of_block (cs := #[.int .i64 q]) (t := 3) (fr := (0, 0)) (heap_alloc_new wr _)) (by simp [Value.oneCell']) (by omega) (by unfold maxLen; omega) (by omega) (by simp; omega) (wr.heap.size + 1) (by simp) ?_)
            intro g2 cap2 W6 hown6 hgrow6 hat6 hlt6
            have hb6 : Below w.heap.size w W6 := (HB.out.alloc hsz _).grown hgrow6 (by simp; omega) (fun k' e => by have := (HOW.out.lt k' e).1; omega)
            have HB6 := Lib.hid hb6
            have HO6 : Hid (W6.ownsRow w.heap.size 3 1 (.slice (some ⟨g2, 0, none⟩) (k + 1) cap2) (k + 1) ((S ++ [q]).map (Value.int .i64))) := Lib.hid (by simpa using hown6)
            clear hown6 hgrow6 hat6 hlt6 hb6
            go_wp2_with fail
            go_roundw
            case rel => exact ⟨j + 1, k + 1, cap2, some ⟨g2, 0, none⟩, by omega, by go_num, by rw [HD2.out, List.length_append, ← HSL.out]; rfl, rfl, by rw [HD2.out]; exact HO6.out, HB6.out⟩
            case measure => simp [intOf]; omega
    · have hjm : j = m := by omega
      subst hjm
      have hfull : M.take j = M := List.take_of_length_le (by rw [HMN.out]; exact Nat.le_refl _)
      have hcs : sl = c := by rw [HC.out, HSL.out, HS.out, hfull]
      subst hcs
      clear how hb hfull hsl hS
      go_wp2_with fail
      go_ret
      exact ⟨rfl, HB.out⟩
end Go.Proofs.Ytmlgbmfjnbhamaa
