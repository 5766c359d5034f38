/- Blocks: plain facts, the program's walk where all is in range. -/
import Derived.Test.YtmlgbmfjnbhamaaTlM
import Derived.Deep.RegionWith
namespace Go.Proofs.Ytmlgbmfjnbhamaa
open Go.RowKit
set_option maxRecDepth 100000
/-- The distinct ones of a list, in the order in which they come. -/
def disA (bs : List Int) : List Int := bs.foldl (fun s b => if b ∈ s then s else s ++ [b]) []
theorem disA_snoc (bs : List Int) (x : Int) : disA (bs ++ [x]) = if x ∈ disA bs then disA bs else disA bs ++ [x] := by
  unfold disA
  rw [List.foldl_append]
  rfl
theorem rev_ind {P : List Int → Prop} (h0 : P []) (h1 : ∀ l x, P l → P (l ++ [x])) (l : List Int) : P l := by
  have key : ∀ n (l : List Int), l.length = n → P l := fun n => by
    induction n with
    | zero => intro l hl; rw [List.eq_nil_of_length_eq_zero hl]; exact h0
    | succ n ih =>
      intro l hl
      have hne : l ≠ [] := fun e => by rw [e] at hl; simp at hl
      rw [← List.dropLast_concat_getLast hne]
      exact h1 _ _ (ih _ (by simp; omega))
  exact key _ l rfl
theorem mem_disA (x : Int) (bs : List Int) : x ∈ disA bs ↔ x ∈ bs := by
  induction bs using rev_ind with
  | h0 => simp [disA]
  | h1 l y ih =>
    rw [disA_snoc]
    by_cases h : y ∈ disA l
    · rw [if_pos h, ih, List.mem_append, List.mem_singleton]
      constructor
      · exact Or.inl
      · rintro (h1 | rfl)
        · exact h1
        · exact ih.1 h
    · rw [if_neg h, List.mem_append, List.mem_append, List.mem_singleton, ih]
theorem disA_len (bs : List Int) (x : Int) : (if bs.count x = 0 then (disA bs).length + 1 else (disA bs).length) = (disA (bs ++ [x])).length := by
  rw [disA_snoc]
  by_cases h : x ∈ bs
  · rw [if_pos ((mem_disA x bs).2 h), if_neg (by have := List.count_pos_iff.2 h; omega)]
  · rw [if_neg (fun h' => h ((mem_disA x bs).1 h')), if_pos (List.count_eq_zero.2 h)]
    simp
theorem count_up (bs : List Int) (q : Int) : (fun x => if x = q then bs.count q + 1 else bs.count x) = fun x => (bs ++ [q]).count x := by
  funext x
  rw [List.count_append, List.count_singleton]
  by_cases h : x = q
  · subst h; simp
  · rw [if_neg h]
    have : (q == x) = false := by simpa using fun e => h e.symm
    simp [this]
/-- The blocks of some nodes. -/
def blks (L M : List Int) (sz : Int) : List Int := M.map fun v => (L.getD v.toNat 0).tdiv sz
theorem blks_take {L M : List Int} {sz v : Int} {j : Nat} (h : M[j]? = some v) : blks L (M.take (j + 1)) sz = blks L (M.take j) sz ++ [(L.getD v.toNat 0).tdiv sz] := by
  unfold blks
  rw [List.take_add_one, h]
  simp
set_option maxHeartbeats 8000000 in
theorem blocks_yes (A1 A2 : Option Addr) (c1 c2 n m : Nat) (L M : List Int) (sz : Int) (w : World) (hn : L.length = n) (hm : M.length = m) (hnl : n ≤ 60000) (hml : m ≤ 60000) (h1 : IntsAt (· < w.heap.size) w A1 L) (h2 : IntsAt (· < w.heap.size) w A2 M) (hk : InvK L n) (hs : 1 ≤ sz)
    (hM : ∀ (j : Nat) (v : Int), M[j]? = some v → 0 ≤ v ∧ v < (n : Int)) :
    Calls Try.prog 19 #[.slice A1 n c1, .slice A2 m c2, .int .i64 sz] w fun e w' => e = .returned (.tuple #[.int .i64 ((disA (blks L M sz)).length : Int), .int .i64 0]) ∧ Below w.heap.size w w' := by
  have H1 := Lib.hid h1
  have H2 := Lib.hid h2
  have HN := Lib.hid hn
  have HMN := Lib.hid hm
  have HK := Lib.hid hk
  have HMR := Lib.hid hM
  have HI := Lib.hid (inverse_any A1 c1 n n L w hn hnl h1 hk)
  have d1 : decide (sz ≤ 0) = false := decide_eq_false (by omega)
  obtain ⟨c, hc⟩ : ∃ c, c = (disA (blks L M sz)).length := ⟨_, rfl⟩
  rw [← hc]
  have HC := Lib.hid hc
  clear hc h1 h2 hn hm hk hM
  go_enter Try.func19, Try.ntmps19
  go_wp2_with fail
  refine HI.out.mono ?_
  rintro er w1 ⟨⟨_, g, rfl, _⟩ | ⟨hlt, _⟩, hb1⟩
  case inr => exact absurd hlt (Nat.lt_irrefl _)
  have HB1 := Lib.hid hb1
  clear hb1
  go_wp2_with fail
  refine (newT_any sz w1).mono ?_
  rintro er w2 ⟨mb, rfl, htm, hmb, hb2⟩
  have HTM := Lib.hid htm
  have hz1 := HB1.out.size
  have HB2 : Hid (Below w.heap.size w w2) := Lib.hid (HB1.out.trans (hb2.mono hz1))
  have hz2 := hb2.size
  have hmbl : mb < w2.heap.size := CMap.lt htm
  obtain ⟨w3, hw3⟩ : ∃ w3, w3 = w2.alloc (.cells #[.int .i64 sz, .map (some mb)] 64) := ⟨_, rfl⟩
  have HX3 : Hid (w3.heap[w2.heap.size]? = some (.cells #[.int .i64 sz, .map (some mb)] 64 (0, 0))) := Lib.hid (by rw [hw3]; exact bdNew w2 _)
  have HB3 : Hid (Below w.heap.size w w3) := Lib.hid (by rw [hw3]; exact HB2.out.alloc HB2.out.size _)
  have HT3 : Hid (TM w3 mb 0 (disA (blks L (M.take 0) sz)).length (fun x => (blks L (M.take 0) sz).count x)) := Lib.hid (by rw [hw3]; exact CMap.below htm ((Below.refl _ _).alloc (Nat.le_refl _) _) hmbl)
  have hz3 : w3.heap.size = w2.heap.size + 1 := by rw [hw3]; simp
  have HW3 := Lib.hid hw3
  clear htm hb2 hw3
  go_wp2_with fail
  rw [← HW3.out]
  go_loopw [27] (fun s wr => ∃ j : Nat, j ≤ m ∧ s = .int .i64 j ∧ TM wr mb j (disA (blks L (M.take j) sz)).length (fun x => (blks L (M.take j) sz).count x) ∧ wr.heap[w2.heap.size]? = some (.cells #[.int .i64 sz, .map (some mb)] 64 (0, 0)) ∧ Below w.heap.size w wr) (fun s _ => m - (intOf s).toNat)
  case atStart => exact ⟨0, by omega, rfl, HT3.out, HX3.out, HB3.out⟩
  case round =>
    obtain ⟨j, hj, rfl, ht, hx, hb⟩ := hrel
    have HT := Lib.hid ht
    have HX := Lib.hid hx
    have HB := Lib.hid hb
    obtain ⟨⟨t0, t1⟩, tf⟩ := bk2 hx
    by_cases hlt : j < m
    · have hltI : (j : Int) < (m : Int) := by omega
      obtain ⟨v, hv⟩ : ∃ v, M[j]? = some v := ⟨M[j]'(by rw [HMN.out]; exact hlt), List.getElem?_eq_getElem _⟩
      obtain ⟨b2, o2, hA2, hbl2, y0⟩ := (H2.out.below hb).get hv
      subst hA2
      obtain ⟨v0, v1⟩ := HMR.out j v hv
      obtain ⟨p, rfl⟩ : ∃ p : Nat, v = (p : Int) := ⟨v.toNat, by omega⟩
      have hpn : p < n := by omega
      have hpI : (p : Int) < (n : Int) := by omega
      have hp0 : (0 : Int) ≤ (p : Int) := by omega
      obtain ⟨x, hxx⟩ : ∃ x, L[p]? = some x := ⟨L[p]'(by rw [HN.out]; exact hpn), List.getElem?_eq_getElem _⟩
      obtain ⟨b1, o1, hA1, hbl1, x0⟩ := (H1.out.below hb).get hxx
      subst hA1
      have hok := HK.out.ok p hpn
      have hxD := getD_of hxx
      obtain ⟨q1, q2, _⟩ := hok
      rw [hxD] at q1 q2
      rw [HN.out] at q2
      obtain ⟨q, hq⟩ : ∃ q, x.tdiv sz = q := ⟨_, rfl⟩
      have hbt := blks_take (L := L) (sz := sz) hv
      rw [Int.toNat_natCast, hxD, hq] at hbt
      have hcl : (blks L (M.take j) sz).count q ≤ 1000000 := Nat.le_trans List.count_le_length (by unfold blks; rw [List.length_map, List.length_take]; omega)
      have HA := Lib.hid (fun W (hW : TM W mb j (disA (blks L (M.take j) sz)).length (fun x => (blks L (M.take j) sz).count x)) => add_any sz x q mb j _ _ W hW (by omega) hcl hs ⟨q1, by omega⟩ hq)
      rw [disA_len, count_up, ← hbt] at HA
      clear ht hx hb hv hxx hbt hcl hq hxD
      go_wp2_with fail
      go_region_with (refine (HA.out _ (by exact HT.out)).mono ?_; rintro er w5 ⟨rfl, hp1, hp2, hp3, hp4⟩; have HP1 := Lib.hid hp1; have HP2 : Hid (w5.heap[w2.heap.size]? = some (.cells #[.int .i64 sz, .map (some mb)] 64 (0, 0))) := Lib.hid ((hp3 w2.heap.size (bdLt HX.out) (by omega)).trans HX.out); have HP3 : Hid (Below w.heap.size w w5) := Lib.hid (hp4 _ _ (by first | exact HB.out | exact bdN HB.out 1) (by omega)); clear hp1 hp2 hp3 hp4)
      all_goals
        go_wp2_with fail
        go_roundw
        case rel => exact ⟨j + 1, by omega, by go_num, HP1.out, HP2.out, HP3.out⟩
        case measure => simp [intOf]; omega
    · have hjm : j = m := by omega
      subst hjm
      clear ht hx hb
      have hfull : M.take j = M := List.take_of_length_le (by rw [HMN.out]; exact Nat.le_refl _)
      have ht := HT.out
      rw [hfull] at ht
      rw [← HC.out] at ht
      have hlen := CMap.len ht Try.underlying62 3
      clear ht hfull
      go_wp2_with fail
      go_ret2
      exact ⟨rfl, HB.out⟩
end Go.Proofs.Ytmlgbmfjnbhamaa
