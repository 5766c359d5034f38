/- The reference's Euler: a stack's walk. -/
import Derived.Test.YthnlcbeibhhjpaaVtChil
import Derived.Test.YthnlcbeibhhjpaaVtW
namespace Go.Proofs.Ythnlcbeibhhjpaa
open Go.RowKit
set_option maxRecDepth 100000
/-- A valid tree's parents are those of versions. -/
theorem vs_of_vp {P : List Int} (hv : VP P) : ∃ Vs, VsOk Vs ∧ parV Vs = P := by
  have key : ∀ k, k + 1 ≤ P.length → ∃ Vs, VsOk Vs ∧ parV Vs = P.take (k + 1) := fun k => by
    induction k with
    | zero =>
      intro h
      refine ⟨[(-1, 0, 0)], VsOk.start, ?_⟩
      rw [List.take_add_one, hv.root]
      rfl
    | succ k ih =>
      intro h
      obtain ⟨Vs, h1, h2⟩ := ih (by omega)
      obtain ⟨x, hx⟩ : ∃ x, P[k + 1]? = some x := ⟨P[k + 1]'(by omega), List.getElem?_eq_getElem _⟩
      have hp := hv.par k x hx
      obtain ⟨p, rfl⟩ : ∃ p : Nat, x = (p : Int) := ⟨x.toNat, by omega⟩
      have hl : Vs.length = k + 1 := by
        have := congrArg List.length h2
        rw [parV_len, List.length_take] at this
        omega
      obtain ⟨u, hu⟩ : ∃ u, Vs[p]? = some u := ⟨Vs[p]'(by omega), List.getElem?_eq_getElem _⟩
      refine ⟨_, h1.push hu (.refl), ?_⟩
      rw [parV_snoc, h2, List.take_add_one (i := k + 1), hx]
      rfl
  have h1 := hv.pos
  obtain ⟨Vs, g1, g2⟩ := key (P.length - 1) (by omega)
  refine ⟨Vs, g1, ?_⟩
  rw [g2, List.take_of_length_le (by omega)]
theorem eul_cnt {P : List Int} (hv : VP P) {n : Nat} (hn : P.length = n) : (eulF P n (n + 1) 0).length = 2 * n := by
  obtain ⟨Vs, h1, h2⟩ := vs_of_vp hv
  subst h2
  exact eul_count h1 (by rw [← parV_len]; exact hn)
/-- The children's row, while the stack grows. -/
structure ChK (gC : Nat) (C : List Int) (As : Option Addr) (W : World) : Prop where
  at' : ∀ (i : Nat) (x : Int), C[i]? = some x → W.cell? ⟨gC, i, none⟩ = some (.int .i64 x)
  lt : 0 < C.length → gC < W.heap.size
  ne : 0 < C.length → ∀ a, As = some a → a.block ≠ gC
theorem StE.pushO' {B g2 cap2 o' : Nat} {As Ao : Option Addr} {cs co : Nat} {S O : List Int} {W W6 : World} {o : Obj} {x : Int} (h : StE B As Ao cs co S O W) (ho : O.length = o') (hg : (W.alloc o).grownBy W6 (Value.slice Ao o' co).ownBlock)
    (hown : W6.ownsRow B 3 1 (.slice (some ⟨g2, 0, none⟩) (o' + 1) cap2) (o' + 1) ((O ++ [x]).map (Value.int .i64))) (hat : (Value.slice Ao o' co).ownBlock = some g2 ∨ W.heap.size ≤ g2) : StE B As (some ⟨g2, 0, none⟩) cs cap2 S (O ++ [x]) W6 := by
  subst ho; exact h.pushO hg hown hat
theorem StE.pushS' {B g2 cap2 a' : Nat} {As Ao : Option Addr} {cs co : Nat} {S O : List Int} {W W6 : World} {o : Obj} {x : Int} (h : StE B As Ao cs co S O W) (ha : S.length = a') (hg : (W.alloc o).grownBy W6 (Value.slice As a' cs).ownBlock)
    (hown : W6.ownsRow B 3 1 (.slice (some ⟨g2, 0, none⟩) (a' + 1) cap2) (a' + 1) ((S ++ [x]).map (Value.int .i64))) (hat : (Value.slice As a' cs).ownBlock = some g2 ∨ W.heap.size ≤ g2) : StE B (some ⟨g2, 0, none⟩) Ao cap2 co (S ++ [x]) O W6 := by
  subst ha; exact h.pushS hg hown hat
set_option maxHeartbeats 16000000 in
theorem refEuler_any (A : Option Addr) (cap n t : Nat) (P : List Int) (w : World) (h : Tr w A cap n P) (hv : VP P) (ht : t = (eulF P n (n + 1) 0).length) :
    Calls Try.prog 17 #[.agg #[.slice A n cap]] w fun e w' => (∃ A' cp, e = .returned (.slice A' t cp) ∧ ORow w.heap.size w' A' cp (eulF P n (n + 1) 0)) ∧ Below w.heap.size w w' := by
  obtain ⟨w1, hw1⟩ : ∃ w1, w1 = w.alloc (.cells #[.slice A n cap] 24) := ⟨_, rfl⟩
  have HB1 : Hid (Below w.heap.size w w1) := Lib.hid (by rw [hw1]; exact (Below.refl _ _).alloc (Nat.le_refl _) _)
  have HX1 : Hid (w1.heap[w.heap.size]? = some (.cells #[.slice A n cap] 24 (0, 0))) := Lib.hid (by rw [hw1]; exact bdNew w _)
  have hz1 : w1.heap.size = w.heap.size + 1 := by rw [hw1]; simp
  have HZ1 := Lib.hid hz1
  have hlt1 : w.heap.size < w1.heap.size := by omega
  have HW1 := Lib.hid hw1
  have H := Lib.hid h
  have HV := Lib.hid hv
  have hnl : n ≤ 1000 := by have := hv.le; rw [h.len] at this; exact this
  have hn1 : 0 < n := by have := hv.pos; rw [h.len] at this; exact this
  obtain ⟨T, hT⟩ : ∃ T, T = eulF P n (n + 1) 0 := ⟨_, rfl⟩
  rw [← hT] at ht ⊢
  have htl : t = 2 * n := by rw [ht, hT]; exact eul_cnt hv h.len
  have HT := Lib.hid hT
  have HTL := Lib.hid ht
  have htl2 : t ≤ 2000 := by omega
  obtain ⟨i1, hi1, hy0, hy1, hy2⟩ := info_parts Try.infoInt
  have hlit : (w1.alloc (.cells #[.int .i64 0] 3)).ownsRow w1.heap.size 3 1 (.slice (some ⟨w1.heap.size, 0, none⟩) 1 1) 1 ([(0 : Int)].map (Value.int .i64)) := World.ownsRow_lit (base := w1.heap.size) (e := 3) (size := 1) w1 #[.int .i64 0] 1 (Nat.le_refl _) (by unfold maxLen; omega) rfl
  have HST : Hid (StE w1.heap.size (some ⟨w1.heap.size, 0, none⟩) none 1 0 [0] [] (w1.alloc (.cells #[.int .i64 0] 3))) := Lib.hid ⟨hlit, ORow.nil _ _, fun g _ g' hg' => by cases hg'⟩
  have HCH := Lib.hid (fun (k : Nat) (hk : k < n) (W : World) (hW : Below w.heap.size w W) => refChildren_any A cap n k P W (H.out.below hW) HV.out)
  clear h hv hw1 hz1 hT ht htl hlit
  go_enter Try.func17, Try.ntmps17
  go_wp2_with fail
  rw [← HW1.out]
  go_loopw [3, 4] (fun s3 s4 wr => ∃ (a o cs co : Nat) (As Ao : Option Addr) (S O : List Int), s3 = .slice As a cs ∧ s4 = .slice Ao o co ∧ S.length = a ∧ O.length = o ∧ StE w1.heap.size As Ao cs co S O wr ∧ O ++ remS P n S = T ∧ (∀ x ∈ S, -2000 ≤ x ∧ x < (n : Int)) ∧ Below w1.heap.size w1 wr) (fun _ s4 _ => t - slLen s4)
  case atStart =>
    refine ⟨1, 0, 1, 0, some ⟨w1.heap.size, 0, none⟩, none, [0], [], by rw [HZ1.out], rfl, rfl, rfl, HST.out, ?_, fun x hx => ?_, (Below.refl _ _).alloc (Nat.le_refl _) _⟩
    · rw [HT.out]
      unfold remS
      simp
    · have : x = 0 := by simpa using hx
      omega
  case round =>
    obtain ⟨a, o, cs, co, As, Ao, S, O, rfl, rfl, hSl, hOl, hst, hrem, hran, hb⟩ := hrel
    have HST1 := Lib.hid hst
    have HREM := Lib.hid hrem
    have HRAN := Lib.hid hran
    have HB := Lib.hid hb
    have HSL := Lib.hid hSl
    have HOL := Lib.hid hOl
    have hsz := hb.size
    have hsum : o + a ≤ t := by
      have h1 := remS_pos (P := P) (n := n) S (fun x hx => (hran x hx).2)
      have h2 := congrArg List.length hrem
      rw [List.length_append, ← HTL.out] at h2
      omega
    have hb0 := (hb.block w.heap.size (by omega)).trans HX1.out
    obtain ⟨c0, f0⟩ := bk1 hb0
    rcases Nat.eq_zero_or_pos a with ha | ha
    · subst ha
      have hS : S = [] := List.eq_nil_of_length_eq_zero hSl
      subst hS
      have hOT : O = T := by rw [← hrem]; simp [remS]
      subst hOT
      have hot : o = t := by rw [← hOl]; exact HTL.out.symm
      subst hot
      clear hst hrem hran hb hSl hOl hb0
      go_wp2_with fail
      go_ret
      exact ⟨⟨Ao, co, rfl, HST1.out.ro.more (by omega)⟩, HB1.out.trans (HB.out.mono (by omega))⟩
    · obtain ⟨q, hq⟩ : ∃ q, a = q + 1 := ⟨a - 1, by omega⟩
      have hq1 : (a : Int) - 1 = (q : Int) := by omega
      have hqI : (q : Int) < (a : Int) := by omega
      have hq0 : (0 : Int) ≤ (q : Int) := by omega
      have haI : (0 : Int) < (a : Int) := by omega
      have hal : a ≤ 2000 := by omega
      have hol : o ≤ 2000 := by omega
      have hot : o < t := by omega
      obtain ⟨g, cap', hvv, hg, hgl⟩ := World.ownsRow.form hst.rs (by omega)
      have hAs : As = some ⟨g, 0, none⟩ := by injection hvv
      subst hAs
      have hcap := hst.rs.len
      rw [hSl] at hcap
      have hqc : (q : Int) ≤ (cs : Int) := by omega
      have hcsm : cs ≤ maxLen := hcap.2.2
      unfold maxLen at hcsm
      obtain ⟨x, hx⟩ : ∃ x, S[q]? = some x := ⟨S[q]'(by omega), List.getElem?_eq_getElem _⟩
      have x0 : wr.cell? ⟨g, q, none⟩ = some (.int .i64 x) := (World.ownsRow.cellAt hst.rs q (by omega)).trans (by rw [List.getElem?_map, hx]; rfl)
      have hxr := hran x (List.mem_of_getElem? hx)
      have hSS : S = S.take q ++ [x] := by
        have : S.take (q + 1) = S.take q ++ [x] := by rw [List.take_add_one, hx]; rfl
        rw [← this, List.take_of_length_le (by omega)]
      have hlq : (S.take q).length = q := by rw [List.length_take]; omega
      obtain ⟨S0, hS0⟩ : ∃ S0, S0 = S.take q := ⟨_, rfl⟩
      have hpop := hst.pop (n := q) (by omega)
      rw [← hS0] at hSS hlq hpop
      have HPOP := Lib.hid hpop
      have HS0 : Hid (S0.length = q) := Lib.hid hlq
      have HR0 : Hid (∀ y ∈ S0, -2000 ≤ y ∧ y < (n : Int)) := Lib.hid (fun y hy => hran y (by rw [hSS]; simp [hy]))
      rw [hSS, remS_snoc] at hrem
      have HRM := Lib.hid hrem
      have hroO : wr.ownsRow w1.heap.size 3 1 (.slice Ao o co) o (O.map (Value.int .i64)) := by have := hpop.ro; unfold ORow at this; rw [hOl] at this; exact this
      have HRO := Lib.hid hroO
      have hrsS : wr.ownsRow w1.heap.size 3 1 (.slice (some ⟨g, 0, none⟩) q cs) q (S0.map (Value.int .i64)) := by have := hpop.rs; unfold ORow at this; rw [hlq] at this; exact this
      have HRS := Lib.hid hrsS
      have HQ := Lib.hid hq
      clear hst hrem hran hb hSl hOl hb0 hx hSS hlq hS0 hpop hcap hvv hroO hrsS HST1 HREM HRAN
      by_cases hneg : x < 0
      · have d1 : decide (x < 0) = true := decide_eq_true hneg
        have hrem2 := HRM.out
        rw [if_pos hneg] at hrem2
        have HRM2 := Lib.hid hrem2
        clear hneg hrem2
        obtain ⟨y, hy⟩ : ∃ y, y = -1 - x := ⟨_, rfl⟩
        have hy' : -1 - x = y := hy.symm
        have HY := Lib.hid hy
        clear hy hq
        go_wp2_with (at_builtin; refine wpList_append_lies _ rfl (.tmp 25) (.tmp 28) 22 rfl w1.heap.size 3 i1 _ 1 8 Try.underlying22 hi1 hy0 hy1 hy2 rfl (by decide) (.slice Ao o co) o (O.map (Value.int .i64)) rfl (HRO.out.alloc _) ⟨wr.heap.size, 0, none⟩ 1 1 [.int .i64 y] rfl rfl (World.news_of_block (cs := #[.int .i64 y]) (t := 3) (fr := (0, 0)) (heap_alloc_new wr _)) (by simp [Value.oneCell']) (by omega) (by unfold maxLen; omega) (by omega) (by simp; omega) (wr.heap.size + 1) (by simp) ?_)
        intro g2 cap2 W6 hown6 hgrow6 hat6 hlt6
        have hst6 := HPOP.out.pushO' HOL.out hgrow6 (x := y) (by simpa using hown6) (hat6.imp id (fun h => by omega))
        have hb6 : Below w1.heap.size w1 W6 := (HB.out.alloc hsz _).grown hgrow6 (by simp; omega) (fun k' e => by have := (HRO.out.lt k' e).1; omega)
        have HST6 := Lib.hid hst6
        have HB6 := Lib.hid hb6
        clear hown6 hgrow6 hat6 hlt6 hst6 hb6 x0 c0 f0
        go_wp2_with fail
        go_roundw
        case rel => exact ⟨q, o + 1, cs, cap2, some ⟨g, 0, none⟩, some ⟨g2, 0, none⟩, S0, O ++ [y], rfl, rfl, HS0.out, by rw [List.length_append, HOL.out]; rfl, HST6.out, by rw [HY.out, List.append_assoc]; exact HRM2.out, HR0.out, HB6.out⟩
        case measure => simp [slLen]; omega
      · have d1 : decide (x < 0) = false := decide_eq_false hneg
        have hrem2 := HRM.out
        rw [if_neg hneg] at hrem2
        obtain ⟨k, rfl⟩ : ∃ k : Nat, x = (k : Int) := ⟨x.toNat, by omega⟩
        have hkn : k < n := by omega
        rw [Int.toNat_natCast, eulF_open HV.out H.out.len hkn] at hrem2
        have HRM2 := Lib.hid hrem2
        clear hneg hrem2 hq hxr
        go_wp2_with (at_builtin; refine wpList_append_lies _ rfl (.tmp 30) (.tmp 32) 22 rfl w1.heap.size 3 i1 _ 1 8 Try.underlying22 hi1 hy0 hy1 hy2 rfl (by decide) (.slice Ao o co) o (O.map (Value.int .i64)) rfl (HRO.out.alloc _) ⟨wr.heap.size, 0, none⟩ 1 1 [.int .i64 (k : Int)] rfl rfl (World.news_of_block (cs := #[.int .i64 (k : Int)]) (t := 3) (fr := (0, 0)) (heap_alloc_new wr _)) (by simp [Value.oneCell']) (by omega) (by unfold maxLen; omega) (by omega) (by simp; omega) (wr.heap.size + 1) (by simp) ?_)
        intro g2 cap2 W6 hown6 hgrow6 hat6 hlt6
        have hst6 := HPOP.out.pushO' HOL.out hgrow6 (x := (k : Int)) (by simpa using hown6) (hat6.imp id (fun h => by omega))
        have hb6 : Below w1.heap.size w1 W6 := (HB.out.alloc hsz _).grown hgrow6 (by simp; omega) (fun k' e => by have := (HRO.out.lt k' e).1; omega)
        have HST6 := Lib.hid hst6
        have HB6 := Lib.hid hb6
        have hsz6 := hb6.size
        have hrs6 : W6.ownsRow w1.heap.size 3 1 (.slice (some ⟨g, 0, none⟩) q cs) q (S0.map (Value.int .i64)) := by have := hst6.rs; unfold ORow at this; rw [HS0.out] at this; exact this
        have HRS6 := Lib.hid hrs6
        clear hown6 hgrow6 hat6 hlt6 hst6 hb6 hrs6 x0 c0 f0
        obtain ⟨y, hy⟩ : ∃ y : Int, y = -1 - (k : Int) := ⟨_, rfl⟩
        have hy' : -1 - (k : Int) = y := hy.symm
        have HY := Lib.hid hy
        clear hy
        go_wp2_with (at_builtin; refine wpList_append_lies _ rfl (.tmp 34) (.tmp 37) 22 rfl w1.heap.size 3 i1 _ 1 8 Try.underlying22 hi1 hy0 hy1 hy2 rfl (by decide) (.slice (some ⟨g, 0, none⟩) q cs) q (S0.map (Value.int .i64)) rfl (HRS6.out.alloc _) ⟨W6.heap.size, 0, none⟩ 1 1 [.int .i64 y] rfl rfl (World.news_of_block (cs := #[.int .i64 y]) (t := 3) (fr := (0, 0)) (heap_alloc_new W6 _)) (by simp [Value.oneCell']) (by omega) (by unfold maxLen; omega) (by omega) (by simp; omega) (W6.heap.size + 1) (by simp) ?_)
        intro g3 cap3 W7 hown7 hgrow7 hat7 hlt7
        have hst7 := HST6.out.pushS' HS0.out hgrow7 (x := y) (by simpa using hown7) (hat7.imp id (fun h => by omega))
        have hb7 : Below w1.heap.size w1 W7 := (HB6.out.alloc hsz6 _).grown hgrow7 (by simp; omega) (fun k' e => by have := (HRS6.out.lt k' e).1; omega)
        have HST7 := Lib.hid hst7
        have HB7 := Lib.hid hb7
        have hsz7 := hb7.size
        have hg3l : g3 < W7.heap.size := hlt7
        obtain ⟨c0, f0⟩ := bk1 ((hb7.block w.heap.size (by omega)).trans HX1.out)
        have HC7 := Lib.hid (HCH.out k hkn W7 (HB1.out.trans (hb7.mono (by omega))))
        clear hown7 hgrow7 hat7 hlt7 hst7 hb7
        obtain ⟨C, hC⟩ : ∃ C, C = chI P n k := ⟨_, rfl⟩
        obtain ⟨c, hc⟩ : ∃ c, c = C.length := ⟨_, rfl⟩
        rw [← hC, ← hc] at HC7
        have HCC := Lib.hid hC
        have HCL := Lib.hid hc
        have hcl : c ≤ 1000 := by rw [hc, hC]; have := chI_len P n k; omega
        clear hC hc
        go_wp2_with fail
        refine HC7.out.mono ?_
        rintro er W8 ⟨⟨A8, cp8, rfl, hr8⟩, hb8⟩
        have HST8 := Lib.hid (HST7.out.below hb8)
        have hb8w := HB7.out.trans (hb8.mono hsz7)
        have HB8 := Lib.hid hb8w
        have hsz8 := hb8.size
        have HCK : Hid (∃ gC, (0 < C.length → A8 = some ⟨gC, 0, none⟩) ∧ ChK gC C (some ⟨g3, 0, none⟩) W8) := Lib.hid (by
          rcases Nat.eq_zero_or_pos C.length with h0 | h0
          · refine ⟨0, fun h => by omega, fun i x hx => ?_, fun h => by omega, fun h => by omega⟩
            have := (List.getElem?_eq_some_iff.1 hx).1
            omega
          · obtain ⟨gC, cap', hv, hge, hl⟩ := World.ownsRow.form hr8 h0
            have hA : A8 = some ⟨gC, 0, none⟩ := by injection hv
            subst hA
            refine ⟨gC, fun _ => rfl, fun i x hx => ?_, fun _ => hl, fun _ a ha => ?_⟩
            · exact (World.ownsRow.cellAt hr8 i (by have := (List.getElem?_eq_some_iff.1 hx).1; omega)).trans (by rw [List.getElem?_map, hx]; rfl)
            · have := Option.some.inj ha
              rw [← this]
              show g3 ≠ gC
              omega)
        obtain ⟨gC, hA8, hck⟩ := HCK.out
        have HCK8 := Lib.hid hck
        have HA8 := Lib.hid hA8
        have hqt : q + 1 + c ≤ 3100 := by omega
        clear hr8 hb8 hb8w hck hA8 c0 f0 HCK HC7
        obtain ⟨wo, rfl⟩ : ∃ wo, wo = wr := ⟨_, rfl⟩
        go_wp2_with fail
        go_loopw [3, 7] (fun s3 s7 wr => ∃ (j cs3 : Nat) (i : Int) (A3 : Option Addr), j ≤ c ∧ i = (c : Int) - 1 - (j : Int) ∧ s7 = .int .i64 i ∧ s3 = .slice A3 (q + 1 + j) cs3 ∧ StE w1.heap.size A3 (some ⟨g2, 0, none⟩) cs3 cap2 (S0 ++ [y] ++ C.reverse.take j) (O ++ [(k : Int)]) wr ∧ ChK gC C A3 wr ∧ Below w1.heap.size w1 wr) (fun _ s7 _ => (intOf s7 + 1).toNat)
        case atStart => exact ⟨0, cap3, _, some ⟨g3, 0, none⟩, by omega, by simp, rfl, rfl, by rw [List.take_zero, List.append_nil]; exact HST8.out, HCK8.out, HB8.out⟩
        case round =>
          obtain ⟨j, cs3, i, A3, hj, hi, rfl, rfl, hst, hck, hb⟩ := hrel
          have HI := Lib.hid hi
          have HSTj := Lib.hid hst
          have HCKj := Lib.hid hck
          have HBj := Lib.hid hb
          have hszj := hb.size
          have hlenj : (S0 ++ [y] ++ C.reverse.take j).length = q + 1 + j := by
            rw [List.length_append, List.length_append, HS0.out, List.length_take, List.length_reverse, ← HCL.out]
            simp
            omega
          by_cases hjc : j < c
          · obtain ⟨u, hu⟩ : ∃ u : Nat, i = (u : Int) := ⟨i.toNat, by omega⟩
            subst hu
            have huc : u = c - 1 - j := by omega
            have huI : (u : Int) < (c : Int) := by omega
            have hu0 : (0 : Int) ≤ (u : Int) := by omega
            have hcpos : 0 < C.length := by have := HCL.out; omega
            obtain ⟨e, he⟩ : ∃ e, C[u]? = some e := ⟨C[u]'(by have := HCL.out; omega), List.getElem?_eq_getElem _⟩
            have y0 := hck.at' u e he
            have hA := HA8.out hcpos
            subst hA
            have hgC := hck.lt hcpos
            have HTK : Hid (C.reverse.take (j + 1) = C.reverse.take j ++ [e]) := Lib.hid (by
              rw [List.take_add_one, List.getElem?_reverse (by have := HCL.out; omega), ← HCL.out, show c - 1 - j = u by omega, he]; rfl)
            have hrsj : wr.ownsRow w1.heap.size 3 1 (.slice A3 (q + 1 + j) cs3) (q + 1 + j) ((S0 ++ [y] ++ C.reverse.take j).map (Value.int .i64)) := by have := hst.rs; unfold ORow at this; rw [hlenj] at this; exact this
            have HRSj := Lib.hid hrsj
            have HLJ := Lib.hid hlenj
            obtain ⟨z, hz⟩ : ∃ z, z = q + 1 + j := ⟨_, rfl⟩
            have HZ := Lib.hid hz
            rw [← hz] at HRSj HLJ ⊢
            have hzl : z ≤ 3100 := by omega
            clear hst hck hb he hlenj hrsj hi huc hz
            go_wp2_with (at_builtin; refine wpList_append_lies _ rfl (.tmp 49) (.tmp 54) 22 rfl w1.heap.size 3 i1 _ 1 8 Try.underlying22 hi1 hy0 hy1 hy2 rfl (by decide) (.slice A3 z cs3) z ((S0 ++ [y] ++ C.reverse.take j).map (Value.int .i64)) rfl (HRSj.out.alloc _) ⟨wr.heap.size, 0, none⟩ 1 1 [.int .i64 e] rfl rfl (World.news_of_block (cs := #[.int .i64 e]) (t := 3) (fr := (0, 0)) (heap_alloc_new wr _)) (by simp [Value.oneCell']) (by omega) (by unfold maxLen; omega) (by omega) (by simp; omega) (wr.heap.size + 1) (by simp) ?_)
            intro g9 cap9 W9 hown9 hgrow9 hat9 hlt9
            have hst9 := HSTj.out.pushS' HLJ.out hgrow9 (x := e) (by simpa using hown9) (hat9.imp id (fun h => by omega))
            rw [List.append_assoc, ← HTK.out] at hst9
            have hb9 : Below w1.heap.size w1 W9 := (HBj.out.alloc hszj _).grown hgrow9 (by simp; omega) (fun k' e => by have := (HRSj.out.lt k' e).1; omega)
            have hck9 : ChK gC C (some ⟨g9, 0, none⟩) W9 := by
              have hnb : some gC ≠ (Value.slice A3 z cs3).ownBlock := by
                rw [oblk]
                intro e'
                obtain ⟨s, hs, h2⟩ := Option.map_eq_some_iff.1 e'.symm
                exact HCKj.out.ne hcpos s hs h2
              have hsame : W9.heap[gC]? = wr.heap[gC]? := (hgrow9.block gC (by simp; omega) hnb).trans (Below.heap_alloc _ _ _ hgC)
              refine ⟨fun i' x hx => (World.cell?_of_block hsame).trans (HCKj.out.at' i' x hx), fun _ => by have := hgrow9.size; simp at this; omega, fun _ a ha => ?_⟩
              have := Option.some.inj ha
              rw [← this]
              show g9 ≠ gC
              rcases hat9 with h1 | h1
              · rw [h1] at hnb; exact fun e' => hnb (by rw [e'])
              · omega
            have HST9 := Lib.hid hst9
            have HB9 := Lib.hid hb9
            have HCK9 := Lib.hid hck9
            clear hown9 hgrow9 hat9 hlt9 hst9 hb9 hck9 y0
            go_wp2_with fail
            go_roundw
            case rel => exact ⟨j + 1, cap9, (u : Int) - 1, some ⟨g9, 0, none⟩, by omega, by have := HI.out; omega, by go_num, by rw [HZ.out, Nat.add_assoc (q + 1) j 1], HST9.out, HCK9.out, HB9.out⟩
            case measure => simp [intOf]
          · obtain rfl : j = c := by omega
            have hi1' : i = -1 := by omega
            subst hi1'
            have HLJ := Lib.hid hlenj
            obtain ⟨z, hz⟩ : ∃ z, z = q + 1 + j := ⟨_, rfl⟩
            rw [← hz] at HLJ ⊢
            have HR9 : Hid (∀ x ∈ S0 ++ [y] ++ C.reverse.take j, -2000 ≤ x ∧ x < (n : Int)) := Lib.hid (fun x hx => by
              rcases List.mem_append.1 hx with hx | hx
              · rcases List.mem_append.1 hx with hx | hx
                · exact HR0.out x hx
                · have := List.mem_singleton.1 hx
                  have := HY.out
                  omega
              · have hxC : x ∈ C := by simpa using List.mem_of_mem_take hx
                rw [HCC.out] at hxC
                obtain ⟨t', rfl, h1, h2⟩ := chI_mem HV.out hxC
                omega)
            have HRM9 : Hid (O ++ [(k : Int)] ++ remS P n (S0 ++ [y] ++ C.reverse.take j) = T) := Lib.hid (by
              rw [List.take_of_length_le (by rw [List.length_reverse, ← HCL.out]; exact Nat.le_refl _), remS_app P n (S0 ++ [y]) C.reverse (fun c' hc' => by
                rw [List.mem_reverse, HCC.out] at hc'
                obtain ⟨t', rfl, _⟩ := chI_mem HV.out hc'
                omega), List.reverse_reverse, remS_snoc, if_pos (by have := HY.out; omega), show -1 - y = (k : Int) by have := HY.out; omega, ← HRM2.out, HCC.out]
              simp)
            clear hst hck hb hlenj hi hz
            go_wp2_with fail
            go_roundw
            case rel => exact ⟨z, o + 1, cs3, cap2, A3, some ⟨g2, 0, none⟩, _, _, rfl, rfl, HLJ.out, by rw [List.length_append, HOL.out]; rfl, HSTj.out, HRM9.out, HR9.out, HBj.out⟩
            case measure => simp [slLen]; omega
end Go.Proofs.Ythnlcbeibhhjpaa
