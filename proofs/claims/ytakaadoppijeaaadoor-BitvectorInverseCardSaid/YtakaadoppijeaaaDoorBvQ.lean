/- Walks: Runs. -/
import Derived.Test.YtakaadoppijeaaaDoorBvL
namespace Go.Proofs.YtakaadoppijeaaaDoor
open Go.RowKit
set_option maxRecDepth 100000
def valsI (L : List Int) : List Value := L.map (Value.int .i64)
theorem valsI_len (L : List Int) : (valsI L).length = L.length := by simp [valsI]
theorem valsI_snoc (L : List Int) (x : Int) : valsI (L ++ [x]) = valsI L ++ [.int .i64 x] := by simp [valsI]
theorem valsI_set (L : List Int) (x y : Int) : (valsI (L ++ [x])).set L.length (.int .i64 y) = valsI (L ++ [y]) := by
  rw [valsI_snoc, valsI_snoc, ← valsI_len L, List.set_append_right _ _ (Nat.le_refl _), Nat.sub_self]
  rfl
theorem valsI_last (L : List Int) (x : Int) : (valsI (L ++ [x]))[L.length]? = some (.int .i64 x) := by
  rw [valsI_snoc, ← valsI_len L]; simp
/-- A list of numbers in the call's own row. -/
def OwnI (w₀ W : World) (g cap : Nat) (L : List Int) : Prop := W.ownsRow w₀.heap.size 3 1 (.slice (some ⟨g, 0, none⟩) L.length cap) L.length (valsI L)
theorem OwnI.at {w₀ W : World} {g cap : Nat} {L : List Int} (h : OwnI w₀ W g cap L) : IntsAt (fun b => w₀.heap.size ≤ b ∧ b < W.heap.size) W (some ⟨g, 0, none⟩) L := intsAt_own h fun _ h1 h2 => ⟨h1, h2⟩
/-- A list of numbers was returned, in memory of its own. -/
def RetI (w : World) (L : List Int) (e : Ending) (w' : World) : Prop := ∃ A cap, e = .returned (.slice A L.length cap) ∧ IntsAt (fun b => w.heap.size ≤ b ∧ b < w'.heap.size) w' A L ∧ Below w.heap.size w w'
theorem own_last {w₀ W : World} {g cap D : Nat} {d : List Int} {n : Int} (h : OwnI w₀ W g cap (d ++ [n])) (hD : d.length = D) :
    W.cell? ⟨g, D, none⟩ = some (.int .i64 n) ∧ W.frozen? ⟨g, D, none⟩ = false ∧ ∀ m, OwnI w₀ (W.setCell ⟨g, D, none⟩ (.int .i64 m)) g cap (d ++ [m]) := by
  subst hD
  have h' : W.ownsRow w₀.heap.size 3 1 (.slice (some ⟨g, 0, none⟩) (d.length + 1) cap) (d.length + 1) (valsI (d ++ [n])) := by
    have := h; unfold OwnI at this; rwa [List.length_append, List.length_singleton] at this
  refine ⟨?_, h'.frozenAt _, fun m => ?_⟩
  · rw [h'.cellAt _ (by omega), valsI_last]
  · have := (h'.stored d.length (.int .i64 m)).1
    rw [valsI_set] at this
    unfold OwnI
    rw [List.length_append, List.length_singleton]
    exact this
set_option maxHeartbeats 4000000 in
theorem bv_runs (x wb bb : Nat) (l : List Bool) (w : World) (h : BV x wb bb l w) (hl : l.length ≤ 2000000) :
    Calls Tryd.prog 17 #[.pointer (some ⟨x, 0, none⟩)] w (RetI w (runsB l)) := by
  obtain ⟨⟨c0, c1, c2⟩, _, _, _⟩ := bk3 h.box
  have HV := Lib.hid h
  obtain ⟨n, hn⟩ : ∃ n, n = l.length := ⟨_, rfl⟩
  rw [← hn] at c0 hl
  have HN := Lib.hid hn
  by_cases h0 : n = 0
  · subst h0
    have hl0 : l = [] := List.length_eq_zero_iff.1 HN.out.symm
    have HL := Lib.hid hl0
    clear hl0 h hn
    go_enter Tryd.func17, Tryd.ntmps17
    go_wp2_with fail
    go_ret
    exact ⟨none, 0, by rw [HL.out]; rfl, by rw [HL.out]; exact IntsAt.nil _ _ _, Below.refl _ _⟩
  have h0b : ((n : Int) == 0) = false := by simp; omega
  have h0p : 0 < n := by omega
  have hx0 : x < w.heap.size := bdLt h.box
  have hO : OwnI w (w.alloc (.cells #[.int .i64 0] 3)) w.heap.size 1 [0] := World.ownsRow_lit w #[.int .i64 0] 1 (Nat.le_refl _) (by unfold maxLen; omega) rfl
  have HO := Lib.hid hO
  obtain ⟨i1, hi1, hy0, hy1, hy2⟩ := info_parts Tryd.infoInt
  clear h hn hO h0
  go_enter Tryd.func17, Tryd.ntmps17
  go_wp2_with fail
  clear c0 c1 c2
  go_loopw [3, 4, 20] (fun s3 s4 s20 wr => ∃ (k m D g cap : Nat) (d : List Int) (c : Bool), k ≤ n ∧ s20 = .int .i64 k ∧ s4 = .bool c ∧ s3 = .slice (some ⟨g, 0, none⟩) (D + 1) cap ∧ d.length = D ∧ runsK l k = (d, c, m) ∧ OwnI w wr g cap (d ++ [(m : Int)]) ∧ Below w.heap.size w wr) (fun _ _ s20 _ => n - (intOf s20).toNat)
  case atStart => exact ⟨0, 0, 0, w.heap.size, 1, [], false, by omega, rfl, rfl, rfl, rfl, runsK_zero l, HO.out, (Below.refl _ _).alloc (Nat.le_refl _) _⟩
  case round =>
    clear HO
    obtain ⟨k, m, D, g, cap, d, c, hk, rfl, rfl, rfl, hD, hr, ho, hb⟩ := hrel
    have hDk : D ≤ k := by have := runsK_len l k; rw [hr] at this; simp at this; omega
    have hmk : m ≤ k := by have := runsK_n l k; rw [hr] at this; simpa using this
    have HR := Lib.hid hr
    have HW := Lib.hid ho
    have HB := Lib.hid hb
    have HD := Lib.hid hD
    by_cases hlt : k < n
    · have hltI : (k : Int) < (n : Int) := by omega
      obtain ⟨v, hv⟩ : ∃ v, l[k]? = some v := ⟨l[k]'(by rw [← HN.out]; exact hlt), List.getElem?_eq_getElem _⟩
      have hbt := bit_any x wb bb k l wr (HV.out.below HB.out) (by rw [← HN.out]; exact hl) (by rw [← HN.out]; exact hlt)
      rw [List.getD_eq_getElem?_getD, hv, Option.getD_some] at hbt
      have HBT := Lib.hid hbt
      have HX := Lib.hid hv
      clear hr ho hb hD hbt hv
      by_cases hc : v = c
      · subst hc
        have hvv : (v != v) = false := by simp
        have HNX := Lib.hid (runsK_same HX.out HR.out)
        obtain ⟨z0, z1, z2⟩ := own_last HW.out HD.out
        have HZ := Lib.hid (z2 ((m : Int) + 1))
        have HBZ : Hid (Below w.heap.size w (wr.setCell ⟨g, D, none⟩ (.int .i64 ((m : Int) + 1)))) := Lib.hid (HB.out.setCell (by have := (HW.out.lt g rfl).1; simpa using this) _)
        clear z2
        go_wp2_with fail
        refine HBT.out.mono ?_
        rintro e w1 ⟨rfl, rfl⟩
        go_wp2_with fail
        go_roundw
        case rel => exact ⟨k + 1, m + 1, D, g, cap, d, v, by omega, by go_num, rfl, rfl, HD.out, HNX.out, HZ.out, HBZ.out⟩
        case measure => simp [intOf]; omega
      · have hvv : (v == c) = false := by simpa using hc
        have HC := Lib.hid hc
        have HNX := Lib.hid (runsK_new HX.out HR.out hc)
        have hvn : (!c) = v := by cases v <;> cases c <;> simp_all
        clear hc
        go_wp2_with fail
        refine HBT.out.mono ?_
        rintro e w1 ⟨rfl, rfl⟩
        have ho' : wr.ownsRow w.heap.size 3 1 (.slice (some ⟨g, 0, none⟩) (D + 1) cap) (D + 1) (valsI (d ++ [(m : Int)])) := by
          have := HW.out; unfold OwnI at this; rwa [List.length_append, List.length_singleton, HD.out] at this
        have HO' := Lib.hid ho'
        have hsz : w.heap.size ≤ wr.heap.size := HB.out.size
        clear ho'
        go_wp2_with (at_builtin; refine wpList_append_lies _ rfl (.tmp 30) (.tmp 31) 33 rfl w.heap.size 3 i1 _ 1 8 Tryd.underlying33 hi1 hy0 hy1 hy2 rfl (by decide) (.slice (some ⟨g, 0, none⟩) (D + 1) cap) (D + 1) (valsI (d ++ [(m : Int)])) rfl (HO'.out.alloc _) ⟨wr.heap.size, 0, none⟩ 1 1 [.int .i64 0] rfl rfl (World.news_of_block (cs := #[.int .i64 0]) (t := 3) (fr := (0, 0)) (heap_alloc_new wr _)) (by simp [Value.oneCell']) (by omega) (by unfold maxLen; omega) (by omega) (by simp; omega) (wr.heap.size + 1) (by simp) ?_)
        intro g2 cap2 W6 hown6 hgrow6 hat6 hlt6
        have hb6 : Below w.heap.size w W6 := (HB.out.alloc hsz _).grown hgrow6 (by simp; omega) (fun k' e => by have := (HO'.out.lt k' e).1; omega)
        have hO6 : OwnI w W6 g2 cap2 ((d ++ [(m : Int)]) ++ [(0 : Int)]) := by
          unfold OwnI
          rw [valsI_snoc, List.length_append, List.length_append, List.length_singleton, List.length_singleton, HD.out]
          exact hown6
        obtain ⟨z0, z1, z2⟩ := own_last (D := D + 1) hO6 (by simp [HD.out])
        have HZ := Lib.hid (z2 1)
        have HBZ : Hid (Below w.heap.size w (W6.setCell ⟨g2, D + 1, none⟩ (.int .i64 1))) := Lib.hid (hb6.setCell (by have := (hO6.lt g2 rfl).1; simpa using this) _)
        have HDD : Hid ((d ++ [(m : Int)]).length = D + 1) := Lib.hid (by simp [HD.out])
        clear hown6 hgrow6 hat6 hlt6 hb6 hO6 z2
        go_wp2_with fail
        go_roundw
        case rel => exact ⟨k + 1, 1, D + 1, g2, cap2, d ++ [(m : Int)], v, by omega, by go_num, rfl, rfl, HDD.out, HNX.out, HZ.out, HBZ.out⟩
        case measure => simp [intOf]; omega
    · have hkn : k = n := by omega
      subst hkn
      have hR : runsB l = d ++ [(m : Int)] := by
        rw [runsB_pos (by rw [← HN.out]; omega), ← HN.out, HR.out]
      have HRR := Lib.hid hR
      clear hr ho hb hD hR
      go_wp2_with fail
      go_ret
      refine ⟨some ⟨g, 0, none⟩, cap, ?_, ?_, HB.out⟩
      · rw [HRR.out, List.length_append, List.length_singleton, HD.out]; rfl
      · rw [HRR.out]; exact HW.out.at
end Go.Proofs.YtakaadoppijeaaaDoor
