/- The reference's Runs; the law of what is made: its walk. -/
import Derived.Deep.AppendLies
import Derived.Test.YtakaadoppijeaaaDoorBvY
namespace Go.Proofs.YtakaadoppijeaaaDoor
open Go.RowKit
set_option maxRecDepth 100000
set_option maxHeartbeats 4000000 in
theorem refRuns_any (A : Option Addr) (cp : Nat) (l : List Bool) (w : World) (hl : l.length ≤ 2000000) (hA : BitsAt (· < w.heap.size) w A l) :
    Calls Tryd.prog 18 #[.slice A l.length cp] w (RetI w (runsB l)) := by
  have HA := Lib.hid hA
  obtain ⟨n, hn⟩ : ∃ n, n = l.length := ⟨_, rfl⟩
  rw [← hn] at hl ⊢
  have HN := Lib.hid hn
  obtain ⟨i1, hi1, hy0, hy1, hy2⟩ := info_parts Tryd.infoInt
  clear hA hn
  go_enter Tryd.func18, Tryd.ntmps18
  go_wp2_with fail
  go_loopw [3, 4, 5, 6] (fun s3 s4 s5 s6 wr => ∃ (k m D cap : Nat) (G : Option Addr) (d : List Int) (c : Bool), k ≤ n ∧ s6 = .int .i64 k ∧ s5 = .int .i64 m ∧ s4 = .bool c ∧ s3 = .slice G D cap ∧ d.length = D ∧ runsK l k = (d, c, m) ∧ wr.ownsRow w.heap.size 3 1 (.slice G D cap) D (valsI d) ∧ Below w.heap.size w wr) (fun _ _ _ s6 _ => n - (intOf s6).toNat)
  case atStart => exact ⟨0, 0, 0, 0, none, [], false, by omega, rfl, rfl, rfl, rfl, rfl, runsK_zero l, World.ownsRow_nil _ _ _ _, Below.refl _ _⟩
  case round =>
    obtain ⟨k, m, D, cap, G, d, c, hk, rfl, rfl, rfl, rfl, hD, hr, ho, hb⟩ := hrel
    have hDk : D ≤ k := by have := runsK_len l k; rw [hr] at this; simp at this; omega
    have hmk : m ≤ k := by have := runsK_n l k; rw [hr] at this; simpa using this
    have HR := Lib.hid hr
    have HW := Lib.hid ho
    have HB := Lib.hid hb
    have HD := Lib.hid hD
    have hsz : w.heap.size ≤ wr.heap.size := hb.size
    clear hr ho hb hD
    by_cases hlt : k < n
    · have hltI : (k : Int) < (n : Int) := by omega
      obtain ⟨v, hv⟩ : ∃ v, l[k]? = some v := ⟨l[k]'(by rw [← HN.out]; exact hlt), List.getElem?_eq_getElem _⟩
      obtain ⟨p, off, hAe, hp, hc⟩ := HA.out (by rw [← HN.out]; omega)
      subst hAe
      have x0 := (HB.out.cell (p := ⟨p, off + k, none⟩) hp).trans (hc k v hv)
      have HX := Lib.hid hv
      have hcv := hc k v hv
      have HC0 := Lib.hid hcv
      have hpk := hp
      clear hv hc hp hcv
      by_cases hvc : v = c
      · subst hvc
        have hvv : (v == v) = true := by simp
        have HNX := Lib.hid (runsK_same HX.out HR.out)
        go_wp2_with fail
        go_roundw
        case rel => exact ⟨k + 1, m + 1, D, cap, G, d, v, by omega, by go_num, by go_num, rfl, rfl, HD.out, HNX.out, HW.out, HB.out⟩
        case measure => simp [intOf]; omega
      · have hvv : (v == c) = false := by simpa using hvc
        have HNX := Lib.hid (runsK_new HX.out HR.out hvc)
        clear hvc
        go_wp2_with (at_builtin; refine wpList_append_lies _ rfl (.tmp 19) (.tmp 21) 33 rfl w.heap.size 3 i1 _ 1 8 Tryd.underlying33 hi1 hy0 hy1 hy2 rfl (by decide) (.slice G D cap) D (valsI d) rfl (HW.out.alloc _) ⟨wr.heap.size, 0, none⟩ 1 1 [.int .i64 (m : Int)] rfl rfl (World.news_of_block (cs := #[.int .i64 (m : Int)]) (t := 3) (fr := (0, 0)) (heap_alloc_new wr _)) (by simp [Value.oneCell']) (by omega) (by unfold maxLen; omega) (by omega) (by simp; omega) (wr.heap.size + 1) (by simp) ?_)
        intro g2 cap2 W6 hown6 hgrow6 hat6 hlt6
        have hb6 : Below w.heap.size w W6 := (HB.out.alloc hsz _).grown hgrow6 (by simp; omega) (fun k' e => by have := (HW.out.lt k' e).1; omega)
        have x6 : W6.cell? ⟨p, off + k, none⟩ = some (.bool v) := (hb6.cell (p := ⟨p, off + k, none⟩) hpk).trans HC0.out
        have HB6 := Lib.hid hb6
        have HO6 : Hid (W6.ownsRow w.heap.size 3 1 (.slice (some ⟨g2, 0, none⟩) (D + 1) cap2) (D + 1) (valsI (d ++ [(m : Int)]))) := Lib.hid (by rw [valsI_snoc]; exact hown6)
        have HDD : Hid ((d ++ [(m : Int)]).length = D + 1) := Lib.hid (by simp [HD.out])
        clear hown6 hgrow6 hat6 hlt6 hb6
        go_wp2_with fail
        go_roundw
        case rel => exact ⟨k + 1, 1, D + 1, cap2, some ⟨g2, 0, none⟩, d ++ [(m : Int)], v, by omega, by go_num, by go_num, rfl, rfl, HDD.out, HNX.out, HO6.out, HB6.out⟩
        case measure => simp [intOf]; omega
    · have hkn : k = n := by omega
      subst hkn
      by_cases h0 : k = 0
      · subst h0
        have hl0 : l = [] := List.length_eq_zero_iff.1 HN.out.symm
        have HL := Lib.hid hl0
        obtain rfl : D = 0 := by omega
        have hd0 : d = [] := List.length_eq_zero_iff.1 HD.out
        have HD0 := Lib.hid hd0
        clear hl0 hd0
        go_wp2_with fail
        go_ret
        refine ⟨G, cap, by rw [HL.out]; rfl, by rw [HL.out]; exact IntsAt.nil _ _ _, HB.out⟩
      · have h0I : (0 : Int) < (k : Int) := by omega
        have h0p : 0 < k := by omega
        have hR : runsB l = d ++ [(m : Int)] := by
          rw [runsB_pos (by rw [← HN.out]; omega), ← HN.out, HR.out]
        have HRR := Lib.hid hR
        clear hR h0
        go_wp2_with (at_builtin; refine wpList_append_lies _ rfl (.tmp 32) (.tmp 34) 33 rfl w.heap.size 3 i1 _ 1 8 Tryd.underlying33 hi1 hy0 hy1 hy2 rfl (by decide) (.slice G D cap) D (valsI d) rfl (HW.out.alloc _) ⟨wr.heap.size, 0, none⟩ 1 1 [.int .i64 (m : Int)] rfl rfl (World.news_of_block (cs := #[.int .i64 (m : Int)]) (t := 3) (fr := (0, 0)) (heap_alloc_new wr _)) (by simp [Value.oneCell']) (by omega) (by unfold maxLen; omega) (by omega) (by simp; omega) (wr.heap.size + 1) (by simp) ?_)
        intro g2 cap2 W6 hown6 hgrow6 hat6 hlt6
        have hb6 : Below w.heap.size w W6 := (HB.out.alloc hsz _).grown hgrow6 (by simp; omega) (fun k' e => by have := (HW.out.lt k' e).1; omega)
        have HB6 := Lib.hid hb6
        have HO6 : Hid (OwnI w W6 g2 cap2 (d ++ [(m : Int)])) := Lib.hid (by
          unfold OwnI
          rw [List.length_append, List.length_singleton, HD.out, valsI_snoc]
          exact hown6)
        clear hown6 hgrow6 hat6 hlt6 hb6
        go_wp2_with fail
        go_ret
        refine ⟨some ⟨g2, 0, none⟩, cap2, ?_, ?_, HB6.out⟩
        · rw [HRR.out, List.length_append, List.length_singleton, HD.out]; rfl
        · rw [HRR.out]; exact HO6.out.at
end Go.Proofs.YtakaadoppijeaaaDoor
