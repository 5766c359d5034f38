/- slices.Backward over catalogs: the iterator's contract; what the rounds of Make compute. -/
import Derived.RangeFuncNested
import Derived.RangeFuncBound
import Derived.RangeFuncCalls
import Derived.RangeFuncLeaves
import Derived.Shelf.Abstract
import Derived.Shelf.RegionOpen
import Derived.OwnWalkIn
import Derived.TacticsInMore
import Derived.LoopNIn
import Derived.LoopIn
import Derived.Test.YtedjjleckhclcaaCasF
namespace Go.Proofs.Ytedjjleckhclcaa
open Go.RowKit Go.Shelf
set_option maxRecDepth 100000
attribute [local go_sem] Oper.semAt_some

/-- What comes in a round: an index and a catalog. -/
structure Cat (n₀ : Nat) (w0 : World) (M : List (List Int)) where
  i : Nat
  l : List Int
  A : Option Addr
  c : Nat
  hi : M[i]? = some l
  hl : l.length ≤ c
  hc : c ≤ maxLen
  hA : IntsAt (· < n₀) w0 A l
def Cat.enc {n₀ : Nat} {w0 : World} {M : List (List Int)} (x : Cat n₀ w0 M) : Array Value := #[.int .i64 (x.i : Int), .slice x.A x.l.length x.c]
/-- What a round keeps for the iterator: the catalogs, and its own box. -/
def KpB (n₀ bx : Nat) (W W' : World) : Prop := Below n₀ W W' ∧ W'.heap[bx]? = W.heap[bx]?
theorem KpB.trans {n₀ bx : Nat} {A B C : World} (h : KpB n₀ bx A B) (k : KpB n₀ bx B C) : KpB n₀ bx A C := ⟨h.1.trans k.1, k.2.trans h.2⟩
theorem rev_step (k m : Nat) : (List.range' k (m + 1)).reverse = (List.range' (k + 1) m).reverse ++ [k] := by rw [List.range'_succ, List.reverse_cons]

theorem back_in (F : Fence) (n : Nat) (hF : ∀ f, F.fn f) (hro : F.round = none) (A : Option Addr) (len cap : Nat) (w : World) :
    CallsIn F n Try.prog 27 #[.slice A len cap] w fun e w' => e = .returned (.func (.func 37) #[] #[.pointer (some ⟨w.heap.size, 0, none⟩)]) ∧ w' = w.alloc (.cells #[.slice A len cap] 22) := by
  refine callsIn_of_wp Try.func27 rfl (hF _) ?_ hro
  simp only [Try.ntmps27, List.size_toArray, List.length_cons, List.length_nil, Nat.reduceAdd, Nat.reduceSub, Array.replicate_succ, Array.replicate_zero, List.push_toArray, List.append_toArray, List.nil_append, List.cons_append]
  gi_wp2_with fail
  go_ret
  exact ⟨rfl, rfl⟩

set_option maxHeartbeats 2000000 in
theorem back_stops (F : Fence) (n : Nat) (hF : ∀ f, F.fn f) (hro : F.round = none) (hn : 1 ≤ n) (bx n₀ : Nat) (A : Option Addr) (cp : Nat) (M : List (List Int)) (w : World) (hbx : w.heap[bx]? = some (.cells #[.slice A M.length cp] 22 (0, 0))) (hR : RowsAt (· < n₀) w A M) (hn₀ : n₀ ≤ w.heap.size) (hm : M.length ≤ 1000) :
    SeqStopsK F n Try.prog 37 #[.pointer (some ⟨bx, 0, none⟩)] (Cat.enc (n₀ := n₀) (w0 := w) (M := M)) (KpB n₀ bx) (fun xs => xs.map Cat.i = (List.range' 0 M.length).reverse) (fun _ => True) M.length w := by
  intro l J Jx W hW hJ hJx hY h0
  have hbW := (hW.block bx (Array.getElem?_eq_some_iff.1 hbx).1).trans hbx
  obtain ⟨m, hmm⟩ : ∃ m, M.length = m := ⟨_, rfl⟩
  have HM := Lib.hid hmm
  rw [hmm] at hbW hm hY ⊢
  have HR := Lib.hid hR
  have HW := Lib.hid (hW.mono hn₀)
  have HBX := Lib.hid hbW
  have b0 := (bk1 hbW).1
  have HJ0 := Lib.hid h0
  clear hbx hR hW hJ hJx h0 hmm hbW
  refine callsIn_of_wp Try.func37 rfl (hF _) ?_ hro
  simp only [Try.ntmps37, List.size_toArray, List.length_cons, List.length_nil, Nat.reduceAdd, Nat.reduceSub, Array.replicate_succ, Array.replicate_zero, List.push_toArray, List.append_toArray, List.nil_append, List.cons_append]
  gi_wp2_with fail
  gi_loopw [3] (fun i wr => ∃ (k : Nat) (pre : List (Cat n₀ w M)), k ≤ m ∧ i = .int .i64 ((k : Int) - 1) ∧ pre.map Cat.i = (List.range' k (m - k)).reverse ∧ J pre wr ∧ KpB n₀ bx W wr) (fun i _ => (intOf i + 1).toNat)
  case atStart => exact ⟨m, [], Nat.le_refl _, rfl, by simp, HJ0.out, Below.refl _ _, rfl⟩
  case round =>
    clear b0
    obtain ⟨k, pre, hk, rfl, hpre, hJs, hkp⟩ := hrel
    have HP := Lib.hid hpre
    have HKP := Lib.hid hkp
    have HJS := Lib.hid hJs
    have b0 := (bk1 (hkp.2.trans HBX.out)).1
    clear hpre hkp hJs
    cases k with
    | zero =>
      gi_wp2_with fail
      go_end0
      exact ⟨⟨_, rfl⟩, .inl ⟨pre, by have := HP.out; simpa [HM.out] using this, HJS.out⟩⟩
    | succ j =>
      obtain ⟨lj, hlj⟩ : ∃ l, M[j]? = some l := ⟨M[j]'(by rw [HM.out]; omega), List.getElem?_eq_getElem _⟩
      obtain ⟨rb, ro, hA, hrb, hrc⟩ := HR.out (by rw [HM.out]; omega)
      obtain ⟨A', c', r0, r1, r2, r3⟩ := hrc j lj hlj
      have r0' := (HKP.out.1.cell (p := ⟨rb, ro + j, none⟩) hrb).trans ((HW.out.cell (p := ⟨rb, ro + j, none⟩) hrb).trans r0)
      obtain ⟨x, hxi, hxe⟩ : ∃ x : Cat n₀ w M, x.i = j ∧ Cat.enc x = #[.int .i64 (j : Int), .slice A' lj.length c'] := ⟨⟨j, lj, A', c', hlj, r1, r2, r3⟩, rfl, rfl⟩
      have hlen : pre.length < m := by have := congrArg List.length HP.out; simp at this; omega
      obtain ⟨fn, tmps, assign, body, hy, hRd⟩ := hY pre x wr HJS.out hlen
      rw [hxe] at hy
      have HRD := Lib.hid hRd
      have HXI := Lib.hid hxi
      subst hA
      have hji : (j : Int) < (m : Int) := by omega
      have e1 : ((j + 1 : Nat) : Int) - 1 = (j : Int) := by omega
      rw [e1]
      clear hrc r0 r1 r2 r3 hRd hxi hxe hlj e1
      gi_wp2_with fail
      refine HRD.out.mono ?_
      rintro e W3 (⟨rfl, hJ3, hk3⟩ | ⟨rfl, hJx3⟩)
      · have HK3 := Lib.hid (HKP.out.trans hk3)
        have HJ3 := Lib.hid hJ3
        clear hJ3 hk3
        gi_wp2_with fail
        go_roundw
        case rel => exact ⟨j, pre ++ [x], by omega, rfl, by rw [List.map_append, HP.out, List.map_singleton, HXI.out, show m - j = (m - (j + 1)) + 1 by omega, rev_step], HJ3.out, HK3.out⟩
        case measure => simp [intOf]
      · gi_wp2_with fail
        refine bodyPost_ret (results_none rfl _ _ _) rfl ?_
        exact ⟨⟨_, rfl⟩, .inr ⟨pre ++ [x], trivial, hJx3⟩⟩

/-- What the rounds have made: the augmented list at each index, and the keys of the last one. -/
def stS (s : (Nat → Option (List CE)) × List Int) (p : Nat × List Int) : (Nat → Option (List CE)) × List Int :=
  (fun j => if j = p.1 then some (aug p.2 s.2) else s.1 j, (aug p.2 s.2).map Prod.fst)
def st (ps : List (Nat × List Int)) : (Nat → Option (List CE)) × List Int := ps.foldl stS (fun _ => none, [])
theorem st_snoc (ps : List (Nat × List Int)) (p : Nat × List Int) : st (ps ++ [p]) = stS (st ps) p := by simp [st]
theorem st_len0 : ∀ (ps : List (Nat × List Int)) (s : (Nat → Option (List CE)) × List Int), s.2.length ≤ 2000 → (∀ p ∈ ps, p.2.length ≤ 1000) → (ps.foldl stS s).2.length ≤ 2000
  | [], s, h, _ => h
  | p :: ps, s, h, hp => by
    refine st_len0 ps (stS s p) ?_ fun q hq => hp q (List.mem_cons_of_mem _ hq)
    have := hp p (List.mem_cons_self ..)
    simp only [stS, List.length_map, aug_len]
    omega
theorem st_len (ps : List (Nat × List Int)) (h : ∀ p ∈ ps, p.2.length ≤ 1000) : (st ps).2.length ≤ 2000 := st_len0 ps _ (by simp) h
theorem st_part (M : List (List Int)) : ∀ (d : Nat) (ps : List (Nat × List Int)), d ≤ M.length → ps.map Prod.fst = (List.range' (M.length - d) d).reverse → (∀ p ∈ ps, M[p.1]? = some p.2) →
    (st ps).2 = hdk (lsts (M.drop (M.length - d))) ∧ ∀ j, M.length - d ≤ j → (st ps).1 j = (lsts M)[j]?
  | 0, ps, _, h, _ => by
    obtain rfl : ps = [] := by simpa using h
    refine ⟨by simp [st, lsts, hdk], fun j hj => ?_⟩
    rw [List.getElem?_eq_none (by rw [lsts_len]; omega)]
    rfl
  | d + 1, ps, hd, h, hm => by
    have e1 : M.length - d = (M.length - (d + 1)) + 1 := by omega
    rw [rev_step, ← e1] at h
    rcases List.eq_nil_or_concat ps with rfl | ⟨qs, p, rfl⟩
    · simp at h
    · rw [List.concat_eq_append] at h hm ⊢
      rw [List.map_append, List.map_singleton] at h
      obtain ⟨h1, h2⟩ := List.append_inj' h rfl
      have h2 : p.1 = M.length - (d + 1) := by simpa using h2
      obtain ⟨i1, i2⟩ := st_part M d qs (by omega) h1 fun q hq => hm q (by simp [hq])
      have hp := hm p (by simp)
      rw [st_snoc]
      have hg := lsts_get hp
      rw [h2, ← e1] at hg
      have hdrop : lsts (M.drop (M.length - (d + 1))) = aug p.2 (hdk (lsts (M.drop (M.length - d)))) :: lsts (M.drop (M.length - d)) := by
        rw [h2] at hp
        obtain ⟨hl, he⟩ := List.getElem?_eq_some_iff.1 hp
        rw [List.drop_eq_getElem_cons hl, lsts, he, ← e1]
      refine ⟨by rw [hdrop]; simp only [stS, i1, hdk], fun j hj => ?_⟩
      simp only [stS, i1]
      by_cases hjp : j = p.1
      · rw [if_pos hjp, hjp, h2, hg]
      · rw [if_neg hjp]
        exact i2 j (by omega)
end Go.Proofs.Ytedjjleckhclcaa
