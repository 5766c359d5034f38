/- Walks: rank. -/
import Derived.BigQuiet
import Derived.Test.YtakaadoppijeaaaDoorBvB
namespace Go.Proofs.YtakaadoppijeaaaDoor
open Go.RowKit
set_option maxRecDepth 100000
/-- The bits equal to b ahead of an index. -/
def rkB (l : List Bool) (b : Bool) (i : Nat) : Nat := (l.take i).countP (· == b)
theorem rkB_add (l : List Bool) (i : Nat) (h : i ≤ l.length) : rkB l true i + rkB l false i = i := by
  unfold rkB
  have e : ∀ m : List Bool, m.countP (· == true) + m.countP (· == false) = m.length := fun m => by
    induction m with
    | nil => rfl
    | cons a m ih => cases a <;> simp_all <;> omega
  rw [e, List.length_take]
  omega
theorem count_range (f : Nat → Bool) (l : List Bool) (s : Nat) : ∀ (r : Nat), s + r ≤ l.length → (∀ i, i < r → f i = l.getD (s + i) false) → ((l.take (s + r)).countP id) = (l.take s).countP id + (List.range r).countP f
  | 0, _, _ => by simp
  | r + 1, h, hf => by
    have ih := count_range f l s r (by omega) fun i hi => hf i (by omega)
    have hx : l[s + r]? = some l[s + r] := List.getElem?_eq_getElem (by omega)
    have hr := hf r (by omega)
    rw [List.getD_eq_getElem?_getD, hx] at hr
    rw [← Nat.add_assoc, List.take_add_one, hx, List.range_succ, List.countP_append, List.countP_append, ih, Option.toList_some, List.countP_singleton, List.countP_singleton, hr]
    simp only [id, Option.getD_some]
    omega
theorem rk_word (l : List Bool) (i : Nat) (h : i ≤ l.length) : rkB l true i = bc l (i / 64) + popN (wd l (i / 64)) (i % 64) := by
  unfold rkB bc wd
  rw [popN_wd _ (by omega)]
  have e := count_range (fun k => l.getD (64 * (i / 64) + k) false) l (64 * (i / 64)) (i % 64) (by omega) (fun _ _ => rfl)
  rw [show 64 * (i / 64) + i % 64 = i by omega] at e
  rw [← e]
  apply List.countP_congr
  intro b _
  cases b <;> rfl
theorem ones_q (x r : Nat) (w : World) (hx : x < 18446744073709551616) (hr : popc x = r) : Calls Tryd.prog 38 #[.int .u64 x] w fun e w' => e = .returned (.int .i64 r) ∧ w' = w :=
  (ones_any x w hx).mono fun _ _ h => ⟨by rw [h.1, hr], h.2.symm⟩
theorem mask_val (v r : Nat) (hv : v < 18446744073709551616) (hr : r < 64) : bits .and .u64 (v : Int) (IntKind.u64.wrap (IntKind.u64.wrap (2 ^ r) - 1)) = ((v &&& (2 ^ r - 1) : Nat) : Int) := by
  have hp : 2 ^ r ≤ 2 ^ 63 := Nat.pow_le_pow_right (by decide) (by omega)
  have h0 : 0 < 2 ^ r := Nat.pow_pos (by decide)
  have e : ((2 : Int) ^ r) = ((2 ^ r : Nat) : Int) := by simp
  rw [e, u64_in _ (by omega), show (((2 ^ r : Nat) : Int) - 1) = ((2 ^ r - 1 : Nat) : Int) by omega, u64_in _ (by omega)]
  exact bits_and_u64_nat _ _ hv (by omega)
set_option maxHeartbeats 4000000 in
theorem rank_any (x wb bb i : Nat) (b : Bool) (l : List Bool) (w : World) (h : BV x wb bb l w) (hl : l.length ≤ 2000000) (hi : i ≤ l.length) :
    Calls Tryd.prog 34 #[.pointer (some ⟨x, 0, none⟩), .bool b, .int .i64 i] w fun e w' => e = .returned (.int .i64 (rkB l b i)) ∧ ∃ q, w' = w.drewN q := by
  obtain ⟨⟨c0, c1, c2⟩, _, _, _⟩ := bk3 h.box
  have hsum := rkB_add l i hi
  have HB := Lib.hid (show rkB l b i = if b then rkB l true i else i - rkB l true i by cases b <;> simp <;> omega)
  obtain ⟨t, ht⟩ : ∃ t, t = rkB l true i := ⟨_, rfl⟩
  rw [← ht] at HB hsum
  have hti : t ≤ i := by omega
  have HT := Lib.hid (ht.trans (rk_word l i hi))
  clear ht hsum
  by_cases hi0 : i = 0
  · subst hi0
    have ht0 : t = 0 := by omega
    subst ht0
    clear h
    cases b
    · go_enter Tryd.func34, Tryd.ntmps34
      go_wp2_with fail
      go_ret
      exact ⟨retI (by rw [HB.out]; rfl), 0, rfl⟩
    · go_enter Tryd.func34, Tryd.ntmps34
      go_wp2_with fail
      go_ret
      exact ⟨retI (by rw [HB.out]; rfl), 0, rfl⟩
  have y0 := h.before (i / 64) (by unfold nwd; omega)
  obtain ⟨j, hj'⟩ : ∃ j, j = i / 64 := ⟨_, rfl⟩
  obtain ⟨r, hr'⟩ : ∃ r, r = i % 64 := ⟨_, rfl⟩
  obtain ⟨n, hn⟩ : ∃ n, n = nwd l := ⟨_, rfl⟩
  obtain ⟨v, hv⟩ : ∃ v, v = wd l (i / 64) := ⟨_, rfl⟩
  obtain ⟨u, hu⟩ : ∃ u, u = bc l (i / 64) := ⟨_, rfl⟩
  rw [← hu, ← hj'] at y0
  have HW := Lib.hid (fun (hr : 0 < r) => (by have := h.words (i / 64) (by unfold nwd; omega); rw [← hv, ← hj'] at this; exact this : w.cell? ⟨wb, j, none⟩ = some (.int .u64 v)))
  rw [← hv, ← hu, ← hr'] at HT
  rw [← hn] at c1 c2
  have hI0 : (0 : Int) < (i : Int) := by omega
  have hI1 : (i : Int) / 64 = (j : Int) := by omega
  have hI2 : (i : Int) % 64 = (r : Int) := by omega
  have hn2 : n ≤ 40000 := by rw [hn]; unfold nwd; omega
  have hjn : j < n + 1 := by rw [hn, hj']; unfold nwd; omega
  have hjnI : (j : Int) < (n : Int) + 1 := by omega
  have hjw : 0 < r → j < n := fun _ => by rw [hn, hj']; unfold nwd; omega
  have hr64 : r < 64 := by omega
  have hr64I : (r : Int) < 64 := by omega
  have hvb : v < 18446744073709551616 := by rw [hv]; exact wd_lt _ _
  have hut : u ≤ t := by have := HT.out; omega
  have HJ := Lib.hid hj'
  have HR := Lib.hid hr'
  have HN := Lib.hid hn
  clear hv hj' hr' hn h hu
  by_cases hr0 : r = 0
  · subst hr0
    have hut : t = u := by have := HT.out; simpa [popN] using this
    subst hut
    cases b
    · go_enter Tryd.func34, Tryd.ntmps34
      go_wp2_with fail
      go_ret
      exact ⟨retI (by rw [HB.out]; simp; omega), 0, rfl⟩
    · go_enter Tryd.func34, Tryd.ntmps34
      go_wp2_with fail
      go_ret
      exact ⟨retI (by rw [HB.out]; rfl), 0, rfl⟩
  have hr0I : (0 : Int) < (r : Int) := by omega
  have hjw' := hjw (by omega)
  have hjwI : (j : Int) < (n : Int) := by omega
  have x0 := HW.out (by omega)
  obtain ⟨z, hz⟩ : ∃ z, z = v &&& (2 ^ r - 1) := ⟨_, rfl⟩
  obtain ⟨q, hq⟩ : ∃ q, q = popN v r := ⟨_, rfl⟩
  have hM := mask_val v r hvb hr64
  rw [← hz] at hM
  rw [← hq] at HT
  have HQ := Lib.hid (show popc z = q by rw [hz, hq]; exact popc_low v r (by omega))
  have hzb : z < 18446744073709551616 := by rw [hz]; exact Nat.lt_of_le_of_lt Nat.and_le_left hvb
  have htq : t = u + q := HT.out
  have htqI : (u : Int) + (q : Int) = (t : Int) := by omega
  have HZ := Lib.hid hzb
  clear hz hq HT htq hzb
  cases b
  · go_enter Tryd.func34, Tryd.ntmps34
    go_wp2_with fail
    go_quiet ((go_at_call 38; exact Calls.quiet_of_same (ones_q z q _ HZ.out HQ.out)))
    go_wp2_with fail
    go_ret
    exact ⟨retI (by rw [HB.out]; simp; omega), _, rfl⟩
  · go_enter Tryd.func34, Tryd.ntmps34
    go_wp2_with fail
    go_quiet ((go_at_call 38; exact Calls.quiet_of_same (ones_q z q _ HZ.out HQ.out)))
    go_wp2_with fail
    go_ret
    exact ⟨retI (by rw [HB.out]; simp), _, rfl⟩
end Go.Proofs.YtakaadoppijeaaaDoor
