/- Walks: math/bits.TrailingZeros64; sort.Search at the closure of selected; selected. -/
import Derived.Test.YtakaadoppijeaaaDoorBvE
import Derived.Test.YtakaadoppijeaaaDoorBvS
namespace Go.Proofs.YtakaadoppijeaaaDoor
open Go.RowKit
set_option maxRecDepth 100000
/-- The table of math/bits in its variable. -/
def TabAt (w : World) : Prop := ∀ j, j < 64 → w.cell? ⟨0, j, none⟩ = some (.int .u8 (Go.Lib.deBruijn64tab.getD j 0))
theorem tz_key (x a : Nat) (hx : x < 18446744073709551616) (hx0 : x ≠ 0) (hlow : x &&& (18446744073709551616 - x) = a) :
    IntKind.u64.wrap (bits BinOp.and IntKind.u64 (x : Int) (IntKind.u64.wrap (-(x : Int))) * 285870213051353865) / 288230376151711744 = ((a * 285870213051353865 % 18446744073709551616 / 288230376151711744 : Nat) : Int) := by
  have e1 : IntKind.u64.wrap (-(x : Int)) = ((18446744073709551616 - x : Nat) : Int) := by rw [IntKind.wrap_u64]; omega
  rw [e1, bits_and_u64_nat x _ hx (by omega), hlow, IntKind.wrap_u64]
  omega
set_option maxHeartbeats 1000000 in
theorem tz_core (x k idx : Nat) (w : World) (hx0 : ((x : Int) == 0) = false)
    (key : IntKind.u64.wrap (bits BinOp.and IntKind.u64 (x : Int) (IntKind.u64.wrap (-(x : Int))) * 285870213051353865) / 288230376151711744 = (idx : Int))
    (hi : idx < 64) (hk : k < 64) (hcell : w.cell? ⟨0, idx, none⟩ = some (.int .u8 k)) :
    Calls Tryd.prog 42 #[.int .u64 x] w fun e w' => e = .returned (.int .i64 k) ∧ w = w' := by
  go_enter Tryd.func42, Tryd.ntmps42
  go_wp2_with (simp only [key])
  go_ret
  exact ⟨rfl, rfl⟩
theorem tz_any (x k : Nat) (w : World) (hx : x < 18446744073709551616) (hx0 : 0 < x) (hk : Go.Lib.ctz 64 x = k) (hT : TabAt w) :
    Calls Tryd.prog 42 #[.int .u64 x] w fun e w' => e = .returned (.int .i64 k) ∧ w = w' := by
  subst hk
  obtain ⟨hlow, hlt⟩ := Go.Lib.lowest_bit 64 x (by omega) hx
  obtain ⟨hi, htab⟩ := Go.Lib.deBruijn64_at _ hlt
  have hcell := hT _ hi
  rw [htab] at hcell
  have h0 : ((x : Int) == 0) = false := by simp; omega
  have key := tz_key x _ hx (by omega) hlow
  revert key hi htab hcell
  generalize 2 ^ Go.Lib.ctz 64 x * 285870213051353865 % 18446744073709551616 / 288230376151711744 = idx
  intro hi htab hcell key
  exact tz_core x _ idx w h0 key hi hlt hcell

/-- What selected has boxed: the bit, the vector, the number, the closure. -/
structure SelW (x : Nat) (b : Bool) (k : Nat) (pb pv pk pf : Nat) (W : World) : Prop where
  bit : W.cell? ⟨pb, 0, none⟩ = some (.bool b)
  vec : W.cell? ⟨pv, 0, none⟩ = some (.pointer (some ⟨x, 0, none⟩))
  num : W.cell? ⟨pk, 0, none⟩ = some (.int .i64 k)
  fn : W.cell? ⟨pf, 0, none⟩ = some (.func (.func 39) #[] #[.pointer (some ⟨pb, 0, none⟩), .pointer (some ⟨pv, 0, none⟩)])
set_option maxHeartbeats 2000000 in
theorem upTo_any (x wb bb k pb pv pk pf j : Nat) (b : Bool) (l : List Bool) (w : World) (h : BV x wb bb l w) (hs : SelW x b k pb pv pk pf w) (hl : l.length ≤ 2000000) (hj : j ≤ nwd l) :
    Calls Tryd.prog 39 #[.int .i64 j, .pointer (some ⟨pb, 0, none⟩), .pointer (some ⟨pv, 0, none⟩)] w fun e w' => e = .returned (.int .i64 (bcB l b j)) ∧ w' = w := by
  obtain ⟨⟨c0, c1, c2⟩, _, _, _⟩ := bk3 h.box
  have x0 := h.before j hj
  have y0 := hs.bit
  have y1 := hs.vec
  have hle := bc_le l j
  have HB := Lib.hid (show bcB l b j = if b then bc l j else 64 * j - bc l j from rfl)
  obtain ⟨u, hu⟩ : ∃ u, u = bc l j := ⟨_, rfl⟩
  obtain ⟨n, hn⟩ : ∃ n, n = nwd l := ⟨_, rfl⟩
  rw [← hu] at x0 HB hle
  rw [← hn] at c1 c2 hj
  have hn2 : n ≤ 40000 := by rw [hn]; unfold nwd; omega
  have hjn : j < n + 1 := by omega
  have hjnI : (j : Int) < (n : Int) + 1 := by omega
  clear h hs hu hn hj hl
  cases b
  · go_enter Tryd.func39, Tryd.ntmps39
    go_wp2_with fail
    go_ret
    exact ⟨retI (by rw [HB.out]; simp; omega), rfl⟩
  · go_enter Tryd.func39, Tryd.ntmps39
    go_wp2_with fail
    go_ret
    exact ⟨retI (by rw [HB.out]; simp), rfl⟩
set_option maxHeartbeats 2000000 in
theorem more_any (x wb bb k pb pv pk pf i : Nat) (b : Bool) (l : List Bool) (w : World) (h : BV x wb bb l w) (hs : SelW x b k pb pv pk pf w) (hl : l.length ≤ 2000000) (hi : i < nwd l) :
    Calls Tryd.prog 41 #[.int .i64 i, .pointer (some ⟨pf, 0, none⟩), .pointer (some ⟨pk, 0, none⟩)] w fun e w' => e = .returned (.bool (decide (k < bcB l b (i + 1)))) ∧ ∃ q, w' = w.drewN q := by
  have HU := Lib.hid (fun q => upTo_any x wb bb k pb pv pk pf (i + 1) b l (w.drewN q) ⟨h.box, h.words, h.before⟩ ⟨hs.bit, hs.vec, hs.num, hs.fn⟩ hl (by omega))
  have y0 := hs.fn
  have y1 := hs.num
  have hib : i ≤ 40000 := by unfold nwd at hi; omega
  generalize bcB l b (i + 1) = r at HU ⊢
  have hI : IntKind.i64.wrap ((i : Int) + 1) = ((i + 1 : Nat) : Int) := IntWalk.i64_in _ (by omega)
  clear h hs hi
  go_enter Tryd.func41, Tryd.ntmps41
  go_wp2_with fail
  go_quiet ((go_at_call 39; exact Calls.quiet_of_same (HU.out _)))
  go_wp2_with fail
  go_ret
  exact ⟨retB (by simp), _, rfl⟩
end Go.Proofs.YtakaadoppijeaaaDoor
