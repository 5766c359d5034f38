/- Walks: math/bits.OnesCount64. -/
import Derived.Test.YtakaadoppijeaaaDoorPop
import Derived.ProofKit
import Derived.Laws.Bits64b
import Derived.Laws.Bits128
namespace Go.Proofs.YtakaadoppijeaaaDoor
open Go.RowKit
set_option maxRecDepth 100000
theorem u64_in (n : Nat) (h : n < 18446744073709551616) : IntKind.u64.wrap (n : Int) = (n : Int) := by
  simp [IntKind.wrap, IntKind.bits, IntKind.signed]
  omega
set_option maxHeartbeats 2000000 in
theorem ones_any (x : Nat) (w : World) (hx : x < 18446744073709551616) : Calls Tryd.prog 38 #[.int .u64 x] w fun e w' => e = .returned (.int .i64 (popc x)) ∧ w = w' := by
  obtain ⟨a1, ha1⟩ : ∃ a1, a1 = x / 2 &&& rep 0x55 8 := ⟨_, rfl⟩
  obtain ⟨a2, ha2⟩ : ∃ a2, a2 = x &&& rep 0x55 8 := ⟨_, rfl⟩
  obtain ⟨y1, hy1⟩ : ∃ y1, y1 = a1 + a2 := ⟨_, rfl⟩
  obtain ⟨b1, hb1⟩ : ∃ b1, b1 = y1 / 4 &&& rep 0x33 8 := ⟨_, rfl⟩
  obtain ⟨b2, hb2⟩ : ∃ b2, b2 = y1 &&& rep 0x33 8 := ⟨_, rfl⟩
  obtain ⟨y2, hy2⟩ : ∃ y2, y2 = b1 + b2 := ⟨_, rfl⟩
  obtain ⟨t3, ht3⟩ : ∃ t3, t3 = y2 / 16 + y2 := ⟨_, rfl⟩
  obtain ⟨y3, hy3⟩ : ∃ y3, y3 = t3 &&& rep 0x0f 8 := ⟨_, rfl⟩
  obtain ⟨y4, hy4⟩ : ∃ y4, y4 = y3 + y3 / 256 := ⟨_, rfl⟩
  obtain ⟨y5, hy5⟩ : ∃ y5, y5 = y4 + y4 / 65536 := ⟨_, rfl⟩
  obtain ⟨y6, hy6⟩ : ∃ y6, y6 = y5 + y5 / 4294967296 := ⟨_, rfl⟩
  have E := show y6 % 128 = popc x by
    have e3 : y3 = pops 8 x := by rw [← pops_is, hy3, ht3, hy2, hb1, hb2, hy1, ha1, ha2]; rfl
    obtain ⟨p0, p1, p2, p3, p4, p5, p6, p7, q0, q1, q2, q3, q4, q5, q6, q7, hp, hs⟩ := pops8 x
    rw [hp]
    exact pop_end q0 q1 q2 q3 q4 q5 q6 q7 y3 y4 y5 y6 (e3.trans hs) hy4 hy5 hy6
  have m0 : rep 0x55 8 = 6148914691236517205 := by decide +kernel
  have m1 : rep 0x33 8 = 3689348814741910323 := by decide +kernel
  have m2 : rep 0x0f 8 = 1085102592571150095 := by decide +kernel
  rw [m0] at ha1 ha2
  rw [m1] at hb1 hb2
  rw [m2] at hy3
  have l1 : a1 ≤ 6148914691236517205 := by rw [ha1]; exact Nat.and_le_right
  have l2 : a2 ≤ 6148914691236517205 := by rw [ha2]; exact Nat.and_le_right
  have l3 : b1 ≤ 3689348814741910323 := by rw [hb1]; exact Nat.and_le_right
  have l4 : b2 ≤ 3689348814741910323 := by rw [hb2]; exact Nat.and_le_right
  have l5 : y3 ≤ 1085102592571150095 := by rw [hy3]; exact Nat.and_le_right
  have hA1 : bits .and .u64 ((x : Int) / 2) 6148914691236517205 = (a1 : Int) := by
    rw [ha1, ← bits_and_u64_nat _ _ (by omega) (by decide)]; rfl
  have hA2 : bits .and .u64 (x : Int) 6148914691236517205 = (a2 : Int) := by
    rw [ha2, ← bits_and_u64_nat _ _ (by omega) (by decide)]; rfl
  have hW1 : IntKind.u64.wrap ((a1 : Int) + (a2 : Int)) = (y1 : Int) := by rw [hy1]; exact u64_in (a1 + a2) (by omega)
  have hB1 : bits .and .u64 ((y1 : Int) / 4) 3689348814741910323 = (b1 : Int) := by
    rw [hb1, ← bits_and_u64_nat _ _ (by omega) (by decide)]; rfl
  have hB2 : bits .and .u64 (y1 : Int) 3689348814741910323 = (b2 : Int) := by
    rw [hb2, ← bits_and_u64_nat _ _ (by omega) (by decide)]; rfl
  have hW2 : IntKind.u64.wrap ((b1 : Int) + (b2 : Int)) = (y2 : Int) := by rw [hy2]; exact u64_in (b1 + b2) (by omega)
  have hW3 : IntKind.u64.wrap ((y2 : Int) / 16 + (y2 : Int)) = (t3 : Int) := by rw [ht3]; exact u64_in (y2 / 16 + y2) (by omega)
  have hC : bits .and .u64 (t3 : Int) 1085102592571150095 = (y3 : Int) := by
    rw [hy3, ← bits_and_u64_nat _ _ (by omega) (by decide)]; rfl
  have hW4 : IntKind.u64.wrap ((y3 : Int) + (y3 : Int) / 256) = (y4 : Int) := by rw [hy4]; exact u64_in (y3 + y3 / 256) (by omega)
  have hW5 : IntKind.u64.wrap ((y4 : Int) + (y4 : Int) / 65536) = (y5 : Int) := by rw [hy5]; exact u64_in (y4 + y4 / 65536) (by omega)
  have hW6 : IntKind.u64.wrap ((y5 : Int) + (y5 : Int) / 4294967296) = (y6 : Int) := by rw [hy6]; exact u64_in (y5 + y5 / 4294967296) (by omega)
  have hI : IntKind.i64.wrap (y6 : Int) = (y6 : Int) := IntWalk.i64_in _ (by omega)
  have hD : bits .and .i64 (y6 : Int) 127 = (popc x : Int) := by rw [i64_and127, ← E]; rfl
  clear E m0 m1 m2 l1 l2 l3 l4 l5 ha1 ha2 hy1 hb1 hb2 hy2 ht3 hy3 hy4 hy5 hy6 hx
  go_enter Tryd.func38, Tryd.ntmps38
  go_wp2_with fail
  go_ret
  exact ⟨rfl, rfl⟩
end Go.Proofs.YtakaadoppijeaaaDoor
