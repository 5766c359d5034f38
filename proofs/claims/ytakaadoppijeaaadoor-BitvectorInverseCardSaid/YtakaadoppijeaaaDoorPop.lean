/- Plain: the ones of a word, as math/bits counts them: byte by byte. -/
import Derived.Test.YtakaadoppijeaaaDoorBase
namespace Go.Proofs.YtakaadoppijeaaaDoor
set_option maxRecDepth 100000

theorem and_digit (a c m d : Nat) (hc : c < 256) (hd : d < 256) : (256 * a + c) &&& (256 * m + d) = 256 * (a &&& m) + (c &&& d) := by
  have hcd : c &&& d < 2 ^ 8 := Nat.lt_of_le_of_lt Nat.and_le_left hc
  apply Nat.eq_of_testBit_eq
  intro i
  rw [Nat.testBit_and, show 256 = 2 ^ 8 from rfl, Nat.testBit_two_pow_mul_add _ hc, Nat.testBit_two_pow_mul_add _ hd, Nat.testBit_two_pow_mul_add _ hcd]
  split <;> rw [Nat.testBit_and]

/-- A byte, written k times. -/
def rep (b : Nat) : Nat → Nat
  | 0 => 0
  | k + 1 => 256 * rep b k + b
def s1 (b : Nat) : Nat := (b / 2 &&& 0x55) + (b &&& 0x55)
def s2 (b : Nat) : Nat := (b / 4 &&& 0x33) + (b &&& 0x33)
def s3 (b : Nat) : Nat := (b / 16 + b) &&& 0x0f
def pop8 (b : Nat) : Nat := s3 (s2 (s1 b))
def S1 (k x : Nat) : Nat := (x / 2 &&& rep 0x55 k) + (x &&& rep 0x55 k)
def S2 (k x : Nat) : Nat := (x / 4 &&& rep 0x33 k) + (x &&& rep 0x33 k)
def S3 (k x : Nat) : Nat := (x / 16 + x) &&& rep 0x0f k
theorem s1_fact : ∀ e < 2, ∀ b < 256, (128 * e + b / 2) &&& 0x55 = b / 2 &&& 0x55 := by decide +kernel
theorem s2_fact : ∀ e < 4, ∀ b < 256, (64 * e + b / 4) &&& 0x33 = b / 4 &&& 0x33 := by decide +kernel
theorem s3_fact : ∀ e < 16, ∀ b < 256, (16 * e + b / 16 + b) &&& 0x0f = (b / 16 + b) &&& 0x0f := by decide +kernel
theorem s12_fact : ∀ b < 256, s1 b < 256 ∧ s2 (s1 b) < 256 ∧ s2 (s1 b) % 16 ≤ 4 ∧ s2 (s1 b) / 16 ≤ 4 ∧ pop8 b ≤ 8 := by decide +kernel
theorem S1_digit (k q b : Nat) (hb : b < 256) : S1 (k + 1) (256 * q + b) = 256 * S1 k q + s1 b := by
  unfold S1 s1
  rw [show rep 0x55 (k + 1) = 256 * rep 0x55 k + 0x55 from rfl]
  have e : (256 * q + b) / 2 = 256 * (q / 2) + (128 * (q % 2) + b / 2) := by omega
  rw [e, and_digit _ _ _ _ (by omega) (by decide), and_digit _ _ _ _ hb (by decide), s1_fact _ (by omega) _ hb]
  omega
theorem S2_digit (k q b : Nat) (hb : b < 256) : S2 (k + 1) (256 * q + b) = 256 * S2 k q + s2 b := by
  unfold S2 s2
  rw [show rep 0x33 (k + 1) = 256 * rep 0x33 k + 0x33 from rfl]
  have e : (256 * q + b) / 4 = 256 * (q / 4) + (64 * (q % 4) + b / 4) := by omega
  rw [e, and_digit _ _ _ _ (by omega) (by decide), and_digit _ _ _ _ hb (by decide), s2_fact _ (by omega) _ hb]
  omega
theorem S3_digit (k q b : Nat) (hb : b % 16 ≤ 4 ∧ b / 16 ≤ 4) (hq : q % 16 ≤ 4) : S3 (k + 1) (256 * q + b) = 256 * S3 k q + s3 b := by
  unfold S3 s3
  rw [show rep 0x0f (k + 1) = 256 * rep 0x0f k + 0x0f from rfl]
  have e : (256 * q + b) / 16 + (256 * q + b) = 256 * (q / 16 + q) + (16 * (q % 16) + b / 16 + b) := by omega
  rw [e, and_digit _ _ _ _ (by omega) (by decide), s3_fact _ (by omega) _ (by omega)]
/-- The counts of a word's bytes, the lowest first. -/
def pops : Nat → Nat → Nat
  | 0, _ => 0
  | k + 1, x => 256 * pops k (x / 256) + pop8 (x % 256)
theorem S21_low (k x : Nat) : S2 k (S1 k x) % 16 ≤ 4 := by
  cases k with
  | zero => simp [S2, rep]
  | succ k =>
    have hx : x = 256 * (x / 256) + x % 256 := by omega
    have h := s12_fact (x % 256) (by omega)
    rw [hx, S1_digit _ _ _ (by omega), S2_digit _ _ _ h.1]
    omega
theorem pops_is : ∀ (k x : Nat), S3 k (S2 k (S1 k x)) = pops k x
  | 0, x => by simp [S3, rep, pops]
  | k + 1, x => by
    have hx : x = 256 * (x / 256) + x % 256 := by omega
    have h := s12_fact (x % 256) (by omega)
    have ih := pops_is k (x / 256)
    have h2 := S21_low k (x / 256)
    conv => lhs; rw [hx]
    rw [S1_digit _ _ _ (by omega), S2_digit _ _ _ h.1, S3_digit _ _ _ ⟨h.2.2.1, h.2.2.2.1⟩ h2, ih]
    rfl
/-- The sum of the counts of a word's bytes. -/
def popc (x : Nat) : Nat := pop8 (x % 256) + pop8 (x / 256 % 256) + pop8 (x / 256 / 256 % 256) + pop8 (x / 256 / 256 / 256 % 256) + pop8 (x / 256 / 256 / 256 / 256 % 256) + pop8 (x / 256 / 256 / 256 / 256 / 256 % 256) + pop8 (x / 256 / 256 / 256 / 256 / 256 / 256 % 256) + pop8 (x / 256 / 256 / 256 / 256 / 256 / 256 / 256 % 256)
theorem pops8 (x : Nat) : ∃ p0 p1 p2 p3 p4 p5 p6 p7 : Nat, p0 ≤ 8 ∧ p1 ≤ 8 ∧ p2 ≤ 8 ∧ p3 ≤ 8 ∧ p4 ≤ 8 ∧ p5 ≤ 8 ∧ p6 ≤ 8 ∧ p7 ≤ 8 ∧ popc x = p0 + p1 + p2 + p3 + p4 + p5 + p6 + p7 ∧
    pops 8 x = 256 * (256 * (256 * (256 * (256 * (256 * (256 * p7 + p6) + p5) + p4) + p3) + p2) + p1) + p0 :=
  ⟨_, _, _, _, _, _, _, _, (s12_fact _ (Nat.mod_lt _ (by decide))).2.2.2.2, (s12_fact _ (Nat.mod_lt _ (by decide))).2.2.2.2, (s12_fact _ (Nat.mod_lt _ (by decide))).2.2.2.2, (s12_fact _ (Nat.mod_lt _ (by decide))).2.2.2.2,
    (s12_fact _ (Nat.mod_lt _ (by decide))).2.2.2.2, (s12_fact _ (Nat.mod_lt _ (by decide))).2.2.2.2, (s12_fact _ (Nat.mod_lt _ (by decide))).2.2.2.2, (s12_fact _ (Nat.mod_lt _ (by decide))).2.2.2.2, rfl, by simp only [pops]; omega⟩
theorem dv1 (A p : Nat) (h : p < 256) : (256 * A + p) / 256 = A := by omega
theorem dv2 (A p q : Nat) (h : p < 256) (h' : q < 256) : (256 * (256 * A + p) + q) / 65536 = A := by omega
theorem dv4 (A p q r s : Nat) (h : p < 256) (h1 : q < 256) (h2 : r < 256) (h3 : s < 256) : (256 * (256 * (256 * (256 * A + p) + q) + r) + s) / 4294967296 = A := by
  have e : (256 * (256 * (256 * (256 * A + p) + q) + r) + s) / 65536 = 256 * (256 * A + p) + q := dv2 _ _ _ h2 h3
  rw [show 4294967296 = 65536 * 65536 from rfl, ← Nat.div_div_eq_div_mul, e, dv2 _ _ _ h h1]
theorem md1 (R t : Nat) (h : t < 128) : (256 * R + t) % 128 = t := by omega
theorem pl1 (p0 p1 p2 p3 p4 p5 p6 p7 : Nat) : (256 * (256 * (256 * (256 * (256 * (256 * (256 * p7 + p6) + p5) + p4) + p3) + p2) + p1) + p0) + (256 * (256 * (256 * (256 * (256 * (256 * p7 + p6) + p5) + p4) + p3) + p2) + p1) = 256 * (256 * (256 * (256 * (256 * (256 * (256 * p7 + (p6 + p7)) + (p5 + p6)) + (p4 + p5)) + (p3 + p4)) + (p2 + p3)) + (p1 + p2)) + (p0 + p1) := by omega
theorem pl2 (p0 p1 p2 p3 p4 p5 p6 p7 : Nat) : (256 * (256 * (256 * (256 * (256 * (256 * (256 * p7 + (p6 + p7)) + (p5 + p6)) + (p4 + p5)) + (p3 + p4)) + (p2 + p3)) + (p1 + p2)) + (p0 + p1)) + (256 * (256 * (256 * (256 * (256 * p7 + (p6 + p7)) + (p5 + p6)) + (p4 + p5)) + (p3 + p4)) + (p2 + p3)) = 256 * (256 * (256 * (256 * (256 * (256 * (256 * p7 + (p6 + p7)) + (p5 + p6 + p7)) + (p4 + p5 + p6 + p7)) + (p3 + p4 + p5 + p6)) + (p2 + p3 + p4 + p5)) + (p1 + p2 + p3 + p4)) + (p0 + p1 + p2 + p3) := by omega
theorem pl3 (p0 p1 p2 p3 p4 p5 p6 p7 : Nat) : (256 * (256 * (256 * (256 * (256 * (256 * (256 * p7 + (p6 + p7)) + (p5 + p6 + p7)) + (p4 + p5 + p6 + p7)) + (p3 + p4 + p5 + p6)) + (p2 + p3 + p4 + p5)) + (p1 + p2 + p3 + p4)) + (p0 + p1 + p2 + p3)) + (256 * (256 * (256 * p7 + (p6 + p7)) + (p5 + p6 + p7)) + (p4 + p5 + p6 + p7)) = 256 * (256 * (256 * (256 * (256 * (256 * (256 * p7 + (p6 + p7)) + (p5 + p6 + p7)) + (p4 + p5 + p6 + p7)) + (p3 + p4 + p5 + p6 + p7)) + (p2 + p3 + p4 + p5 + (p6 + p7))) + (p1 + p2 + p3 + p4 + (p5 + p6 + p7))) + (p0 + p1 + p2 + p3 + p4 + p5 + p6 + p7) := by omega
theorem pop_end {p0 p1 p2 p3 p4 p5 p6 p7 : Nat} (h0 : p0 ≤ 8) (h1 : p1 ≤ 8) (h2 : p2 ≤ 8) (h3 : p3 ≤ 8) (h4 : p4 ≤ 8) (h5 : p5 ≤ 8) (h6 : p6 ≤ 8) (h7 : p7 ≤ 8) (y y1 y2 y3 : Nat)
    (hy : y = 256 * (256 * (256 * (256 * (256 * (256 * (256 * p7 + p6) + p5) + p4) + p3) + p2) + p1) + p0) (e1 : y1 = y + y / 256) (e2 : y2 = y1 + y1 / 65536) (e3 : y3 = y2 + y2 / 4294967296) :
    y3 % 128 = p0 + p1 + p2 + p3 + p4 + p5 + p6 + p7 := by
  have b0 : p0 < 256 := by clear e1 e2 e3 hy; omega
  have b01 : p0 + p1 < 256 := by clear e1 e2 e3 hy; omega
  have b12 : p1 + p2 < 256 := by clear e1 e2 e3 hy; omega
  have c0 : p0 + p1 + p2 + p3 < 256 := by clear e1 e2 e3 hy; omega
  have c1 : p1 + p2 + p3 + p4 < 256 := by clear e1 e2 e3 hy; omega
  have c2 : p2 + p3 + p4 + p5 < 256 := by clear e1 e2 e3 hy; omega
  have c3 : p3 + p4 + p5 + p6 < 256 := by clear e1 e2 e3 hy; omega
  have c4 : p0 + p1 + p2 + p3 + p4 + p5 + p6 + p7 < 128 := by clear e1 e2 e3 hy; omega
  have f1 : y1 = 256 * (256 * (256 * (256 * (256 * (256 * (256 * p7 + (p6 + p7)) + (p5 + p6)) + (p4 + p5)) + (p3 + p4)) + (p2 + p3)) + (p1 + p2)) + (p0 + p1) := by rw [e1, hy, dv1 _ _ b0]; exact pl1 ..
  have f2 : y2 = 256 * (256 * (256 * (256 * (256 * (256 * (256 * p7 + (p6 + p7)) + (p5 + p6 + p7)) + (p4 + p5 + p6 + p7)) + (p3 + p4 + p5 + p6)) + (p2 + p3 + p4 + p5)) + (p1 + p2 + p3 + p4)) + (p0 + p1 + p2 + p3) := by rw [e2, f1, dv2 _ _ _ b12 b01]; exact pl2 ..
  rw [e3, f2, dv4 _ _ _ _ _ c3 c2 c1 c0, pl3]
  exact md1 _ _ c4
end Go.Proofs.YtakaadoppijeaaaDoor
