/- The parser's methods on tokens. -/
import Derived.Test.YthbcfcbonmphfaaDoorLexGBundle
import Derived.Test.YthbcfcbonmphfaaDoorJoinSBundle
import Derived.OwnWalk
import Derived.Deep.Onto
import Derived.Deep.AppendLies
import Derived.Lib.AppendStr
import Derived.Test.YthbcfcbonmphfaaDoorTermBBundle
import Derived.Test.YthbcfcbonmphfaaDoorLexEBundle
import Derived.Lib.BufferRead
/- Walks: digits, and what is appended for a token. -/
namespace Go.Proofs.YthbcfcbonmphfaaDoor
set_option maxRecDepth 100000
open Go.RowKit

def bsC (l : List UInt8) : List Value := l.map fun c => Value.int .u8 (c.toNat : Int)
theorem bsC_len (l : List UInt8) : (bsC l).length = l.length := by simp [bsC]
theorem bsC_app (a b : List UInt8) : bsC a ++ bsC b = bsC (a ++ b) := by simp [bsC]
theorem Tryd.infoByte : (Tryd.prog.info? 5).map (fun i => (i.zero, i.size, i.bytes)) = some (some (.int .u8 0), 1, 1) := by kernel_rfl
/-- What an append leaves: the value owns more; below the call's own blocks nothing has changed. -/
def AppPost (base : Nat) (xs : List UInt8) (w : World) (e : Ending) (w' : World) : Prop :=
  ∃ v', e = .returned v' ∧ w'.ownsRow base 5 1 v' xs.length (bsC xs) ∧ Below base w w'
theorem below_own {w w' : World} {base : Nat} {e : TypeId} {size n : Nat} {v : Value} {xs : List Value} (ho : w.ownsRow base e size v n xs) (hg : w.grownBy w' v.ownBlock) (hb : base ≤ w.heap.size) : Below base w w' :=
  (Below.refl _ _).grown hg hb (fun k e => (ho.lt k e).1)
theorem dec_step (k : Nat) (n : Nat) (h : ¬ n < 10) : decF (k + 1) n = decF k (n / 10) ++ [UInt8.ofNat (48 + n % 10)] := by rw [decF, if_neg h]
theorem dec_last (k : Nat) (n : Nat) (h : n < 10) : decF (k + 1) n = [UInt8.ofNat (48 + n)] := by rw [decF, if_pos h]
theorem digit_val (m : Nat) (h : m < 10) : ((UInt8.ofNat (48 + m)).toNat : Int) = 48 + m := by
  rw [UInt8.toNat_ofNat']; omega

theorem app_one {w w1 w2 : World} {base : Nat} {v v' : Value} {xs ys : List UInt8} {c : UInt8} {o : Obj} (hb : Below base w w1) (hB : base ≤ w1.heap.size) (ho : w1.ownsRow base 5 1 v ys.length (bsC ys)) (hxs : xs = ys ++ [c])
    (ho2 : w2.ownsRow base 5 1 v' (ys.length + 1) (bsC ys ++ [.int .u8 (c.toNat : Int)])) (hg : (w1.alloc o).grownBy w2 v.ownBlock) : w2.ownsRow base 5 1 v' xs.length (bsC xs) ∧ Below base w w2 := by
  subst hxs
  refine ⟨?_, (hb.alloc hB _).grown hg (by simp; omega) (fun k e => (ho.lt k e).1)⟩
  have e : bsC ys ++ [.int .u8 (c.toNat : Int)] = bsC (ys ++ [c]) := by simp [bsC]
  rw [e] at ho2
  simpa using ho2

set_option maxHeartbeats 400000 in
theorem appendInt_low (k n base : Nat) (v : Value) (xs : List UInt8) (w : World) (hn : n < 10) (hx : xs.length ≤ 1000000) (hb : base ≤ w.heap.size) (ho : w.ownsRow base 5 1 v xs.length (bsC xs)) :
    Calls Tryd.prog 118 #[v, .int .i64 n] w (AppPost base (xs ++ decF (k + 1) n) w) := by
  obtain ⟨i0, hi, hz0, hz1, hz2⟩ := info_parts Tryd.infoByte
  have HL := Lib.hid (dec_last k n hn)
  have HO := Lib.hid ho
  have HB := Lib.hid hb
  have hnI : (n : Int) < 10 := by omega
  have hmod2 : (n : Int) % 10 = n := by omega
  have h1 : xs.length + 1 ≤ maxLen := by unfold maxLen; omega
  have HD := Lib.hid (digit_val n hn)
  clear ho hb hn
  go_enter Tryd.func118, Tryd.ntmps118
  go_wp2_with (at_builtin; refine wpList_append_own _ rfl (.tmp 11) (.tmp 16) 43 rfl base 5 i0 _ 1 1 Tryd.underlying43 hi hz0 hz1 hz2 rfl (by decide) _ xs.length (bsC xs) rfl (HO.out.alloc _) ⟨w.heap.size, 0, none⟩ 1 1 [.int .u8 (48 + (n : Int))] rfl rfl ?c1 ?c2 h1 ?c4 ?c5 ?_)
  case c1 => exact World.news_of_block (cs := #[.int .u8 (48 + (n : Int))]) (t := 5) (fr := (0, 0)) (heap_alloc_new w _)
  case c2 => simp [Value.oneCell']
  case c4 => omega
  case c5 => have := HB.out; simp; omega
  intro v' w2 ho2 hg2 _
  have R := app_one (c := UInt8.ofNat (48 + n)) (Below.refl _ _) HB.out HO.out rfl (by rw [HD.out]; exact ho2) hg2
  have HR := Lib.hid R
  clear R ho2 hg2
  go_wp2
  go_ret
  exact ⟨_, rfl, by rw [HL.out]; exact HR.out.1, HR.out.2⟩

set_option maxHeartbeats 400000 in
theorem appendInt_any (k : Nat) : ∀ (n base : Nat) (v : Value) (xs : List UInt8) (w : World), n < 10 ^ (k + 1) → n ≤ 4000000000000000000 → xs.length + k ≤ 1000000 → base ≤ w.heap.size → w.ownsRow base 5 1 v xs.length (bsC xs) →
    Calls Tryd.prog 118 #[v, .int .i64 n] w (AppPost base (xs ++ decF (k + 1) n) w) := by
  induction k with
  | zero => intro n base v xs w hn _ hx hb ho; exact appendInt_low 0 n base v xs w (by simpa using hn) (by omega) hb ho
  | succ k ih =>
    intro n base v xs w hn hnb hx hb ho
    have hnI : (n : Int) ≤ 4000000000000000000 := by omega
    by_cases h10 : n < 10
    · exact appendInt_low (k + 1) n base v xs w h10 (by omega) hb ho
    · have h10' : (10 : Int) ≤ (n : Int) := by omega
      have hpow : n / 10 < 10 ^ (k + 1) := Nat.div_lt_of_lt_mul (by rw [Nat.pow_succ] at hn; omega)
      have hI := ih (n / 10) base v xs w hpow (by omega) (by omega) hb ho
      have HL := Lib.hid (dec_step (k + 1) n h10)
      have hlen := decF_len (k + 1) (n / 10)
      obtain ⟨i0, hi, hz0, hz1, hz2⟩ := info_parts Tryd.infoByte
      have HD := Lib.hid (show ((UInt8.ofNat (48 + n % 10)).toNat : Int) = 48 + (n : Int) % 10 from by rw [digit_val (n % 10) (by omega)]; omega)
      have HI := Lib.hid hI
      have HB := Lib.hid hb
      have h1 : (xs ++ decF (k + 1) (n / 10)).length + 1 ≤ maxLen := by unfold maxLen; simp; omega
      have H1 := Lib.hid h1
      have HX := Lib.hid hx
      have HLN := Lib.hid hlen
      clear hI ih ho hb hn hpow h10 h1 hx hlen
      go_enter Tryd.func118, Tryd.ntmps118
      go_wp2_with fail
      have HI2 : Calls Tryd.prog 118 #[v, .int .i64 ((n : Int) / 10)] w (AppPost base (xs ++ decF (k + 1) (n / 10)) w) := by simpa using HI.out
      refine HI2.mono ?_
      rintro e w1 ⟨v1, rfl, ho1, hb1⟩
      have HO1 := Lib.hid ho1
      have HB1 := Lib.hid hb1
      clear ho1 hb1 HI2
      go_wp2_with (at_builtin; refine wpList_append_own _ rfl (.tmp 11) (.tmp 16) 43 rfl base 5 i0 _ 1 1 Tryd.underlying43 hi hz0 hz1 hz2 rfl (by decide) _ (xs ++ decF (k + 1) (n / 10)).length (bsC (xs ++ decF (k + 1) (n / 10))) rfl (HO1.out.alloc _) ⟨w1.heap.size, 0, none⟩ 1 1 [.int .u8 (48 + (n : Int) % 10)] rfl rfl ?c1 ?c2 H1.out ?c4 ?c5 ?_)
      case c1 => exact World.news_of_block (cs := #[.int .u8 (48 + (n : Int) % 10)]) (t := 5) (fr := (0, 0)) (heap_alloc_new w1 _)
      case c2 => simp [Value.oneCell']
      case c4 => have := HX.out; have := HLN.out; simp; omega
      case c5 => have := HB.out; have := HB1.out.size; simp; omega
      intro v' w2 ho2 hg2 _
      have R := app_one (xs := xs ++ decF (k + 1 + 1) n) (c := UInt8.ofNat (48 + n % 10)) HB1.out (by have := HB.out; have := HB1.out.size; omega) HO1.out (by rw [HL.out, List.append_assoc]) (by rw [HD.out]; simpa using ho2) hg2
      have HR := Lib.hid R
      clear R ho2 hg2
      go_wp2
      go_ret
      exact ⟨_, rfl, HR.out.1, HR.out.2⟩

/-- What a list of tokens may hold here: short texts. -/
def tkTextI (k : Int) (t : List UInt8) (n : Int) : List UInt8 := if k = 2 then dec n.toNat else t
theorem strCells_eq (s : ByteArray) : Lib.strCells s = bsC s.data.toList := rfl
set_option maxHeartbeats 400000 in
theorem appendToken_any (base : Nat) (v : Value) (xs : List UInt8) (k : Int) (s : ByteArray) (n a b : Int) (w : World) (hn0 : 0 ≤ n) (hn : n ≤ 1099511627776) (hx : xs.length ≤ 900000) (hs : s.size ≤ 1000) (hb : base ≤ w.heap.size) (ho : w.ownsRow base 5 1 v xs.length (bsC xs)) :
    Calls Tryd.prog 69 #[v, .agg #[.int .i64 k, .string s, .int .i64 n, .int .i64 a, .int .i64 b]] w (AppPost base (xs ++ tkTextI k s.data.toList n) w) := by
  obtain ⟨i0, hi, hz0, hz1, hz2⟩ := info_parts Tryd.infoByte
  have HO := Lib.hid (ho.alloc (.cells #[.int .i64 k, .string s, .int .i64 n, .int .i64 a, .int .i64 b] 25))
  have HB := Lib.hid hb
  have HX := Lib.hid hx
  have HS := Lib.hid hs
  clear ho hb hx hs
  by_cases hk : k = 2
  · subst hk
    obtain ⟨m, rfl⟩ := Int.eq_ofNat_of_zero_le hn0
    have e : tkTextI 2 s.data.toList (m : Int) = decF 13 m := by unfold tkTextI dec; rw [if_pos rfl, Int.toNat_natCast]
    rw [e]
    have hm : m < 10 ^ 13 := by have : m ≤ 1099511627776 := by omega
                                exact Nat.lt_of_le_of_lt this (by decide)
    have HM := Lib.hid hm
    have HM2 := Lib.hid (show m ≤ 4000000000000000000 by omega)
    clear e hm hn hn0
    go_enter Tryd.func69, Tryd.ntmps69
    go_wp2_with fail
    refine (appendInt_any 12 m base v xs _ HM.out HM2.out (by have := HX.out; omega) (by have := HB.out; simp; omega) HO.out).mono ?_
    rintro e w1 ⟨v1, rfl, ho1, hb1⟩
    have HR := Lib.hid (And.intro ho1 (((Below.refl _ _).alloc HB.out _).trans hb1))
    clear ho1 hb1
    go_wp2
    go_ret
    exact ⟨_, rfl, HR.out.1, HR.out.2⟩
  · have hkb : (k == 2) = false := beq_eq_false_iff_ne.2 hk
    have e : tkTextI k s.data.toList n = s.data.toList := by unfold tkTextI; rw [if_neg hk]
    rw [e]
    have h1 : xs.length + s.size ≤ maxLen := by have := HX.out; have := HS.out; unfold maxLen; omega
    have h2 : xs.length + s.size ≤ 140737488355328 := by have := HX.out; have := HS.out; omega
    clear e hk
    go_enter Tryd.func69, Tryd.ntmps69
    go_wp2_with (at_builtin; refine Lib.wpList_append_own_string _ rfl (.tmp 12) (.tmp 14) 43 9 rfl base 5 i0 Tryd.underlying43 Tryd.underlying9 hi hz0 hz1 hz2 v xs.length (bsC xs) rfl HO.out s rfl h1 h2 ?c5 ?_)
    case c5 => have := HB.out; simp; omega
    intro v' w2 ho2 hg2 _
    have R : w2.ownsRow base 5 1 v' (xs ++ s.data.toList).length (bsC (xs ++ s.data.toList)) ∧ Below base w w2 := by
      refine ⟨?_, ((Below.refl _ _).alloc HB.out _).grown hg2 (by have := HB.out; simp; omega) (fun k e => (HO.out.lt k e).1)⟩
      rw [strCells_eq, bsC_app] at ho2
      rw [List.length_append, size_toList]
      exact ho2
    have HR := Lib.hid R
    clear R ho2 hg2
    go_wp2
    go_ret
    exact ⟨_, rfl, HR.out.1, HR.out.2⟩

theorem str_app (a b : List UInt8) : (⟨a.toArray⟩ : ByteArray) ++ ⟨b.toArray⟩ = ⟨(a ++ b).toArray⟩ := by
  have h : ((⟨a.toArray⟩ : ByteArray) ++ ⟨b.toArray⟩).data = (⟨(a ++ b).toArray⟩ : ByteArray).data := by simp
  exact congrArg ByteArray.mk h
set_option maxHeartbeats 400000 in
theorem decimal_low (k n : Nat) (w : World) (hn : n < 10) : Calls Tryd.prog 70 #[.int .i64 n] w fun e w' => e = .returned (.string ⟨(decF (k + 1) n).toArray⟩) ∧ Below w.heap.size w w' := by
  have HL := Lib.hid (dec_last k n hn)
  obtain ⟨c, hc⟩ : ∃ c, c = UInt8.ofNat (48 + n) := ⟨_, rfl⟩
  have HD := Lib.hid (show (c.toNat : Int) = 48 + n from by rw [hc]; exact digit_val n hn)
  have hnI : (n : Int) < 10 := by omega
  have hB : Lib.Bytes (w.alloc (.cells #[.int .u8 (48 + (n : Int))] 5)) w.heap.size 0 ⟨#[c]⟩ := by
    intro i hi
    have hi0 : i = 0 := by have h1 : (ByteArray.mk #[c]).size = 1 := rfl
                           omega
    subst hi0
    have := cell_of_row (w.alloc (.cells #[.int .u8 (48 + (n : Int))] 5)) w.heap.size 0 _ _ (0, 0) (heap_alloc_new w _)
    rw [Nat.zero_add, this, ← HD.out]
    rfl
  have hcv : (convert 43 9 (.slice (some ⟨w.heap.size, 0, none⟩) 1 1)).run Tryd.prog (w.alloc (.cells #[.int .u8 (48 + (n : Int))] 5)) = .ok (.string ⟨#[c]⟩) (w.alloc (.cells #[.int .u8 (48 + (n : Int))] 5)) :=
    Lib.run_convert_whole (P := Tryd.prog) _ 43 5 9 Tryd.underlying43 Tryd.underlying5 Tryd.underlying9 w.heap.size 0 ⟨#[c]⟩ hB 1
  have HC := Lib.hid hc
  clear hn hB hc
  go_enter Tryd.func70, Tryd.ntmps70
  go_wp2
  go_ret
  exact ⟨by rw [HL.out, ← HC.out]; rfl, (Below.refl _ _).alloc (Nat.le_refl _) _⟩
set_option maxHeartbeats 400000 in
theorem decimal_any (k : Nat) : ∀ (n : Nat) (w : World), k ≤ 1000 → n < 10 ^ (k + 1) → n ≤ 4000000000000000000 → Calls Tryd.prog 70 #[.int .i64 n] w fun e w' => e = .returned (.string ⟨(decF (k + 1) n).toArray⟩) ∧ Below w.heap.size w w' := by
  induction k with
  | zero => intro n w _ hn _; exact decimal_low 0 n w (by simpa using hn)
  | succ k ih =>
    intro n w hk hn hnb
    have hnI : (n : Int) ≤ 4000000000000000000 := by omega
    by_cases h10 : n < 10
    · exact decimal_low (k + 1) n w h10
    · have h10' : (10 : Int) ≤ (n : Int) := by omega
      have hpow : n / 10 < 10 ^ (k + 1) := Nat.div_lt_of_lt_mul (by rw [Nat.pow_succ] at hn; omega)
      have HI := Lib.hid (fun W => ih (n / 10) W (by omega) hpow (by omega))
      have hl1 : (decF (k + 1) (n / 10)).length ≤ 1001 := Nat.le_trans (decF_len _ _) (by omega)
      have hl2 : (decF 1 (n % 10)).length ≤ 1 := decF_len _ _
      have HI2 := Lib.hid (fun W => decimal_low 0 (n % 10) W (by omega))
      have HL := Lib.hid (dec_step (k + 1) n h10)
      have HE := Lib.hid (dec_last 0 (n % 10) (by omega))
      clear ih hn hpow h10
      go_enter Tryd.func70, Tryd.ntmps70
      go_wp2_with fail
      have c1 : Calls Tryd.prog 70 #[.int .i64 ((n : Int) / 10)] w fun e w' => e = .returned (.string ⟨(decF (k + 1) (n / 10)).toArray⟩) ∧ Below w.heap.size w w' := by simpa using HI.out w
      refine c1.mono ?_
      rintro e w1 ⟨rfl, hb1⟩
      have HB1 := Lib.hid hb1
      clear hb1 c1
      go_wp2_with fail
      have c2 : Calls Tryd.prog 70 #[.int .i64 ((n : Int) % 10)] w1 fun e w' => e = .returned (.string ⟨(decF 1 (n % 10)).toArray⟩) ∧ Below w1.heap.size w1 w' := by simpa using HI2.out w1
      refine c2.mono ?_
      rintro e w2 ⟨rfl, hb2⟩
      have HB2 := Lib.hid (HB1.out.trans (hb2.mono HB1.out.size))
      clear hb2 c2
      go_wp2
      go_ret
      exact ⟨by rw [HL.out, ← HE.out, ← str_app]; rfl, HB2.out⟩
end Go.Proofs.YthbcfcbonmphfaaDoor
/- Walks: Join, of the package and of its reference. -/
namespace Go.Proofs.YthbcfcbonmphfaaDoor
set_option maxRecDepth 100000
open Go.RowKit

/-- A slice of tokens in memory: nil, or at an address. -/
def SlT (w : World) (A : Option Addr) (L : List Tk) : Prop :=
  0 < L.length → ∃ b off, A = some ⟨b, off, none⟩ ∧ b < w.heap.size ∧ ∀ (i : Nat) (t : Tk), L[i]? = some t → w.cell? ⟨b, off + i * 5, none⟩ = some (.int .i64 t.k) ∧ w.cell? ⟨b, off + i * 5 + 1, none⟩ = some (.string ⟨t.t.toArray⟩) ∧
    w.cell? ⟨b, off + i * 5 + 2, none⟩ = some (.int .i64 t.n) ∧ w.cell? ⟨b, off + i * 5 + 3, none⟩ = some (.int .i64 t.a) ∧ w.cell? ⟨b, off + i * 5 + 4, none⟩ = some (.int .i64 t.b)
theorem SlT.below {w w' : World} {A : Option Addr} {L : List Tk} (h : SlT w A L) (hb : Below w.heap.size w w') : SlT w' A L := fun hl => by
  obtain ⟨b, off, rfl, hlt, hc⟩ := h hl
  have hs := hb.size
  exact ⟨b, off, rfl, by omega, fun i t ht => by
    obtain ⟨h0, h1, h2, h3, h4⟩ := hc i t ht
    exact ⟨(hb.cell (p := ⟨b, _, none⟩) hlt).trans h0, (hb.cell (p := ⟨b, _, none⟩) hlt).trans h1, (hb.cell (p := ⟨b, _, none⟩) hlt).trans h2, (hb.cell (p := ⟨b, _, none⟩) hlt).trans h3, (hb.cell (p := ⟨b, _, none⟩) hlt).trans h4⟩⟩
/-- The cells of one token, in a later world. -/
theorem cells5 {w w' : World} {b o : Nat} {t : Tk} (hb : Below w.heap.size w w') (hlt : b < w.heap.size) (h : w.cell? ⟨b, o, none⟩ = some (.int .i64 t.k) ∧ w.cell? ⟨b, o + 1, none⟩ = some (.string ⟨t.t.toArray⟩) ∧ w.cell? ⟨b, o + 2, none⟩ = some (.int .i64 t.n) ∧ w.cell? ⟨b, o + 3, none⟩ = some (.int .i64 t.a) ∧ w.cell? ⟨b, o + 4, none⟩ = some (.int .i64 t.b)) :
    w'.cell? ⟨b, o, none⟩ = some (.int .i64 t.k) ∧ w'.cell? ⟨b, o + 1, none⟩ = some (.string ⟨t.t.toArray⟩) ∧ w'.cell? ⟨b, o + 2, none⟩ = some (.int .i64 t.n) ∧ w'.cell? ⟨b, o + 3, none⟩ = some (.int .i64 t.a) ∧ w'.cell? ⟨b, o + 4, none⟩ = some (.int .i64 t.b) := by
  obtain ⟨h0, h1, h2, h3, h4⟩ := h
  exact ⟨(hb.cell (p := ⟨b, _, none⟩) hlt).trans h0, (hb.cell (p := ⟨b, _, none⟩) hlt).trans h1, (hb.cell (p := ⟨b, _, none⟩) hlt).trans h2, (hb.cell (p := ⟨b, _, none⟩) hlt).trans h3, (hb.cell (p := ⟨b, _, none⟩) hlt).trans h4⟩
/-- Short texts. -/
def Small (L : List Tk) : Prop := L.length ≤ 500 ∧ ∀ (i : Nat) (t : Tk), L[i]? = some t → t.t.length ≤ 1000

/-- What Join hands back. -/
def joinV (L : List Tk) : Value := .tuple #[.string ⟨(jres L).1.toArray⟩, .int .i64 (jres L).2]
theorem valid_tk (t : Tk) (w : World) (hs : t.t.length ≤ 1000) (hp : Pairs w) (v : Bool) (hv : validT t.k t.t t.n = v) :
    Calls Tryd.prog 18 #[.agg #[.int .i64 t.k, .string ⟨t.t.toArray⟩, .int .i64 t.n, .int .i64 t.a, .int .i64 t.b]] w fun e w' => e = .returned (.bool v) ∧ Below w.heap.size w w' := by
  have := valid_any t.k ⟨t.t.toArray⟩ t.n t.a t.b w (by unfold maxLen; show t.t.toArray.size ≤ _; simp; omega) hp
  have e : (ByteArray.mk t.t.toArray).data.toList = t.t := by simp
  rw [e, hv] at this
  exact this

theorem tkOk_no (L : List Tk) (k : Nat) (t : Tk) (h : validT t.k t.t t.n = false) : tkOk L k t = false := by unfold tkOk; rw [h]; rfl
theorem tkOk_mid (L : List Tk) (k : Nat) (t : Tk) (h5 : t.k = 5) (hk : ((k : Int) != (L.length : Int) - 1) = true) : tkOk L k t = false := by
  unfold tkOk
  have e : decide (k + 1 ≠ L.length) = true := by simp at hk ⊢; omega
  rw [e, h5]; simp
theorem tkOk_last (L : List Tk) (k : Nat) (t : Tk) (hv : validT t.k t.t t.n = true) (hk : ((k : Int) != (L.length : Int) - 1) = false) : tkOk L k t = true := by
  unfold tkOk
  have e : decide (k + 1 ≠ L.length) = false := by simp at hk ⊢; omega
  rw [e, hv]; simp
theorem tkOk_plain (L : List Tk) (k : Nat) (t : Tk) (hv : validT t.k t.t t.n = true) (h5 : ¬ t.k = 5) : tkOk L k t = true := by
  unfold tkOk
  have e : decide (t.k = 5) = false := by simpa using h5
  rw [e, hv]; rfl
theorem valid_n (k : Int) (s : List UInt8) (n : Int) (h : validT k s n = true) : 0 ≤ n ∧ n ≤ 1099511627776 := by
  unfold validT at h
  repeat' split at h
  all_goals simp at h
  all_goals omega
theorem joinV_bad (L : List Tk) (i : Nat) (t : Tk) (h : L[i]? = some t) (hb : tkOk L i t = false) : joinV L = .tuple #[.string ⟨#[]⟩, .int .i64 1] := by
  unfold joinV; rw [jres_bad L i t h hb]
theorem joinV_none (L : List Tk) (h : jval L = true) (hg : jgo L true [] = none) : joinV L = .tuple #[.string ⟨#[]⟩, .int .i64 4] := by
  unfold joinV jres; rw [if_pos h, hg]
theorem joinV_some (L : List Tk) (x : List UInt8) (h : jval L = true) (hg : jgo L true [] = some x) : joinV L = .tuple #[.string ⟨x.toArray⟩, .int .i64 0] := by
  unfold joinV jres; rw [if_pos h, hg]

/-- The bytes that the call owns, as a string. -/
theorem conv_own {w : World} {base : Nat} {v : Value} {xs : List UInt8} (ho : w.ownsRow base 5 1 v xs.length (bsC xs)) : (convert 43 9 v).run Tryd.prog w = .ok (.string ⟨xs.toArray⟩) w := by
  rcases ho.2 with ⟨rfl, h0⟩ | ⟨g, cap, cur, rfl, _⟩
  · have e : xs = [] := List.eq_nil_of_length_eq_zero h0
    subst e
    exact Lib.run_convert_nil_bytes w 43 9 5 0 Tryd.underlying43 Tryd.underlying5 Tryd.underlying9
  · have hs : (ByteArray.mk xs.toArray).size = xs.length := by show xs.toArray.size = _; simp
    have hB : Lib.Bytes w g 0 ⟨xs.toArray⟩ := by
      intro i hi
      rw [hs] at hi
      rw [Nat.zero_add, ho.cellAt i (by omega)]
      unfold bsC
      rw [List.getElem?_map, List.getElem?_eq_getElem hi]
      rfl
    have h := Lib.run_convert_whole (P := Tryd.prog) w 43 5 9 Tryd.underlying43 Tryd.underlying5 Tryd.underlying9 g 0 ⟨xs.toArray⟩ hB cap
    rw [hs] at h
    exact h
theorem jgo_end (L : List Tk) (k : Nat) (t : Tk) (f : Bool) (acc : List UInt8) (h : L[k]? = some t) (h5 : t.k = 5) : jgo (L.drop k) f acc = some acc := by
  rw [drop_of L k t h, jgo, if_pos h5]
theorem jgo_full (L : List Tk) (k : Nat) (t : Tk) (f : Bool) (acc : List UInt8) (h : L[k]? = some t) (h5 : ¬ t.k = 5) (hf : 65536 < ((acc ++ (if f then [] else [32])) ++ tkText t).length) : jgo (L.drop k) f acc = none := by
  rw [drop_of L k t h, jgo, if_neg h5, if_pos hf]
theorem jgo_step (L : List Tk) (k : Nat) (t : Tk) (f : Bool) (acc : List UInt8) (h : L[k]? = some t) (h5 : ¬ t.k = 5) (hf : ((acc ++ (if f then [] else [32])) ++ tkText t).length ≤ 65536) : jgo (L.drop k) f acc = jgo (L.drop (k + 1)) false ((acc ++ (if f then [] else [32])) ++ tkText t) := by
  rw [drop_of L k t h, jgo, if_neg h5, if_neg (by omega)]
theorem jgo_done (L : List Tk) (k : Nat) (f : Bool) (acc : List UInt8) (h : k = L.length) : jgo (L.drop k) f acc = some acc := by
  rw [h, List.drop_length, jgo]

theorem appTok (base : Nat) (v : Value) (xs : List UInt8) (t : Tk) (w : World) (hv : validT t.k t.t t.n = true) (hx : xs.length ≤ 900000) (hs : t.t.length ≤ 1000) (hb : base ≤ w.heap.size) (ho : w.ownsRow base 5 1 v xs.length (bsC xs)) :
    Calls Tryd.prog 69 #[v, .agg #[.int .i64 t.k, .string ⟨t.t.toArray⟩, .int .i64 t.n, .int .i64 t.a, .int .i64 t.b]] w (AppPost base (xs ++ tkText t) w) := by
  have hn := valid_n _ _ _ hv
  have := appendToken_any base v xs t.k ⟨t.t.toArray⟩ t.n t.a t.b w hn.1 hn.2 hx (by show t.t.toArray.size ≤ _; simpa using hs) hb ho
  have e : (ByteArray.mk t.t.toArray).data.toList = t.t := by simp
  rw [e] at this
  exact this

theorem own_slice {w : World} {base : Nat} {e : TypeId} {size n : Nat} {v : Value} {xs : List Value} (h : w.ownsRow base e size v n xs) : ∃ A cap, v = .slice A n cap := by
  rcases h.2 with ⟨rfl, h0⟩ | ⟨g, cap, cur, rfl, _⟩
  · exact ⟨none, 0, by rw [h0]⟩
  · exact ⟨_, cap, rfl⟩
theorem sep0 (k : Nat) (acc : List UInt8) (h : k = 0) : acc ++ (if decide (k = 0) = true then [] else [32]) = acc := by rw [h]; simp
theorem sep1 (k : Nat) (acc : List UInt8) (h : ¬ k = 0) : acc ++ (if decide (k = 0) = true then [] else [32]) = acc ++ [32] := by rw [if_neg (by simpa using h)]
theorem dec_succ (k : Nat) : decide (k + 1 = 0) = false := by simp
def JInv (L : List Tk) (w : World) (k : Nat) (v : Value) (wr : World) (acc : List UInt8) : Prop :=
  wr.ownsRow w.heap.size 5 1 v acc.length (bsC acc) ∧ Below w.heap.size w wr ∧ jgo L true [] = jgo (L.drop k) (decide (k = 0)) acc ∧ acc.length ≤ 65536

set_option maxRecDepth 100000 in
set_option maxHeartbeats 1000000 in
theorem join_any (A : Option Addr) (cap : Nat) (L : List Tk) (w : World) (hp : Pairs w) (hsm : Small L) (hl : SlT w A L) :
    Calls Tryd.prog 24 #[.slice A L.length cap] w fun e w' => e = .returned (joinV L) ∧ Below w.heap.size w w' := by
  have HP := Lib.hid hp
  have HS := Lib.hid hsm
  have HL := Lib.hid hl
  have hlen := hsm.1
  clear hp hsm hl
  go_enter Tryd.func24, Tryd.ntmps24
  go_wp2_with fail
  go_loopw [9] (fun i wr => ∃ k : Nat, k ≤ L.length ∧ i = .int .i64 k ∧ jvalTo L k ∧ Below w.heap.size w wr) (fun i _ => L.length - (intOf i).toNat)
  case atStart => exact ⟨0, by omega, rfl, fun i t hi => absurd hi (by omega), Below.refl _ _⟩
  case round =>
    obtain ⟨k, hk, rfl, hjv, hbw⟩ := hrel
    have HJ := Lib.hid hjv
    have HB := Lib.hid hbw
    clear hjv hbw
    by_cases hlt : k < L.length
    · obtain ⟨t, ht⟩ : ∃ t, L[k]? = some t := ⟨L[k], List.getElem?_eq_getElem hlt⟩
      obtain ⟨b, off, hA, hblt, hc⟩ := (HL.out.below HB.out) (by omega)
      subst hA
      obtain ⟨h0, h1, h2, h3, h4⟩ := hc k t ht
      have HT := Lib.hid ht
      have hts := HS.out.2 k t ht
      have HTS := Lib.hid hts
      have HPr := Lib.hid (HP.out.below HB.out HP.out.lt)
      clear hc ht hts
      cases hv : validT t.k t.t t.n
      · go_wp2_with (go_at_call 18; refine (valid_tk t _ HTS.out HPr.out _ hv).mono ?_; rintro e w1 ⟨rfl, hb1⟩)
        go_ret2
        exact ⟨(joinV_bad L k t HT.out (tkOk_no L k t hv)).symm ▸ rfl, HB.out.trans (hb1.mono HB.out.size)⟩
      · go_wp2_with (go_at_call 18; refine (valid_tk t _ HTS.out HPr.out _ hv).mono ?_; rintro e w1 ⟨rfl, hb1⟩; have h0' : w1.cell? ⟨b, off + k * 5, none⟩ = some (.int .i64 t.k) := (hb1.cell (p := ⟨b, off + k * 5, none⟩) hblt).trans h0)
        all_goals
          have HB1 := Lib.hid (HB.out.trans (hb1.mono HB.out.size))
          clear hb1
        · have a1 : t.k = 5 := by assumption
          have a2 : ((k : Int) != (L.length : Int) - 1) = true := by assumption
          go_ret2
          exact ⟨(joinV_bad L k t HT.out (tkOk_mid L k t a1 a2)).symm ▸ rfl, HB1.out⟩
        · have a2 : ((k : Int) != (L.length : Int) - 1) = false := by assumption
          have HN := Lib.hid (jvalTo_snoc L k t HJ.out HT.out (tkOk_last L k t hv a2))
          clear a2
          go_roundw
          case rel => exact ⟨k + 1, by omega, by go_num, HN.out, HB1.out⟩
          case measure => simp [intOf]; omega
        · have a1 : ¬ t.k = 5 := by assumption
          have HN := Lib.hid (jvalTo_snoc L k t HJ.out HT.out (tkOk_plain L k t hv a1))
          clear a1
          go_roundw
          case rel => exact ⟨k + 1, by omega, by go_num, HN.out, HB1.out⟩
          case measure => simp [intOf]; omega
    · have hkL : k = L.length := by omega
      have HV := Lib.hid (jval_of L (hkL ▸ HJ.out))
      have HJ2 := Lib.hid (hkL ▸ HJ.out)
      clear HJ hkL
      go_wp2_with fail
      obtain ⟨w2, hw2⟩ : ∃ w2 : World, w2 = wr := ⟨_, rfl⟩
      subst hw2
      go_loopw [5, 36] (fun v i wr => ∃ (k : Nat) (acc : List UInt8), k ≤ L.length ∧ i = .int .i64 k ∧ JInv L w k v wr acc) (fun _ i _ => L.length - (intOf i).toNat)
      case atStart => exact ⟨0, [], by omega, rfl, World.ownsRow_nil _ _ _ _, HB.out, rfl, by simp⟩
      case round =>
        obtain ⟨k, acc, hk, rfl, ho, hb, hg, hacc⟩ := hrel
        have HO := Lib.hid ho
        have HB2 := Lib.hid hb
        have HG := Lib.hid hg
        clear ho hb hg
        by_cases hlt : k < L.length
        · obtain ⟨t, ht⟩ : ∃ t, L[k]? = some t := ⟨L[k], List.getElem?_eq_getElem hlt⟩
          obtain ⟨b, off, hA, hblt, hc⟩ := HL.out (by omega)
          subst hA
          have HC := Lib.hid (hc k t ht)
          obtain ⟨h0, h1, h2, h3, h4⟩ := cells5 HB2.out hblt HC.out
          have HT := Lib.hid ht
          have HTS := Lib.hid (HS.out.2 k t ht)
          have hok := HJ2.out k t hlt ht
          have hval := hok
          unfold tkOk at hval
          rw [Bool.and_eq_true] at hval
          have HVL := Lib.hid hval.1
          clear hc ht hok hval
          obtain ⟨i0, hi, hz0, hz1, hz2⟩ := info_parts Tryd.infoByte
          by_cases hk5 : t.k = 5
          · have hcv := conv_own HO.out
            have HE := Lib.hid (joinV_some L acc HV.out (by rw [HG.out]; exact jgo_end L k t _ acc HT.out hk5))
            have hk5b : (t.k == 5) = true := beq_iff_eq.2 hk5
            have HK5 := Lib.hid hk5
            clear hk5
            go_wp2
            go_ret2
            exact ⟨HE.out.symm ▸ rfl, HB2.out⟩
          · have hk5b : (t.k == 5) = false := beq_eq_false_iff_ne.2 hk5
            have HK5 := Lib.hid hk5
            clear hk5
            by_cases hk0 : k = 0
            · have hkI : ¬ (0 : Int) < (k : Int) := by omega
              have HK0 := Lib.hid hk0
              clear hk0
              go_wp2_with fail
              refine (appTok w.heap.size _ acc t _ HVL.out (by omega) HTS.out HB2.out.size HO.out).mono ?_
              rintro e w3 ⟨v3, rfl, ho3, hb3⟩
              obtain ⟨A3, cap3, rfl⟩ := own_slice ho3
              have HR := Lib.hid (And.intro ho3 (HB2.out.trans hb3))
              clear ho3 hb3
              by_cases hfull : 65536 < (acc ++ tkText t).length
              · have hfI : (65536 : Int) < ((acc ++ tkText t).length : Int) := by omega
                simp only [List.length_append, Int.natCast_add] at hfI
                have HE := Lib.hid (joinV_none L HV.out (by rw [HG.out]; exact jgo_full L k t _ acc HT.out HK5.out (by rw [sep0 k acc HK0.out]; exact hfull)))
                go_wp2
                go_ret2
                exact ⟨HE.out.symm ▸ rfl, HR.out.2⟩
              · have hfI : ((acc ++ tkText t).length : Int) ≤ 65536 := by omega
                simp only [List.length_append, Int.natCast_add] at hfI
                have HN : Hid (JInv L w (k + 1) (.slice A3 (acc ++ tkText t).length cap3) w3 (acc ++ tkText t)) := ⟨HR.out.1, HR.out.2, by rw [HG.out, dec_succ, jgo_step L k t _ acc HT.out HK5.out (by rw [sep0 k acc HK0.out]; omega), sep0 k acc HK0.out], by omega⟩
                simp only [List.length_append] at HN
                go_wp2
                go_roundw
                case rel => exact ⟨k + 1, _, by omega, by go_num, HN.out⟩
                case measure => simp [intOf]; omega
            · have hkI : (0 : Int) < (k : Int) := by omega
              have HK0 := Lib.hid hk0
              clear hk0
              have h1m : acc.length + 1 ≤ maxLen := by unfold maxLen; omega
              have hwr := HB2.out.size
              go_wp2_with (at_builtin; refine wpList_append_own _ rfl (.tmp 47) (.tmp 48) 43 rfl w.heap.size 5 i0 _ 1 1 Tryd.underlying43 hi hz0 hz1 hz2 rfl (by decide) _ acc.length (bsC acc) rfl (HO.out.alloc _) _ 1 1 [.int .u8 32] rfl rfl ?c1 ?c2 h1m ?c4 ?c5 ?_)
              case c1 => exact World.news_of_block (cs := #[.int .u8 32]) (t := 5) (fr := (0, 0)) (heap_alloc_new _ _)
              case c2 => simp [Value.oneCell']
              case c4 => omega
              case c5 => simp; omega
              intro vs ws hos hgs _
              have R := app_one (xs := acc ++ [32]) (c := 32) (Below.refl _ _) hwr HO.out rfl hos hgs
              have HOS := Lib.hid R.1
              have HBS := Lib.hid (HB2.out.trans R.2)
              clear R hos hgs h0 h1 h2 h3 h4
              obtain ⟨e0, e1, e2, e3, e4⟩ := cells5 HBS.out hblt HC.out
              go_wp2_with fail
              obtain ⟨N, hN⟩ : ∃ N, N = ((acc ++ [32]) ++ tkText t).length := ⟨_, rfl⟩
              have HN0 := Lib.hid hN
              refine (appTok w.heap.size _ (acc ++ [32]) t _ HVL.out (by simp; omega) HTS.out HBS.out.size HOS.out).mono ?_
              rintro e w3 ⟨v3, rfl, ho3, hb3⟩
              obtain ⟨A3, cap3, hv3⟩ := own_slice ho3
              rw [← hN] at hv3
              subst hv3
              have HR := Lib.hid (And.intro ho3 (HBS.out.trans hb3))
              clear ho3 hb3 hN
              by_cases hfull : 65536 < N
              · have hfI : (65536 : Int) < (N : Int) := by omega
                have HE := Lib.hid (joinV_none L HV.out (by rw [HG.out]; exact jgo_full L k t _ acc HT.out HK5.out (by rw [sep1 k acc HK0.out, ← HN0.out]; exact hfull)))
                clear hfull
                go_wp2
                go_ret2
                exact ⟨HE.out.symm ▸ rfl, HR.out.2⟩
              · have hfI : (N : Int) ≤ 65536 := by omega
                have HN : Hid (JInv L w (k + 1) (.slice A3 N cap3) w3 ((acc ++ [32]) ++ tkText t)) := ⟨HR.out.1, HR.out.2, by rw [HG.out, dec_succ, jgo_step L k t _ acc HT.out HK5.out (by rw [sep1 k acc HK0.out, ← HN0.out]; omega), sep1 k acc HK0.out], by rw [← HN0.out]; omega⟩
                clear hfull
                go_wp2
                go_roundw
                case rel => exact ⟨k + 1, _, by omega, by go_num, HN.out⟩
                case measure => simp [intOf]; omega
        · have hcv := conv_own HO.out
          have HE := Lib.hid (joinV_some L acc HV.out (by rw [HG.out]; exact jgo_done L k _ acc (by omega)))
          go_wp2
          go_ret2
          exact ⟨HE.out.symm ▸ rfl, HB2.out⟩
end Go.Proofs.YthbcfcbonmphfaaDoor
namespace Go.Proofs.YthbcfcbonmphfaaDoor
open Go.RowKit Go.Shelf
set_option maxRecDepth 100000

def TkAt (w : World) (b off : Nat) (l : List Tk) : Prop :=
  ∀ (i : Nat) (t : Tk), l[i]? = some t → w.cell? ⟨b, off + i * 5, none⟩ = some (.int .i64 t.k) ∧ w.cell? ⟨b, off + i * 5 + 1, none⟩ = some (.string ⟨t.t.toArray⟩) ∧
    w.cell? ⟨b, off + i * 5 + 2, none⟩ = some (.int .i64 t.n) ∧ w.cell? ⟨b, off + i * 5 + 3, none⟩ = some (.int .i64 t.a) ∧ w.cell? ⟨b, off + i * 5 + 4, none⟩ = some (.int .i64 t.b)
/-- The parser in block P reads l. -/
def PB (w : World) (P : Nat) (l : List Tk) : Prop :=
  ∃ b off c, w.heap[P]? = some (.cells #[.slice (some ⟨b, off, none⟩) l.length c] 127 (0, 0)) ∧ l.length ≤ c ∧ c ≤ maxLen ∧ b < P ∧ TkAt w b off l
theorem PB.lt {w : World} {P : Nat} {l : List Tk} (h : PB w P l) : P < w.heap.size := by
  obtain ⟨b, off, c, h1, _⟩ := h
  exact (Array.getElem?_eq_some_iff.1 h1).1
theorem PB.below {w w' : World} {P : Nat} {l : List Tk} (h : PB w P l) (hb : Below w.heap.size w w') : PB w' P l := by
  have hP := h.lt
  obtain ⟨b, off, c, h1, h2, h3, h4, h6⟩ := h
  have h5 : b < w.heap.size := by omega
  exact ⟨b, off, c, cells_below h1 hb, h2, h3, h4, fun i t ht => by
    obtain ⟨c0, c1, c2, c3, c4⟩ := h6 i t ht
    exact ⟨(hb.cell (p := ⟨b, _, none⟩) h5).trans c0, (hb.cell (p := ⟨b, _, none⟩) h5).trans c1, (hb.cell (p := ⟨b, _, none⟩) h5).trans c2, (hb.cell (p := ⟨b, _, none⟩) h5).trans c3, (hb.cell (p := ⟨b, _, none⟩) h5).trans c4⟩⟩
/-- One token is read. -/
theorem PB.next {w : World} {P b off c : Nat} {t : Tk} {r : List Tk} (h1 : w.heap[P]? = some (.cells #[.slice (some ⟨b, off, none⟩) (t :: r).length c] 127 (0, 0))) (h2 : (t :: r).length ≤ c) (h3 : c ≤ maxLen) (h4 : b < P) (h6 : TkAt w b off (t :: r)) :
    PB (w.setCell ⟨P, 0, none⟩ (.slice (some ⟨b, off + 5, none⟩) r.length (c - 1))) P r ∧ w.grownBy (w.setCell ⟨P, 0, none⟩ (.slice (some ⟨b, off + 5, none⟩) r.length (c - 1))) (some P) := by
  refine ⟨⟨b, off + 5, c - 1, heap_setCell_same w P 0 _ _ _ h1, by simp at h2; omega, by omega, h4, fun i u hu => ?_⟩, grownBy_setCell' w P _⟩
  obtain ⟨c0, c1, c2, c3, c4⟩ := h6 (i + 1) u (by simpa using hu)
  have hk : ∀ o, (w.setCell ⟨P, 0, none⟩ (.slice (some ⟨b, off + 5, none⟩) r.length (c - 1))).cell? ⟨b, o, none⟩ = w.cell? ⟨b, o, none⟩ := fun o => World.cell?_of_block (Below.heap_setCell _ _ _ _ (show b ≠ P by omega))
  have e : off + 5 + i * 5 = off + (i + 1) * 5 := by omega
  rw [e]
  exact ⟨(hk _).trans c0, (hk _).trans c1, (hk _).trans c2, (hk _).trans c3, (hk _).trans c4⟩

set_option maxHeartbeats 1000000 in
theorem text_no (P : Nat) (t : Tk) (r : List Tk) (k : Int) (s : ByteArray) (w : World) (h : PB w P (t :: r)) (hn : t.k ≠ k ∨ t.t ≠ s.toList) :
    Calls Tryd.prog 145 #[.pointer (some ⟨P, 0, none⟩), .int .i64 k, .string s] w fun e w' => e = .returned (.bool false) ∧ w' = w := by
  obtain ⟨b, off, c, h1, h2, h3, h4, h6⟩ := h
  obtain ⟨x0, _⟩ := blk1 h1
  obtain ⟨c0, c1, c2, c3, c4⟩ := h6 0 t rfl
  simp only [Nat.zero_mul, Nat.add_zero, List.length_cons] at c0 c1 c2 c3 c4 x0
  clear h1 h2 h3 h4 h6
  by_cases hk : t.k = k
  · have hs : (t.t == s.toList) = false := beq_eq_false_iff_ne.2 (by rcases hn with h | h; exact absurd hk h; exact h)
    have hb : (t.k == k) = true := by rw [hk]; exact beq_self_eq_true _
    have hb2 : (t.k != k) = false := by rw [hk]; exact bne_self_eq_false _
    clear hn hk
    go_enter Tryd.func145, Tryd.ntmps145
    go_wp2_with fail
    go_ret
    exact ⟨rfl, rfl⟩
  · have hb : (t.k == k) = false := beq_eq_false_iff_ne.2 hk
    have hb2 : (t.k != k) = true := bne_iff_ne.2 hk
    clear hn hk
    go_enter Tryd.func145, Tryd.ntmps145
    go_wp2_with fail
    go_ret
    exact ⟨rfl, rfl⟩
set_option maxHeartbeats 1000000 in
theorem text_yes (P : Nat) (t u : Tk) (r : List Tk) (k : Int) (s : ByteArray) (w : World) (h : PB w P (t :: u :: r)) (hk : t.k = k) (ht : t.t = s.toList) :
    Calls Tryd.prog 145 #[.pointer (some ⟨P, 0, none⟩), .int .i64 k, .string s] w fun e w' => e = .returned (.bool true) ∧ PB w' P (u :: r) ∧ w.grownBy w' (some P) := by
  obtain ⟨b, off, c, h1, h2, h3, h4, h6⟩ := h
  obtain ⟨x0, xf⟩ := blk1 h1
  obtain ⟨c0, c1, c2, c3, c4⟩ := h6 0 t rfl
  have HN := Lib.hid (PB.next h1 h2 h3 h4 h6)
  have hs : (t.t == s.toList) = true := by rw [ht]; exact beq_self_eq_true _
  have hb : (t.k == k) = true := by rw [hk]; exact beq_self_eq_true _
  have hb2 : (t.k != k) = false := by rw [hk]; exact bne_self_eq_false _
  simp only [Nat.zero_mul, Nat.add_zero] at c0 c1 c2 c3 c4
  simp only [List.length_cons] at x0 h2
  have hc1 : ¬ c = 1 := by omega
  have hc2 : 1 ≤ c := by omega
  clear h1 h4 h6 hk ht
  go_enter Tryd.func145, Tryd.ntmps145
  go_wp2_with fail
  go_ret
  exact ⟨rfl, HN.out.1, HN.out.2⟩

set_option maxHeartbeats 1000000 in
theorem symbol_no (P : Nat) (t : Tk) (r : List Tk) (s : ByteArray) (w : World) (h : PB w P (t :: r)) (hn : t.k ≠ 4 ∨ t.t ≠ s.toList) :
    Calls Tryd.prog 127 #[.pointer (some ⟨P, 0, none⟩), .string s] w fun e w' => e = .returned (.bool false) ∧ w' = w := by
  have H := Lib.hid (text_no P t r 4 s w h hn)
  clear h hn
  go_enter Tryd.func127, Tryd.ntmps127
  go_wp2_with fail
  refine H.out.mono ?_
  rintro e w' ⟨rfl, rfl⟩
  go_wp2_with fail
  go_ret
  exact ⟨rfl, rfl⟩
set_option maxHeartbeats 1000000 in
theorem symbol_yes (P : Nat) (t u : Tk) (r : List Tk) (s : ByteArray) (w : World) (h : PB w P (t :: u :: r)) (hk : t.k = 4) (ht : t.t = s.toList) :
    Calls Tryd.prog 127 #[.pointer (some ⟨P, 0, none⟩), .string s] w fun e w' => e = .returned (.bool true) ∧ PB w' P (u :: r) ∧ w.grownBy w' (some P) := by
  have H := Lib.hid (text_yes P t u r 4 s w h hk ht)
  clear h hk ht
  go_enter Tryd.func127, Tryd.ntmps127
  go_wp2_with fail
  refine H.out.mono ?_
  rintro e w' ⟨rfl, h1, h2⟩
  have H1 := Lib.hid h1
  have H2 := Lib.hid h2
  clear h1 h2
  go_wp2_with fail
  go_ret
  exact ⟨rfl, H1.out, H2.out⟩
set_option maxHeartbeats 1000000 in
theorem name_no (P : Nat) (t : Tk) (r : List Tk) (w : World) (h : PB w P (t :: r)) (hn : t.k ≠ 1) :
    Calls Tryd.prog 126 #[.pointer (some ⟨P, 0, none⟩)] w fun e w' => e = .returned (.tuple #[.string ⟨#[]⟩, .bool false]) ∧ w' = w := by
  obtain ⟨b, off, c, h1, h2, h3, h4, h6⟩ := h
  obtain ⟨x0, _⟩ := blk1 h1
  obtain ⟨c0, c1, c2, c3, c4⟩ := h6 0 t rfl
  simp only [Nat.zero_mul, Nat.add_zero, List.length_cons] at c0 c1 c2 c3 c4 x0
  have hb : (t.k == 1) = false := beq_eq_false_iff_ne.2 hn
  have hb2 : (t.k != 1) = true := bne_iff_ne.2 hn
  clear h1 h2 h3 h4 h6 hn
  go_enter Tryd.func126, Tryd.ntmps126
  go_wp2_with fail
  go_ret2
  exact ⟨rfl, rfl⟩
set_option maxHeartbeats 1000000 in
theorem name_yes (P : Nat) (t u : Tk) (r : List Tk) (w : World) (h : PB w P (t :: u :: r)) (hk : t.k = 1) :
    Calls Tryd.prog 126 #[.pointer (some ⟨P, 0, none⟩)] w fun e w' => e = .returned (.tuple #[.string ⟨t.t.toArray⟩, .bool true]) ∧ PB w' P (u :: r) ∧ w.grownBy w' (some P) := by
  obtain ⟨b, off, c, h1, h2, h3, h4, h6⟩ := h
  obtain ⟨x0, xf⟩ := blk1 h1
  obtain ⟨c0, c1, c2, c3, c4⟩ := h6 0 t rfl
  have HN := Lib.hid (PB.next h1 h2 h3 h4 h6)
  have hb : (t.k == 1) = true := by rw [hk]; rfl
  have hb2 : (t.k != 1) = false := by rw [hk]; rfl
  simp only [Nat.zero_mul, Nat.add_zero] at c0 c1 c2 c3 c4
  simp only [List.length_cons] at x0 h2
  have hc1 : ¬ c = 1 := by omega
  have hc2 : 1 ≤ c := by omega
  clear h1 h4 h6 hk
  go_enter Tryd.func126, Tryd.ntmps126
  go_wp2_with fail
  go_ret2
  exact ⟨rfl, HN.out.1, HN.out.2⟩
set_option maxHeartbeats 1000000 in
theorem atEnd_any (P : Nat) (t : Tk) (r : List Tk) (w : World) (h : PB w P (t :: r)) :
    Calls Tryd.prog 87 #[.pointer (some ⟨P, 0, none⟩)] w fun e w' => e = .returned (.bool (t.k == 5)) ∧ w' = w := by
  obtain ⟨b, off, c, h1, h2, h3, h4, h6⟩ := h
  obtain ⟨x0, _⟩ := blk1 h1
  obtain ⟨c0, c1, c2, c3, c4⟩ := h6 0 t rfl
  simp only [Nat.zero_mul, Nat.add_zero, List.length_cons] at c0 c1 c2 c3 c4 x0
  clear h1 h2 h3 h4 h6
  go_enter Tryd.func87, Tryd.ntmps87
  go_wp2_with fail
  go_ret
  exact ⟨rfl, rfl⟩
/-- The error of a token that cannot stand where it stands. -/
def fE (t : Tk) : Int := if t.k = 5 then 8 else 7
set_option maxHeartbeats 1000000 in
theorem fault_any (P : Nat) (t : Tk) (r : List Tk) (w : World) (h : PB w P (t :: r)) :
    Calls Tryd.prog 88 #[.pointer (some ⟨P, 0, none⟩)] w fun e w' => e = .returned (.tuple #[.agg #[.int .i64 t.a, .int .i64 t.b], .int .i64 (fE t)]) ∧ Below w.heap.size w w' := by
  unfold fE
  have HB0 := Lib.hid ((Below.refl w.heap.size w).alloc (Nat.le_refl _) (.cells #[.int .i64 0, .int .i64 0] 23))
  have hp := h.below HB0.out
  have HE := Lib.hid (atEnd_any P t r _ hp)
  obtain ⟨b, off, c, h1, h2, h3, h4, h6⟩ := hp
  obtain ⟨x0, _⟩ := blk1 h1
  obtain ⟨c0, c1, c2, c3, c4⟩ := h6 0 t rfl
  simp only [Nat.zero_mul, Nat.add_zero, List.length_cons] at c0 c1 c2 c3 c4 x0
  clear h1 h2 h3 h4 h6 h
  by_cases hk : t.k = 5
  · have hb : (t.k == 5) = true := by rw [hk]; rfl
    rw [if_pos hk]
    clear hk
    go_enter Tryd.func88, Tryd.ntmps88
    go_wp2_with fail
    refine HE.out.mono ?_
    rintro e w' ⟨rfl, rfl⟩
    go_wp2_with fail
    refine bodyPost_ret (v := .tuple #[.agg #[.int .i64 t.a, .int .i64 t.b], .int .i64 8]) (by simp [results, Tryd.results88, go_sem]) rfl ?_
    exact ⟨rfl, (Below.refl _ _).alloc (Nat.le_refl _) _⟩
  · have hb : (t.k == 5) = false := beq_eq_false_iff_ne.2 hk
    rw [if_neg hk]
    clear hk
    go_enter Tryd.func88, Tryd.ntmps88
    go_wp2_with fail
    refine HE.out.mono ?_
    rintro e w' ⟨rfl, rfl⟩
    go_wp2_with fail
    refine bodyPost_ret (v := .tuple #[.agg #[.int .i64 t.a, .int .i64 t.b], .int .i64 7]) (by simp [results, Tryd.results88, go_sem]) rfl ?_
    exact ⟨rfl, (Below.refl _ _).alloc (Nat.le_refl _) _⟩
end Go.Proofs.YthbcfcbonmphfaaDoor
