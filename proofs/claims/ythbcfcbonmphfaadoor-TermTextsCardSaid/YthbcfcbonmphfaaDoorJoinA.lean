/- Walks: digits, and what is appended for a token. -/
import Derived.Test.YthbcfcbonmphfaaDoorLexF
import Derived.Test.YthbcfcbonmphfaaDoorJoinS
import Derived.OwnWalk
import Derived.Deep.Onto
import Derived.Deep.AppendLies
import Derived.Lib.AppendStr
namespace Go.Proofs.YthbcfcbonmphfaaDoor
set_option maxRecDepth 100000
open Go.RowKit

def bsC (l : List UInt8) : List Value := l.map fun c => Value.int .u8 (c.toNat : Int)
theorem bsC_len (l : List UInt8) : (bsC l).length = l.length := by simp [bsC]
theorem bsC_app (a b : List UInt8) : bsC a ++ bsC b = bsC (a ++ b) := by simp [bsC]
theorem Tryd.infoByte : (Tryd.prog.info? 5).map (fun i => (i.zero, i.size, i.bytes)) = some (some (.int .u8 0), 1, 1) := by kernel_rfl
/-- What an append leaves: the value owns more; below the call's own blocks nothing has changed. -/
def AppPost (base : Nat) (xs : List UInt8) (w : World) (e : Ending) (w' : World) : Prop :=
  ∃ v', e = .returned v' ∧ w'.ownsRow base 5 1 v' xs.length (bsC xs) ∧ Below base w w'
theorem below_own {w w' : World} {base : Nat} {e : TypeId} {size n : Nat} {v : Value} {xs : List Value} (ho : w.ownsRow base e size v n xs) (hg : w.grownBy w' v.ownBlock) (hb : base ≤ w.heap.size) : Below base w w' :=
  (Below.refl _ _).grown hg hb (fun k e => (ho.lt k e).1)
theorem dec_step (k : Nat) (n : Nat) (h : ¬ n < 10) : decF (k + 1) n = decF k (n / 10) ++ [UInt8.ofNat (48 + n % 10)] := by rw [decF, if_neg h]
theorem dec_last (k : Nat) (n : Nat) (h : n < 10) : decF (k + 1) n = [UInt8.ofNat (48 + n)] := by rw [decF, if_pos h]
theorem digit_val (m : Nat) (h : m < 10) : ((UInt8.ofNat (48 + m)).toNat : Int) = 48 + m := by
  rw [UInt8.toNat_ofNat']; omega

theorem app_one {w w1 w2 : World} {base : Nat} {v v' : Value} {xs ys : List UInt8} {c : UInt8} {o : Obj} (hb : Below base w w1) (hB : base ≤ w1.heap.size) (ho : w1.ownsRow base 5 1 v ys.length (bsC ys)) (hxs : xs = ys ++ [c])
    (ho2 : w2.ownsRow base 5 1 v' (ys.length + 1) (bsC ys ++ [.int .u8 (c.toNat : Int)])) (hg : (w1.alloc o).grownBy w2 v.ownBlock) : w2.ownsRow base 5 1 v' xs.length (bsC xs) ∧ Below base w w2 := by
  subst hxs
  refine ⟨?_, (hb.alloc hB _).grown hg (by simp; omega) (fun k e => (ho.lt k e).1)⟩
  have e : bsC ys ++ [.int .u8 (c.toNat : Int)] = bsC (ys ++ [c]) := by simp [bsC]
  rw [e] at ho2
  simpa using ho2

set_option maxHeartbeats 400000 in
theorem appendInt_low (k n base : Nat) (v : Value) (xs : List UInt8) (w : World) (hn : n < 10) (hx : xs.length ≤ 1000000) (hb : base ≤ w.heap.size) (ho : w.ownsRow base 5 1 v xs.length (bsC xs)) :
    Calls Tryd.prog 118 #[v, .int .i64 n] w (AppPost base (xs ++ decF (k + 1) n) w) := by
  obtain ⟨i0, hi, hz0, hz1, hz2⟩ := info_parts Tryd.infoByte
  have HL := Lib.hid (dec_last k n hn)
  have HO := Lib.hid ho
  have HB := Lib.hid hb
  have hnI : (n : Int) < 10 := by omega
  have hmod2 : (n : Int) % 10 = n := by omega
  have h1 : xs.length + 1 ≤ maxLen := by unfold maxLen; omega
  have HD := Lib.hid (digit_val n hn)
  clear ho hb hn
  go_enter Tryd.func118, Tryd.ntmps118
  go_wp2_with (at_builtin; refine wpList_append_own _ rfl (.tmp 11) (.tmp 16) 43 rfl base 5 i0 _ 1 1 Tryd.underlying43 hi hz0 hz1 hz2 rfl (by decide) _ xs.length (bsC xs) rfl (HO.out.alloc _) ⟨w.heap.size, 0, none⟩ 1 1 [.int .u8 (48 + (n : Int))] rfl rfl ?c1 ?c2 h1 ?c4 ?c5 ?_)
  case c1 => exact World.news_of_block (cs := #[.int .u8 (48 + (n : Int))]) (t := 5) (fr := (0, 0)) (heap_alloc_new w _)
  case c2 => simp [Value.oneCell']
  case c4 => omega
  case c5 => have := HB.out; simp; omega
  intro v' w2 ho2 hg2 _
  have R := app_one (c := UInt8.ofNat (48 + n)) (Below.refl _ _) HB.out HO.out rfl (by rw [HD.out]; exact ho2) hg2
  have HR := Lib.hid R
  clear R ho2 hg2
  go_wp2
  go_ret
  exact ⟨_, rfl, by rw [HL.out]; exact HR.out.1, HR.out.2⟩

set_option maxHeartbeats 400000 in
theorem appendInt_any (k : Nat) : ∀ (n base : Nat) (v : Value) (xs : List UInt8) (w : World), n < 10 ^ (k + 1) → n ≤ 4000000000000000000 → xs.length + k ≤ 1000000 → base ≤ w.heap.size → w.ownsRow base 5 1 v xs.length (bsC xs) →
    Calls Tryd.prog 118 #[v, .int .i64 n] w (AppPost base (xs ++ decF (k + 1) n) w) := by
  induction k with
  | zero => intro n base v xs w hn _ hx hb ho; exact appendInt_low 0 n base v xs w (by simpa using hn) (by omega) hb ho
  | succ k ih =>
    intro n base v xs w hn hnb hx hb ho
    have hnI : (n : Int) ≤ 4000000000000000000 := by omega
    by_cases h10 : n < 10
    · exact appendInt_low (k + 1) n base v xs w h10 (by omega) hb ho
    · have h10' : (10 : Int) ≤ (n : Int) := by omega
      have hpow : n / 10 < 10 ^ (k + 1) := Nat.div_lt_of_lt_mul (by rw [Nat.pow_succ] at hn; omega)
      have hI := ih (n / 10) base v xs w hpow (by omega) (by omega) hb ho
      have HL := Lib.hid (dec_step (k + 1) n h10)
      have hlen := decF_len (k + 1) (n / 10)
      obtain ⟨i0, hi, hz0, hz1, hz2⟩ := info_parts Tryd.infoByte
      have HD := Lib.hid (show ((UInt8.ofNat (48 + n % 10)).toNat : Int) = 48 + (n : Int) % 10 from by rw [digit_val (n % 10) (by omega)]; omega)
      have HI := Lib.hid hI
      have HB := Lib.hid hb
      have h1 : (xs ++ decF (k + 1) (n / 10)).length + 1 ≤ maxLen := by unfold maxLen; simp; omega
      have H1 := Lib.hid h1
      have HX := Lib.hid hx
      have HLN := Lib.hid hlen
      clear hI ih ho hb hn hpow h10 h1 hx hlen
      go_enter Tryd.func118, Tryd.ntmps118
      go_wp2_with fail
      have HI2 : Calls Tryd.prog 118 #[v, .int .i64 ((n : Int) / 10)] w (AppPost base (xs ++ decF (k + 1) (n / 10)) w) := by simpa using HI.out
      refine HI2.mono ?_
      rintro e w1 ⟨v1, rfl, ho1, hb1⟩
      have HO1 := Lib.hid ho1
      have HB1 := Lib.hid hb1
      clear ho1 hb1 HI2
      go_wp2_with (at_builtin; refine wpList_append_own _ rfl (.tmp 11) (.tmp 16) 43 rfl base 5 i0 _ 1 1 Tryd.underlying43 hi hz0 hz1 hz2 rfl (by decide) _ (xs ++ decF (k + 1) (n / 10)).length (bsC (xs ++ decF (k + 1) (n / 10))) rfl (HO1.out.alloc _) ⟨w1.heap.size, 0, none⟩ 1 1 [.int .u8 (48 + (n : Int) % 10)] rfl rfl ?c1 ?c2 H1.out ?c4 ?c5 ?_)
      case c1 => exact World.news_of_block (cs := #[.int .u8 (48 + (n : Int) % 10)]) (t := 5) (fr := (0, 0)) (heap_alloc_new w1 _)
      case c2 => simp [Value.oneCell']
      case c4 => have := HX.out; have := HLN.out; simp; omega
      case c5 => have := HB.out; have := HB1.out.size; simp; omega
      intro v' w2 ho2 hg2 _
      have R := app_one (xs := xs ++ decF (k + 1 + 1) n) (c := UInt8.ofNat (48 + n % 10)) HB1.out (by have := HB.out; have := HB1.out.size; omega) HO1.out (by rw [HL.out, List.append_assoc]) (by rw [HD.out]; simpa using ho2) hg2
      have HR := Lib.hid R
      clear R ho2 hg2
      go_wp2
      go_ret
      exact ⟨_, rfl, HR.out.1, HR.out.2⟩

/-- What a list of tokens may hold here: short texts. -/
def tkTextI (k : Int) (t : List UInt8) (n : Int) : List UInt8 := if k = 2 then dec n.toNat else t
theorem strCells_eq (s : ByteArray) : Lib.strCells s = bsC s.data.toList := rfl
set_option maxHeartbeats 400000 in
theorem appendToken_any (base : Nat) (v : Value) (xs : List UInt8) (k : Int) (s : ByteArray) (n a b : Int) (w : World) (hn0 : 0 ≤ n) (hn : n ≤ 1099511627776) (hx : xs.length ≤ 900000) (hs : s.size ≤ 1000) (hb : base ≤ w.heap.size) (ho : w.ownsRow base 5 1 v xs.length (bsC xs)) :
    Calls Tryd.prog 69 #[v, .agg #[.int .i64 k, .string s, .int .i64 n, .int .i64 a, .int .i64 b]] w (AppPost base (xs ++ tkTextI k s.data.toList n) w) := by
  obtain ⟨i0, hi, hz0, hz1, hz2⟩ := info_parts Tryd.infoByte
  have HO := Lib.hid (ho.alloc (.cells #[.int .i64 k, .string s, .int .i64 n, .int .i64 a, .int .i64 b] 25))
  have HB := Lib.hid hb
  have HX := Lib.hid hx
  have HS := Lib.hid hs
  clear ho hb hx hs
  by_cases hk : k = 2
  · subst hk
    obtain ⟨m, rfl⟩ := Int.eq_ofNat_of_zero_le hn0
    have e : tkTextI 2 s.data.toList (m : Int) = decF 13 m := by unfold tkTextI dec; rw [if_pos rfl, Int.toNat_natCast]
    rw [e]
    have hm : m < 10 ^ 13 := by have : m ≤ 1099511627776 := by omega
                                exact Nat.lt_of_le_of_lt this (by decide)
    have HM := Lib.hid hm
    have HM2 := Lib.hid (show m ≤ 4000000000000000000 by omega)
    clear e hm hn hn0
    go_enter Tryd.func69, Tryd.ntmps69
    go_wp2_with fail
    refine (appendInt_any 12 m base v xs _ HM.out HM2.out (by have := HX.out; omega) (by have := HB.out; simp; omega) HO.out).mono ?_
    rintro e w1 ⟨v1, rfl, ho1, hb1⟩
    have HR := Lib.hid (And.intro ho1 (((Below.refl _ _).alloc HB.out _).trans hb1))
    clear ho1 hb1
    go_wp2
    go_ret
    exact ⟨_, rfl, HR.out.1, HR.out.2⟩
  · have hkb : (k == 2) = false := beq_eq_false_iff_ne.2 hk
    have e : tkTextI k s.data.toList n = s.data.toList := by unfold tkTextI; rw [if_neg hk]
    rw [e]
    have h1 : xs.length + s.size ≤ maxLen := by have := HX.out; have := HS.out; unfold maxLen; omega
    have h2 : xs.length + s.size ≤ 140737488355328 := by have := HX.out; have := HS.out; omega
    clear e hk
    go_enter Tryd.func69, Tryd.ntmps69
    go_wp2_with (at_builtin; refine Lib.wpList_append_own_string _ rfl (.tmp 12) (.tmp 14) 43 9 rfl base 5 i0 Tryd.underlying43 Tryd.underlying9 hi hz0 hz1 hz2 v xs.length (bsC xs) rfl HO.out s rfl h1 h2 ?c5 ?_)
    case c5 => have := HB.out; simp; omega
    intro v' w2 ho2 hg2 _
    have R : w2.ownsRow base 5 1 v' (xs ++ s.data.toList).length (bsC (xs ++ s.data.toList)) ∧ Below base w w2 := by
      refine ⟨?_, ((Below.refl _ _).alloc HB.out _).grown hg2 (by have := HB.out; simp; omega) (fun k e => (HO.out.lt k e).1)⟩
      rw [strCells_eq, bsC_app] at ho2
      rw [List.length_append, size_toList]
      exact ho2
    have HR := Lib.hid R
    clear R ho2 hg2
    go_wp2
    go_ret
    exact ⟨_, rfl, HR.out.1, HR.out.2⟩

theorem str_app (a b : List UInt8) : (⟨a.toArray⟩ : ByteArray) ++ ⟨b.toArray⟩ = ⟨(a ++ b).toArray⟩ := by
  have h : ((⟨a.toArray⟩ : ByteArray) ++ ⟨b.toArray⟩).data = (⟨(a ++ b).toArray⟩ : ByteArray).data := by simp
  exact congrArg ByteArray.mk h
set_option maxHeartbeats 400000 in
theorem decimal_low (k n : Nat) (w : World) (hn : n < 10) : Calls Tryd.prog 70 #[.int .i64 n] w fun e w' => e = .returned (.string ⟨(decF (k + 1) n).toArray⟩) ∧ Below w.heap.size w w' := by
  have HL := Lib.hid (dec_last k n hn)
  obtain ⟨c, hc⟩ : ∃ c, c = UInt8.ofNat (48 + n) := ⟨_, rfl⟩
  have HD := Lib.hid (show (c.toNat : Int) = 48 + n from by rw [hc]; exact digit_val n hn)
  have hnI : (n : Int) < 10 := by omega
  have hB : Lib.Bytes (w.alloc (.cells #[.int .u8 (48 + (n : Int))] 5)) w.heap.size 0 ⟨#[c]⟩ := by
    intro i hi
    have hi0 : i = 0 := by have h1 : (ByteArray.mk #[c]).size = 1 := rfl
                           omega
    subst hi0
    have := cell_of_row (w.alloc (.cells #[.int .u8 (48 + (n : Int))] 5)) w.heap.size 0 _ _ (0, 0) (heap_alloc_new w _)
    rw [Nat.zero_add, this, ← HD.out]
    rfl
  have hcv : (convert 43 9 (.slice (some ⟨w.heap.size, 0, none⟩) 1 1)).run Tryd.prog (w.alloc (.cells #[.int .u8 (48 + (n : Int))] 5)) = .ok (.string ⟨#[c]⟩) (w.alloc (.cells #[.int .u8 (48 + (n : Int))] 5)) :=
    Lib.run_convert_whole (P := Tryd.prog) _ 43 5 9 Tryd.underlying43 Tryd.underlying5 Tryd.underlying9 w.heap.size 0 ⟨#[c]⟩ hB 1
  have HC := Lib.hid hc
  clear hn hB hc
  go_enter Tryd.func70, Tryd.ntmps70
  go_wp2
  go_ret
  exact ⟨by rw [HL.out, ← HC.out]; rfl, (Below.refl _ _).alloc (Nat.le_refl _) _⟩
set_option maxHeartbeats 400000 in
theorem decimal_any (k : Nat) : ∀ (n : Nat) (w : World), k ≤ 1000 → n < 10 ^ (k + 1) → n ≤ 4000000000000000000 → Calls Tryd.prog 70 #[.int .i64 n] w fun e w' => e = .returned (.string ⟨(decF (k + 1) n).toArray⟩) ∧ Below w.heap.size w w' := by
  induction k with
  | zero => intro n w _ hn _; exact decimal_low 0 n w (by simpa using hn)
  | succ k ih =>
    intro n w hk hn hnb
    have hnI : (n : Int) ≤ 4000000000000000000 := by omega
    by_cases h10 : n < 10
    · exact decimal_low (k + 1) n w h10
    · have h10' : (10 : Int) ≤ (n : Int) := by omega
      have hpow : n / 10 < 10 ^ (k + 1) := Nat.div_lt_of_lt_mul (by rw [Nat.pow_succ] at hn; omega)
      have HI := Lib.hid (fun W => ih (n / 10) W (by omega) hpow (by omega))
      have hl1 : (decF (k + 1) (n / 10)).length ≤ 1001 := Nat.le_trans (decF_len _ _) (by omega)
      have hl2 : (decF 1 (n % 10)).length ≤ 1 := decF_len _ _
      have HI2 := Lib.hid (fun W => decimal_low 0 (n % 10) W (by omega))
      have HL := Lib.hid (dec_step (k + 1) n h10)
      have HE := Lib.hid (dec_last 0 (n % 10) (by omega))
      clear ih hn hpow h10
      go_enter Tryd.func70, Tryd.ntmps70
      go_wp2_with fail
      have c1 : Calls Tryd.prog 70 #[.int .i64 ((n : Int) / 10)] w fun e w' => e = .returned (.string ⟨(decF (k + 1) (n / 10)).toArray⟩) ∧ Below w.heap.size w w' := by simpa using HI.out w
      refine c1.mono ?_
      rintro e w1 ⟨rfl, hb1⟩
      have HB1 := Lib.hid hb1
      clear hb1 c1
      go_wp2_with fail
      have c2 : Calls Tryd.prog 70 #[.int .i64 ((n : Int) % 10)] w1 fun e w' => e = .returned (.string ⟨(decF 1 (n % 10)).toArray⟩) ∧ Below w1.heap.size w1 w' := by simpa using HI2.out w1
      refine c2.mono ?_
      rintro e w2 ⟨rfl, hb2⟩
      have HB2 := Lib.hid (HB1.out.trans (hb2.mono HB1.out.size))
      clear hb2 c2
      go_wp2
      go_ret
      exact ⟨by rw [HL.out, ← HE.out, ← str_app]; rfl, HB2.out⟩
end Go.Proofs.YthbcfcbonmphfaaDoor
