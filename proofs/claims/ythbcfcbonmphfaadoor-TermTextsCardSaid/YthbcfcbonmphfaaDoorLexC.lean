/- Walks: symbols. -/
import Derived.Deep.RegionHeld3
import Derived.Deep.RegionWith
import Derived.Test.YthbcfcbonmphfaaDoorLexA
namespace Go.Proofs.YthbcfcbonmphfaaDoor
open Go.RowKit

def pairAt (k : Nat) : List UInt8 := pairsL.getD k []
theorem Pairs.at_ {w : World} (h : Pairs w) (k : Nat) (hk : k < 4) : w.cell? ⟨0, k, none⟩ = some (.string ⟨(pairAt k).toArray⟩) := by
  match k, hk with
  | 0, _ => exact h.1
  | 1, _ => exact h.2.1
  | 2, _ => exact h.2.2.1
  | 3, _ => exact h.2.2.2
def noPair (s : ByteArray) (k : Nat) : Prop := ∀ j, j < k → decide (2 ≤ s.size) = true → ((s.extract 0 2).toList == pairAt j) = false

theorem symLen_empty (s : ByteArray) (h : s.size = 0) : (0 : Int) = symLen s.data.toList := by
  have : s.data.toList = [] := List.eq_nil_of_length_eq_zero (by rw [size_toList]; exact h)
  rw [this]; rfl
theorem take2 (s : ByteArray) : (s.extract 0 2).toList = s.data.toList.take 2 := by rw [Lib.extract_toList]; rfl
theorem symLen_pair (s : ByteArray) (k : Nat) (hk : k < 4) (h2 : 2 ≤ s.size) (h : ((s.extract 0 2).toList == pairAt k) = true) : (2 : Int) = symLen s.data.toList := by
  rw [take2] at h
  unfold symLen
  rw [if_pos]
  · rfl
  · rw [Bool.and_eq_true, size_toList]
    refine ⟨by simpa using h2, List.any_eq_true.2 ⟨pairAt k, ?_, h⟩⟩
    match k, hk with
    | 0, _ => decide
    | 1, _ => decide
    | 2, _ => decide
    | 3, _ => decide
theorem noPair_snoc (s : ByteArray) (k : Nat) (h : noPair s k) (h2 : decide (2 ≤ s.size) = true → ((s.extract 0 2).toList == pairAt k) = false) : noPair s (k + 1) := by
  intro j hj hd
  rcases Nat.lt_or_ge j k with hl | hl
  · exact h j hl hd
  · have : j = k := by omega
    subst this
    exact h2 hd
def hitI (c : Int) : Bool := c == 40 || c == 41 || c == 123 || c == 125 || c == 91 || c == 93 || c == 44 || c == 59 || c == 58 || c == 46 || c == 61 || c == 60 || c == 43 || c == 45 || c == 42 || c == 47 || c == 37
theorem hitI_all : ∀ n, n < 256 → singles.contains (UInt8.ofNat n) = hitI n := by decide +kernel
theorem hitI_of (c : UInt8) : singles.contains c = hitI c.toNat := by
  have := hitI_all c.toNat c.toNat_lt
  rwa [UInt8.ofNat_toNat] at this
theorem symLen_rest (s : ByteArray) (h0 : 0 < s.size) (h : noPair s 4) : (symLen s.data.toList : Int) = if hitI s[0].toNat then 1 else 0 := by
  unfold symLen
  rw [if_neg, get_any _ s 0 h0, hitI_of]
  · split <;> rfl
  · rw [Bool.and_eq_true, size_toList]
    rintro ⟨h1, h2⟩
    obtain ⟨p, hp, he⟩ := List.any_eq_true.1 h2
    rw [← take2] at he
    have a0 := h 0 (by omega) h1
    have a1 := h 1 (by omega) h1
    have a2 := h 2 (by omega) h1
    have a3 := h 3 (by omega) h1
    simp only [pairsL, List.mem_cons, List.not_mem_nil, or_false] at hp
    rcases hp with rfl | rfl | rfl | rfl
    · exact absurd he (by rw [Bool.not_eq_true]; exact a0)
    · exact absurd he (by rw [Bool.not_eq_true]; exact a1)
    · exact absurd he (by rw [Bool.not_eq_true]; exact a2)
    · exact absurd he (by rw [Bool.not_eq_true]; exact a3)
set_option maxHeartbeats 400000 in
theorem symbolLength_any (s : ByteArray) (w : World) (hs : s.size ≤ maxLen) (hp : Pairs w) : Calls Tryd.prog 110 #[.string s] w fun e w' => e = .returned (.int .i64 (symLen s.data.toList)) ∧ ∃ n, w' = w.drewN n := by
  unfold maxLen at hs
  have HP := Lib.hid hp
  clear hp
  by_cases h0 : s.size = 0
  · have he : s.toList = [] := by rw [Lib.toList_data]; exact List.eq_nil_of_length_eq_zero (by rw [size_toList]; exact h0)
    have E := Lib.hid (symLen_empty s h0)
    go_enter Tryd.func110, Tryd.ntmps110
    go_wp2
    go_ret
    exact ⟨ret_int E.out, 0, rfl⟩
  have he : s.toList.isEmpty = false := by
    rw [Lib.toList_data, List.isEmpty_eq_false_iff]; intro e; have := congrArg List.length e; rw [size_toList] at this; exact h0 this
  have h0' : 0 < s.size := by omega
  clear h0
  go_enter Tryd.func110, Tryd.ntmps110
  go_wp2
  go_loopw [6] (fun i wr => ∃ k n : Nat, k ≤ 4 ∧ i = .int .i64 k ∧ wr = w.drewN n ∧ noPair s k) (fun i _ => 4 - (intOf i).toNat)
  case atStart => exact ⟨0, 0, by omega, rfl, rfl, fun j hj => absurd hj (by omega)⟩
  case round =>
    obtain ⟨k, n, hk, rfl, rfl, hno⟩ := hrel
    have HN := Lib.hid hno
    clear hno
    by_cases hlt : k < 4
    · have hcell : w.cell? ⟨0, k, none⟩ = some (.string ⟨(pairAt k).toArray⟩) := HP.out.at_ k hlt
      by_cases h2 : 2 ≤ s.size
      · have hd : decide ((2 : Int) ≤ (s.size : Int)) = true := by simp; omega
        have h2I : (2 : Int) ≤ (s.size : Int) := by omega
        have hkI : (k : Int) < 4 := by omega
        go_wp2
        go_quiet (fail)
        go_wp2
        · go_ret
          have hit : ((s.extract 0 2).toList == pairAt k) = true := by assumption
          exact ⟨ret_int (symLen_pair s k hlt h2 hit), n + nq, World.drewN_drewN ..⟩
        · have miss : ((s.extract 0 2).toList == pairAt k) = false := by assumption
          have HM := Lib.hid miss
          clear miss
          go_roundw
          case rel => exact ⟨k + 1, _, by omega, by go_num, rfl, noPair_snoc s k HN.out fun _ => HM.out⟩
          case measure => simp [intOf]; omega
      · have hd : decide ((2 : Int) ≤ (s.size : Int)) = false := by simp; omega
        go_wp2
        go_quiet (fail)
        go_wp2
        go_roundw
        case rel => exact ⟨k + 1, _, by omega, by go_num, rfl, noPair_snoc s k HN.out fun h => absurd h (by simp; omega)⟩
        case measure => simp [intOf]; omega
    · obtain rfl : k = 4 := by omega
      have HR := Lib.hid (symLen_rest s h0' HN.out)
      go_wp2
      all_goals (go_ret; exact ⟨ret_int (by rw [HR.out]; first | (simp only [hitI, *, Bool.true_or, Bool.or_true, Bool.or_false, if_true, if_false, Bool.false_eq_true]; done) | (exfalso; simp_all; done)), _, rfl⟩)

set_option maxHeartbeats 400000 in
theorem isSymbol_any (s : ByteArray) (w : World) (hs : s.size ≤ maxLen) (hp : Pairs w) : Calls Tryd.prog 60 #[.string s] w fun e w' => e = .returned (.bool (isSym s.data.toList)) ∧ ∃ n, w' = w.drewN n := by
  have E := Lib.hid (isSym_eq s.data.toList)
  have L := symLen_le s.data.toList
  rw [size_toList] at L E
  have HS := Lib.hid hs
  have HP := Lib.hid hp
  clear hp
  unfold maxLen at hs
  go_enter Tryd.func60, Tryd.ntmps60
  go_wp2_with (go_at_call 110; refine (symbolLength_any _ _ HS.out HP.out).mono ?_; rintro e w' ⟨rfl, n, rfl⟩)
  all_goals (go_ret; exact ⟨ret_bool (by rw [← E.out]; rw [Bool.eq_iff_iff]; simp; omega), _, rfl⟩)

theorem below_drewN {B : Nat} {a w : World} (h : Below B a w) (n : Nat) : Below B a (w.drewN n) := ⟨h.os, h.tape, h.output, h.size, h.block⟩
def tokV (k : Int) (s : ByteArray) (n a b : Int) : Value := .agg #[.int .i64 k, .string s, .int .i64 n, .int .i64 a, .int .i64 b]
def tokCells (k : Int) (s : ByteArray) (n a b : Int) : Array Value := #[.int .i64 k, .string s, .int .i64 n, .int .i64 a, .int .i64 b]
theorem empty_iff (s : ByteArray) : decide (s.data.toList = []) = s.toList.isEmpty := by
  rw [Lib.toList_data]; cases s.data.toList <;> rfl
set_option maxHeartbeats 1000000 in
theorem valid_any (k : Int) (s : ByteArray) (n a b : Int) (w : World) (hs : s.size ≤ maxLen) (hp : Pairs w) :
    Calls Tryd.prog 18 #[.agg #[.int .i64 k, .string s, .int .i64 n, .int .i64 a, .int .i64 b]] w fun e w' => e = .returned (.bool (validT k s.data.toList n)) ∧ Below w.heap.size w w' := by
  have HP := Lib.hid (hp.alloc (.cells #[.int .i64 k, .string s, .int .i64 n, .int .i64 a, .int .i64 b] 25))
  have HS := Lib.hid hs
  clear hp hs
  go_enter Tryd.func18, Tryd.ntmps18
  go_wp2_with (first | (go_at_call 14; refine (isName_any _ _ HS.out).mono ?_; rintro e w' ⟨rfl, rfl⟩) | (go_at_call 16; refine (iskw_any _ _).mono ?_; rintro e w' ⟨rfl, rfl⟩) | (go_at_call 60; refine (isSymbol_any _ _ HS.out HP.out).mono ?_; rintro e w' ⟨rfl, nq, rfl⟩))
  all_goals
    clear HP HS
    go_ret
    refine ⟨ret_bool ?_, ?_⟩
    · simp only [validT]; (try simp only [Lib.toList_data] at *); first | (simp_all; done) | (simp_all; omega)
    · first | exact (Below.refl _ _).alloc (Nat.le_refl _) _ | exact below_drewN ((Below.refl _ _).alloc (Nat.le_refl _) _) _

set_option maxHeartbeats 400000 in
theorem refIsName_any (s : ByteArray) (w : World) (hs : s.size ≤ maxLen) : Calls Tryd.prog 15 #[.string s] w fun e w' => e = .returned (.bool (isName s.toList)) ∧ Below w.heap.size w w' := by
  unfold maxLen at hs
  by_cases h0 : s.size = 0
  · have hI : ((s.size : Int) == 0) = true := beq_iff_eq.2 (by omega)
    have E := Lib.hid (isName_empty s h0)
    clear h0
    go_enter Tryd.func15, Tryd.ntmps15
    go_wp2
    go_ret
    exact ⟨ret_bool E.out, Below.refl _ _⟩
  · have h0' : 0 < s.size := by omega
    have hI : ((s.size : Int) == 0) = false := beq_eq_false_iff_ne.2 (by omega)
    by_cases h40 : s.size ≤ 40
    · have E := Lib.hid (isName_is s h0' h40)
      clear hs h0
      by_cases h4 : cls (s[0].toNat : Int) = 4
      · have H4 := Lib.hid h4
        clear h4
        have h4' : decide (cls (s[0].toNat : Int) = 4) = true := by simpa using H4.out
        go_enter Tryd.func15, Tryd.ntmps15
        go_wp2_with (go_at_call 56; refine (letter_any _ _).mono ?_; rintro e w' ⟨rfl, rfl⟩)
        go_loop [3] (fun i => ∃ k : Nat, k ≤ s.size ∧ i = .int .i64 k ∧ (s.data.toList.take k).all isW = true) (fun i => s.size - (intOf i).toNat)
        case atStart => exact ⟨0, Nat.zero_le _, rfl, by simp⟩
        case round =>
          obtain ⟨k, hk, rfl, hall⟩ := hrel
          have HA := Lib.hid hall
          clear hall h4'
          by_cases hlt : k < s.size
          · go_wp2_with (go_at_call 57; refine (word_any _ _).mono ?_; rintro e w' ⟨rfl, rfl⟩)
            · go_ret
              have hno : (!isWI (s[k].toNat : Int)) = true := by assumption
              exact ⟨ret_bool (by rw [E.out, wl_at s k hlt HA.out (by unfold isW; simpa using hno)]; simp; omega), Below.refl _ _⟩
            · have hyes : (!isWI (s[k].toNat : Int)) = false := by assumption
              have HY := Lib.hid hyes
              clear hyes
              go_round
              case rel => exact ⟨k + 1, by omega, by go_num, take_all_snoc isW s k hlt HA.out (by have := HY.out; unfold isW; simpa using this)⟩
              case measure => simp [intOf]; omega
          · have : k = s.size := by omega
            subst this
            have HW := Lib.hid (wl_end s HA.out)
            go_wp2_with (go_at_call 17; refine (refIsKw_any _ _).mono ?_; rintro e w' ⟨rfl, hb⟩)
            go_ret
            exact ⟨ret_bool (by rw [E.out, HW.out, H4.out]; simp), hb⟩
      · have h4' : decide (cls (s[0].toNat : Int) = 4) = false := by simpa using h4
        have H4 := Lib.hid h4
        clear h4
        go_enter Tryd.func15, Tryd.ntmps15
        go_wp2_with (go_at_call 56; refine (letter_any _ _).mono ?_; rintro e w' ⟨rfl, rfl⟩)
        go_ret
        exact ⟨ret_bool (by rw [E.out, h4']; rfl), Below.refl _ _⟩
    · have E := Lib.hid (isName_long s (by omega))
      clear h0
      go_enter Tryd.func15, Tryd.ntmps15
      go_wp2
      go_ret
      exact ⟨ret_bool E.out, Below.refl _ _⟩


end Go.Proofs.YthbcfcbonmphfaaDoor

/- Walks: valid tokens, by the reference. -/
namespace Go.Proofs.YthbcfcbonmphfaaDoor
open Go.RowKit
theorem symbols_op (w : World) : Calls Tryd.prog 61 #[] w fun e w' => ∃ b, e = .returned (.slice (some ⟨b, 0, none⟩) 21 21) ∧ StrsAt w' b syms ∧ Below w.heap.size w w' :=
  (symbols_any w).mono fun _ _ ⟨he, hw⟩ => ⟨_, he, by rw [hw]; exact strsAt_new w syms _, by rw [hw]; exact (Below.refl _ _).alloc (Nat.le_refl _) _⟩
theorem hasSym_of (b : Nat) (s : ByteArray) (w : World) (v : Bool) (hv : isSym s.data.toList = v) (hc : StrsAt w b syms) :
    Calls Tryd.prog 58 #[.slice (some ⟨b, 0, none⟩) 21 21, .string s] w fun e w' => e = .returned (.bool v) ∧ w = w' :=
  (has_any b syms s w 21 rfl (by decide) hc).mono fun _ _ ⟨he, hw⟩ => ⟨by rw [he, any_comm, ← hv]; rfl, hw⟩

set_option maxHeartbeats 1000000 in
theorem refValid_symT (s : ByteArray) (n a b : Int) (w : World) (hv : isSym s.data.toList = true) :
    Calls Tryd.prog 19 #[.agg #[.int .i64 4, .string s, .int .i64 n, .int .i64 a, .int .i64 b]] w fun e w' => e = .returned (.bool (n == 0)) ∧ Below w.heap.size w w' := by
  have HV := Lib.hid hv
  clear hv
  go_enter Tryd.func19, Tryd.ntmps19
  go_wp2_with fail
  go_region_held3 (fun w' => w'.cell? ⟨w.heap.size, 1, none⟩ = some (.string s) ∧ w'.cell? ⟨w.heap.size, 2, none⟩ = some (.int .i64 n))
    (first | go_keep | exact ⟨(hb1.cell (by simp)).trans (by simp [go_sem]), (hb1.cell (by simp)).trans (by simp [go_sem])⟩)
    (first | (go_at_call 61; refine (symbols_op _).mono ?_; rintro e w1 ⟨b1, rfl, hst, hb1⟩) | (go_at_call 58; refine (hasSym_of _ _ _ _ HV.out hst).mono ?_; rintro e w2 ⟨rfl, rfl⟩))
  go_wp2
  go_ret
  exact ⟨rfl, ((Below.refl _ _).alloc (Nat.le_refl _) _).drew.trans (hb1.mono (by simp))⟩
set_option maxHeartbeats 1000000 in
theorem refValid_symF (s : ByteArray) (n a b : Int) (w : World) (hv : isSym s.data.toList = false) :
    Calls Tryd.prog 19 #[.agg #[.int .i64 4, .string s, .int .i64 n, .int .i64 a, .int .i64 b]] w fun e w' => e = .returned (.bool false) ∧ Below w.heap.size w w' := by
  have HV := Lib.hid hv
  clear hv
  go_enter Tryd.func19, Tryd.ntmps19
  go_wp2_with fail
  first | go_region_with (first | (go_at_call 61; refine (symbols_op _).mono ?_; rintro e w1 ⟨b1, rfl, hst, hb1⟩; have hc1 : w1.cell? ⟨w.heap.size, 1, none⟩ = some (.string s) := (hb1.cell (p := ⟨w.heap.size, 1, none⟩) (by simp)).trans (by simp [go_sem])) | (go_at_call 58; refine (hasSym_of _ _ _ _ HV.out hst).mono ?_; rintro e w2 ⟨rfl, rfl⟩))
           | fail
  all_goals
    go_wp2
    go_ret
    exact ⟨rfl, ((Below.refl _ _).alloc (Nat.le_refl _) _).drew.trans (hb1.mono (by simp))⟩

set_option maxHeartbeats 1000000 in
theorem refValid_rest (k : Int) (s : ByteArray) (n a b : Int) (w : World) (hs : s.size ≤ maxLen) (h4 : (k == 4) = false) :
    Calls Tryd.prog 19 #[.agg #[.int .i64 k, .string s, .int .i64 n, .int .i64 a, .int .i64 b]] w fun e w' => e = .returned (.bool (validT k s.data.toList n)) ∧ Below w.heap.size w w' := by
  have HS := Lib.hid hs
  clear hs
  go_enter Tryd.func19, Tryd.ntmps19
  go_wp2_with (first | (go_at_call 15; refine (refIsName_any _ _ HS.out).mono ?_; rintro e w' ⟨rfl, hb⟩; have hc2 : w'.cell? ⟨w.heap.size, 2, none⟩ = some (.int .i64 n) := (hb.cell (p := ⟨w.heap.size, 2, none⟩) (by simp)).trans (by simp [go_sem])) | (go_at_call 17; refine (refIsKw_any _ _).mono ?_; rintro e w' ⟨rfl, hb⟩; have hc2 : w'.cell? ⟨w.heap.size, 2, none⟩ = some (.int .i64 n) := (hb.cell (p := ⟨w.heap.size, 2, none⟩) (by simp)).trans (by simp [go_sem])))
  all_goals
    go_ret
    refine ⟨ret_bool ?_, ?_⟩
    · clear HS
      try clear hb hc2
      simp only [validT]; (try simp only [Lib.toList_data] at *); first | (simp_all; done) | (simp_all; omega)
    · first | exact (Below.refl _ _).alloc (Nat.le_refl _) _ | exact ((Below.refl _ _).alloc (Nat.le_refl _) _).trans (hb.mono (by simp))
theorem refValid_any (k : Int) (s : ByteArray) (n a b : Int) (w : World) (hs : s.size ≤ maxLen) :
    Calls Tryd.prog 19 #[.agg #[.int .i64 k, .string s, .int .i64 n, .int .i64 a, .int .i64 b]] w fun e w' => e = .returned (.bool (validT k s.data.toList n)) ∧ Below w.heap.size w w' := by
  by_cases h4 : k = 4
  · subst h4
    have e : validT 4 s.data.toList n = (isSym s.data.toList && n == 0) := rfl
    rw [e]
    cases hv : isSym s.data.toList
    · exact refValid_symF s n a b w hv
    · rw [Bool.true_and]; exact refValid_symT s n a b w hv
  · exact refValid_rest k s n a b w hs (beq_eq_false_iff_ne.2 h4)
end Go.Proofs.YthbcfcbonmphfaaDoor
