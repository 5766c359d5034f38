/- Signatures in memory; slices.Contains; differentNames; validDecl. -/
import Derived.Test.YthbcfcbonmphfaaDoorTermE
namespace Go.Proofs.YthbcfcbonmphfaaDoor
open Go.RowKit Go.Shelf
set_option maxRecDepth 100000

structure Dc where
  nm : ByteArray
  args : List ByteArray
  res : ByteArray
structure Sg where
  sorts : List ByteArray
  ops : List Dc
/-- A slice of strings in memory, in a block below n₀. -/
def SlS (n₀ : Nat) (w : World) (A : Option Addr) (L : List ByteArray) : Prop :=
  0 < L.length → ∃ b off, A = some ⟨b, off, none⟩ ∧ b < n₀ ∧ ∀ (i : Nat) (s : ByteArray), L[i]? = some s → w.cell? ⟨b, off + i, none⟩ = some (.string s)
theorem SlS.later {n₀ : Nat} {w w' : World} (hb : Below n₀ w w') {A : Option Addr} {L : List ByteArray} (h : SlS n₀ w A L) : SlS n₀ w' A L := fun hl => by
  obtain ⟨b, off, rfl, hlt, hc⟩ := h hl
  exact ⟨b, off, rfl, hlt, fun i s hi => (hb.cell (p := ⟨b, off + i, none⟩) hlt).trans (hc i s hi)⟩
theorem SlS.mono {n₀ n₁ : Nat} (hn : n₀ ≤ n₁) {w : World} {A : Option Addr} {L : List ByteArray} (h : SlS n₀ w A L) : SlS n₁ w A L := fun hl => by
  obtain ⟨b, off, rfl, hlt, hc⟩ := h hl
  exact ⟨b, off, rfl, by omega, hc⟩
/-- A slice of declarations in memory. -/
def SlD (n₀ : Nat) (w : World) (A : Option Addr) (L : List Dc) : Prop :=
  0 < L.length → ∃ b off, A = some ⟨b, off, none⟩ ∧ b < n₀ ∧ ∀ (i : Nat) (d : Dc), L[i]? = some d → ∃ (A' : Option Addr) (c' : Nat),
    w.cell? ⟨b, off + i * 3, none⟩ = some (.string d.nm) ∧ w.cell? ⟨b, off + i * 3 + 1, none⟩ = some (.slice A' d.args.length c') ∧ w.cell? ⟨b, off + i * 3 + 2, none⟩ = some (.string d.res) ∧ SlS n₀ w A' d.args
theorem SlD.later {n₀ : Nat} {w w' : World} (hb : Below n₀ w w') {A : Option Addr} {L : List Dc} (h : SlD n₀ w A L) : SlD n₀ w' A L := fun hl => by
  obtain ⟨b, off, rfl, hlt, hc⟩ := h hl
  refine ⟨b, off, rfl, hlt, fun i d hi => ?_⟩
  obtain ⟨A', c', h0, h1, h2, h3⟩ := hc i d hi
  exact ⟨A', c', (hb.cell (p := ⟨b, _, none⟩) hlt).trans h0, (hb.cell (p := ⟨b, _, none⟩) hlt).trans h1, (hb.cell (p := ⟨b, _, none⟩) hlt).trans h2, h3.later hb⟩
theorem SlD.mono {n₀ n₁ : Nat} (hn : n₀ ≤ n₁) {w : World} {A : Option Addr} {L : List Dc} (h : SlD n₀ w A L) : SlD n₁ w A L := fun hl => by
  obtain ⟨b, off, rfl, hlt, hc⟩ := h hl
  refine ⟨b, off, rfl, by omega, fun i d hi => ?_⟩
  obtain ⟨A', c', h0, h1, h2, h3⟩ := hc i d hi
  exact ⟨A', c', h0, h1, h2, h3.mono hn⟩
/-- The lengths that strings and slices may have. -/
def okS (L : List ByteArray) : Prop := L.length ≤ maxLen ∧ ∀ s, s ∈ L → s.size ≤ maxLen
def okD (d : Dc) : Prop := d.nm.size ≤ maxLen ∧ d.res.size ≤ maxLen ∧ okS d.args
def okG (g : Sg) : Prop := okS g.sorts ∧ g.ops.length ≤ maxLen ∧ ∀ d, d ∈ g.ops → okD d

/-! ### what they say -/
def diffL (L : List ByteArray) : Bool := L.all (fun s => isName s.toList) && decide L.Nodup
def memS (s : ByteArray) (L : List ByteArray) : Bool := L.any (fun x => decide (x = s))
theorem memS_iff (s : ByteArray) (L : List ByteArray) : memS s L = true ↔ s ∈ L := by
  unfold memS; simp
theorem memS_true {s : ByteArray} {L : List ByteArray} (h : s ∈ L) : memS s L = true := (memS_iff s L).2 h
theorem memS_false {s : ByteArray} {L : List ByteArray} (h : ¬ s ∈ L) : memS s L = false := by
  rw [Bool.eq_false_iff]; exact fun e => h ((memS_iff s L).1 e)
def validDc (sorts : List ByteArray) (d : Dc) : Bool := decide (d.args.length ≤ 6) && d.args.all (fun s => memS s sorts) && memS d.res sorts
def validSg (g : Sg) : Bool := decide (g.sorts.length ≤ 40) && decide (g.ops.length ≤ 100) && diffL g.sorts && g.ops.all (validDc g.sorts) && diffL (g.ops.map Dc.nm)

theorem str_eq_true {a b : ByteArray} (h : a = b) : (a.toList == b.toList) = true := by rw [h]; exact beq_self_eq_true _
theorem str_eq_false {a b : ByteArray} (h : a ≠ b) : (a.toList == b.toList) = false := by
  rw [beq_eq_false_iff_ne]; exact fun e => h (toList_ext e)

set_option maxHeartbeats 1000000 in
theorem index_any (A : Option Addr) (c : Nat) (L : List ByteArray) (s : ByteArray) (n₀ : Nat) (w : World) (hs : SlS n₀ w A L) (hl : L.length ≤ maxLen) :
    Calls Tryd.prog 149 #[.slice A L.length c, .string s] w fun e w' => (∃ i : Int, e = .returned (.int .i64 i) ∧ decide ((0 : Int) ≤ i) = memS s L) ∧ w' = w := by
  have HS := Lib.hid hs
  unfold maxLen at hl
  clear hs
  go_enter Tryd.func149, Tryd.ntmps149
  go_wp2_with fail
  go_loopw [8] (fun i wr => ∃ k : Nat, k ≤ L.length ∧ i = .int .i64 k ∧ (∀ x, x ∈ L.take k → x ≠ s) ∧ wr = w) (fun i _ => L.length - (intOf i).toNat)
  case atStart => exact ⟨0, by omega, rfl, by simp, rfl⟩
  case round =>
    obtain ⟨k, hk, rfl, hno, rfl⟩ := hrel
    have HNO := Lib.hid hno
    clear hno
    by_cases hlt : k < L.length
    · obtain ⟨x, hx⟩ : ∃ x, L[k]? = some x := ⟨L[k]'hlt, List.getElem?_eq_getElem _⟩
      obtain ⟨b, off, rfl, hbl, hc⟩ := HS.out (by omega)
      have y := hc k x hx
      have HX := Lib.hid hx
      have hI : (k : Int) < (L.length : Int) := by omega
      clear hc hx
      by_cases he : s = x
      · have hb := str_eq_true he
        have HE := Lib.hid he
        clear he
        go_wp2_with fail
        go_ret
        exact ⟨⟨_, rfl, by rw [memS_true (show s ∈ L by rw [HE.out]; exact List.mem_of_getElem? HX.out)]; exact decide_eq_true (by omega)⟩, rfl⟩
      · have hb := str_eq_false he
        have HE := Lib.hid he
        clear he
        go_wp2_with fail
        go_roundw
        case rel =>
          refine ⟨k + 1, by omega, by go_num, fun z hz => ?_, by trivial⟩
          rw [List.take_add_one, HX.out] at hz
          rcases List.mem_append.1 hz with hz | hz
          · exact HNO.out z hz
          · rw [List.mem_singleton.1 hz]; exact fun e => HE.out e.symm
        case measure => simp [intOf]; omega
    · have hkl : k = L.length := by omega
      have hI : ¬ (k : Int) < (L.length : Int) := by omega
      go_wp2_with fail
      go_ret
      exact ⟨⟨_, rfl, by
        have : ¬ s ∈ L := fun h => HNO.out s (by rw [hkl, List.take_length]; exact h) rfl
        rw [memS_false this]; decide⟩, rfl⟩

set_option maxHeartbeats 1000000 in
theorem contains_any (A : Option Addr) (c : Nat) (L : List ByteArray) (s : ByteArray) (n₀ : Nat) (w : World) (hs : SlS n₀ w A L) (hl : L.length ≤ maxLen) :
    Calls Tryd.prog 141 #[.slice A L.length c, .string s] w fun e w' => e = .returned (.bool (memS s L)) ∧ w' = w := by
  go_enter Tryd.func141, Tryd.ntmps141
  go_wp2_with (go_at_call 149; refine (index_any A c L s n₀ w hs hl).mono ?_; rintro e w' ⟨⟨i, rfl, hi⟩, rfl⟩)
  go_ret
  exact ⟨by rw [← hi]; rfl, rfl⟩

theorem SMap.lookup0 {w : World} {b n : Nat} {f : List UInt8 → Option Value} (h : SMap w b n f) {t e : TypeId} (ht : Tryd.prog.underlying t = some (.map 9 e)) {z : Value} (hz : (zeroValue e).run Tryd.prog w = .ok z w) {s : ByteArray} (hs : s.size ≤ maxLen) :
    (Instr.lookup t (.map (some b)) (.string s) false).run Tryd.prog w = .ok ((f s.data.toList).getD z) w := by
  obtain ⟨D, h1, h2⟩ := h
  obtain ⟨v, ps, hrun, hv⟩ := h1.lookup (Maps.string_keyed Tryd.underlying9) ht hz (zd := .held z) (zp := []) rfl (key_string hs)
  obtain ⟨g1, g2⟩ := h2 s.data.toList
  rw [hrun]
  unfold Rv at hv
  have hv1 : DataW.held v = D.atKey (.string s.data.toList) (.held z) := by
    have := congrArg (Option.map Prod.fst) hv
    simpa using this
  cases hf : f s.data.toList with
  | none =>
    rw [hf] at g1
    rw [Maps.atKey_of_not_has g1] at hv1
    injection hv1 with e
    rw [e]; rfl
  | some u =>
    rw [g2 u hf] at hv1
    injection hv1 with e
    rw [e]; rfl

/-- The names that have come. -/
def seenF (L : List ByteArray) : List UInt8 → Option Value := fun s => if L.any (fun x => decide (x.data.toList = s)) then some (.bool true) else none
theorem seenF_snoc (L : List ByteArray) (x : ByteArray) : (fun s => if s = x.data.toList then some (.bool true) else seenF L s) = seenF (L ++ [x]) := by
  funext s
  unfold seenF
  rw [List.any_append]
  by_cases h : s = x.data.toList
  · simp [h]
  · have : ¬ x.data.toList = s := fun e => h e.symm
    simp [h, this]
theorem seenF_yes {L : List ByteArray} {x : ByteArray} (h : x ∈ L) : seenF L x.data.toList = some (.bool true) := by
  unfold seenF
  rw [if_pos]
  rw [List.any_eq_true]
  exact ⟨x, h, by simp⟩
theorem seenF_no {L : List ByteArray} {x : ByteArray} (h : ¬ x ∈ L) : seenF L x.data.toList = none := by
  unfold seenF
  rw [if_neg]
  rw [List.any_eq_true]
  rintro ⟨y, hy, e⟩
  exact h (by rw [← toList_inj (of_decide_eq_true e)]; exact hy)
theorem diffL_bad {L : List ByteArray} {k : Nat} {x : ByteArray} (hx : L[k]? = some x) (h : isName x.toList = false ∨ x ∈ L.take k) : diffL L = false := by
  obtain ⟨hlt, e⟩ := List.getElem?_eq_some_iff.1 hx
  unfold diffL
  rw [Bool.and_eq_false_iff]
  rcases h with h | h
  · left
    rw [List.all_eq_false]
    exact ⟨x, List.mem_of_getElem? hx, by rw [h]; simp⟩
  · right
    rw [decide_eq_false_iff_not]
    intro hn
    rw [← List.take_append_drop k L, List.nodup_append] at hn
    exact hn.2.2 x h x (by rw [List.drop_eq_getElem_cons hlt, e]; simp) rfl
theorem nodup_snoc {L : List ByteArray} {x : ByteArray} (h : L.Nodup) (hx : ¬ x ∈ L) : (L ++ [x]).Nodup := by
  rw [List.nodup_append]
  exact ⟨h, by simp, fun a ha b hb => by rw [List.mem_singleton.1 hb]; exact fun e => hx (e ▸ ha)⟩

set_option maxHeartbeats 1000000 in
theorem diffNames_any (A : Option Addr) (c : Nat) (L : List ByteArray) (w : World) (hs : SlS w.heap.size w A L) (hok : okS L) :
    Calls Tryd.prog 135 #[.slice A L.length c] w fun e w' => e = .returned (.bool (diffL L)) ∧ Below w.heap.size w w' := by
  have HS := Lib.hid hs
  have HOK := Lib.hid hok
  have hl := hok.1
  have hl' := hok.1
  unfold maxLen at hl
  clear hs hok
  have hmm := @run_makeMap Tryd.prog
  have HM0 := Lib.hid (SMap.made w)
  go_enter Tryd.func135, Tryd.ntmps135
  go_wp2_with fail
  go_loopw [9] (fun i wr => ∃ k : Nat, k ≤ L.length ∧ i = .int .i64 k ∧ (∀ x, x ∈ L.take k → isName x.toList = true) ∧ (L.take k).Nodup ∧ SMap wr w.heap.size k (seenF (L.take k)) ∧ Below w.heap.size w wr) (fun i _ => L.length - (intOf i).toNat)
  case atStart => exact ⟨0, by omega, rfl, by simp, by simp, HM0.out, (Below.refl _ _).alloc (Nat.le_refl _) _⟩
  case round =>
    clear HM0 hmm
    obtain ⟨k, hk, rfl, hnm, hnd, hsm, hbw⟩ := hrel
    have HNM := Lib.hid hnm
    have HND := Lib.hid hnd
    have HSM := Lib.hid hsm
    have HBW := Lib.hid hbw
    clear hnm hnd hsm hbw
    by_cases hlt : k < L.length
    · obtain ⟨x, hx⟩ : ∃ x, L[k]? = some x := ⟨L[k]'hlt, List.getElem?_eq_getElem _⟩
      obtain ⟨b, off, rfl, hbl, hc⟩ := (HS.out.later HBW.out) (by omega)
      have y := hc k x hx
      have hxs := HOK.out.2 x (List.mem_of_getElem? hx)
      have HXS := Lib.hid hxs
      have HX := Lib.hid hx
      have hI : (k : Int) < (L.length : Int) := by omega
      clear hc hx hxs
      have hlk := HSM.out.lookup0 Tryd.underlying195 (Tryd.zeroValue4 wr) HXS.out
      go_wp2_with fail
      refine (isName_any x _ HXS.out).mono ?_
      rintro e w2 ⟨rfl, rfl⟩
      generalize hn : isName x.toList = bn at *
      cases bn
      · go_wp2
        go_ret
        exact ⟨by rw [diffL_bad HX.out (.inl hn)]; rfl, HBW.out⟩
      · by_cases hin : x ∈ L.take k
        · rw [seenF_yes hin] at hlk
          simp only [Option.getD] at hlk
          have HIN := Lib.hid hin
          clear hin
          go_wp2
          go_ret
          exact ⟨by rw [diffL_bad HX.out (.inr HIN.out)]; rfl, HBW.out⟩
        · rw [seenF_no hin] at hlk
          simp only [Option.getD] at hlk
          have HIN := Lib.hid hin
          obtain ⟨W2, hup, hs2, hg2⟩ := HSM.out.update Tryd.underlying195 (by unfold maxLen; omega) HXS.out (.bool true)
          rw [seenF_snoc] at hs2
          have HS2 := Lib.hid hs2
          have HG2 := Lib.hid hg2
          clear hin hs2 hg2
          go_wp2
          go_roundw
          case rel =>
            have hs1 := HBW.out.size
            have hb1 := HSM.out.lt
            have et : L.take (k + 1) = L.take k ++ [x] := by rw [List.take_add_one, HX.out]; rfl
            refine ⟨k + 1, by omega, by go_num, ?_, ?_, ?_, ?_⟩
            · rw [et]
              intro z hz
              rcases List.mem_append.1 hz with hz | hz
              · exact HNM.out z hz
              · rw [List.mem_singleton.1 hz]; exact hn
            · rw [et]; exact nodup_snoc HND.out HIN.out
            · rw [et]; exact HS2.out
            · exact HBW.out.grown HG2.out (by omega) (fun j e => by cases e; omega)
          case measure => simp [intOf]; omega
    · have hkl : k = L.length := by omega
      have hI : ¬ (k : Int) < (L.length : Int) := by omega
      go_wp2_with fail
      go_ret
      exact ⟨by
        have h1 := HNM.out
        have h2 := HND.out
        rw [hkl, List.take_length] at h1 h2
        rw [show diffL L = true by unfold diffL; rw [Bool.and_eq_true]; exact ⟨List.all_eq_true.2 h1, decide_eq_true h2⟩]; rfl, HBW.out⟩

theorem args_bad {sorts : List ByteArray} {d : Dc} {k : Nat} {x : ByteArray} (hx : d.args[k]? = some x) (h : ¬ x ∈ sorts) : validDc sorts d = false := by
  unfold validDc
  rw [Bool.and_eq_false_iff]; left
  rw [Bool.and_eq_false_iff]; right
  rw [List.all_eq_false]
  exact ⟨x, List.mem_of_getElem? hx, by rw [memS_false h]; simp⟩
theorem args_long {sorts : List ByteArray} {d : Dc} (h : 6 < d.args.length) : validDc sorts d = false := by
  unfold validDc
  rw [Bool.and_eq_false_iff]; left
  rw [Bool.and_eq_false_iff]; left
  rw [decide_eq_false_iff_not]; omega

set_option maxHeartbeats 1000000 in
theorem validDecl_any (A : Option Addr) (c : Nat) (L : List ByteArray) (d : Dc) (A' : Option Addr) (c' : Nat) (w : World) (hs : SlS w.heap.size w A L) (hok : okS L) (hd : SlS w.heap.size w A' d.args) (hod : okD d) :
    Calls Tryd.prog 136 #[.slice A L.length c, .agg #[.string d.nm, .slice A' d.args.length c', .string d.res]] w fun e w' => e = .returned (.bool (validDc L d)) ∧ Below w.heap.size w w' := by
  have HS := Lib.hid (hs.later ((Below.refl _ _).alloc (Nat.le_refl _) (.cells #[.string d.nm, .slice A' d.args.length c', .string d.res] 140)))
  have HD := Lib.hid (hd.later ((Below.refl _ _).alloc (Nat.le_refl _) (.cells #[.string d.nm, .slice A' d.args.length c', .string d.res] 140)))
  have HOK := Lib.hid hok
  have HOD := Lib.hid hod
  have hl := hod.2.2.1
  unfold maxLen at hl
  have HB0 := Lib.hid ((Below.refl w.heap.size w).alloc (Nat.le_refl _) (.cells #[.string d.nm, .slice A' d.args.length c', .string d.res] 140))
  obtain ⟨⟨x0, x1, x2⟩, _⟩ := blk3 (heap_alloc_new w (.cells #[.string d.nm, .slice A' d.args.length c', .string d.res] 140))
  clear hs hok hd hod
  by_cases h6 : 6 < d.args.length
  · have hI : decide ((6 : Int) < (d.args.length : Int)) = true := decide_eq_true (by omega)
    go_enter Tryd.func136, Tryd.ntmps136
    go_wp2_with fail
    go_ret
    exact ⟨by rw [args_long h6]; rfl, HB0.out⟩
  · have hI : decide ((6 : Int) < (d.args.length : Int)) = false := decide_eq_false (by omega)
    go_enter Tryd.func136, Tryd.ntmps136
    go_wp2_with fail
    go_loopw [14] (fun i wr => ∃ k : Nat, k ≤ d.args.length ∧ i = .int .i64 k ∧ (∀ x, x ∈ d.args.take k → x ∈ L) ∧ wr = w.alloc (.cells #[.string d.nm, .slice A' d.args.length c', .string d.res] 140)) (fun i _ => d.args.length - (intOf i).toNat)
    case atStart => exact ⟨0, by omega, rfl, by simp, rfl⟩
    case round =>
      obtain ⟨k, hk, rfl, hin, rfl⟩ := hrel
      have HIN := Lib.hid hin
      clear hin
      by_cases hlt : k < d.args.length
      · obtain ⟨x, hx⟩ : ∃ x, d.args[k]? = some x := ⟨d.args[k]'hlt, List.getElem?_eq_getElem _⟩
        obtain ⟨b, off, rfl, hbl, hc⟩ := HD.out (by omega)
        have y := hc k x hx
        have HX := Lib.hid hx
        have hI2 : (k : Int) < (d.args.length : Int) := by omega
        clear hc hx
        by_cases hm : x ∈ L
        · have hmb := memS_true hm
          have HM := Lib.hid hm
          clear hm
          go_wp2_with (go_at_call 141; refine (contains_any A c L x _ _ HS.out HOK.out.1).mono ?_; rintro e w' ⟨rfl, rfl⟩; rw [hmb])
          go_roundw
          case rel =>
            refine ⟨k + 1, by omega, by go_num, fun z hz => ?_, by trivial⟩
            rw [List.take_add_one, HX.out] at hz
            rcases List.mem_append.1 hz with hz | hz
            · exact HIN.out z hz
            · rw [List.mem_singleton.1 hz]; exact HM.out
          case measure => simp [intOf]; omega
        · have hmb := memS_false hm
          have HM := Lib.hid hm
          clear hm
          go_wp2_with (go_at_call 141; refine (contains_any A c L x _ _ HS.out HOK.out.1).mono ?_; rintro e w' ⟨rfl, rfl⟩; rw [hmb])
          go_ret
          exact ⟨by rw [args_bad HX.out HM.out]; rfl, HB0.out⟩
      · have hkl : k = d.args.length := by omega
        have hI2 : ¬ (k : Int) < (d.args.length : Int) := by omega
        go_wp2_with (go_at_call 141; refine (contains_any A c L d.res _ _ HS.out HOK.out.1).mono ?_; rintro e w' ⟨rfl, rfl⟩)
        go_ret
        refine ⟨?_, HB0.out⟩
        have h1 := HIN.out
        rw [hkl, List.take_length] at h1
        have h2 : validDc L d = memS d.res L := by
          unfold validDc
          rw [decide_eq_true (show d.args.length ≤ 6 by omega), List.all_eq_true.2 (fun x hx => memS_true (h1 x hx))]
          rfl
        rw [h2]; rfl
end Go.Proofs.YthbcfcbonmphfaaDoor
