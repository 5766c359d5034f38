/- ValidSignature. -/
import Derived.Test.YthbcfcbonmphfaaGreatDoorTermDBundle
import Derived.OwnWalk
/- Size; Depth. -/
namespace Go.Proofs.YthbcfcbonmphfaaGreatDoor
open Go.RowKit Go.Shelf
set_option maxRecDepth 100000
attribute [local go_sem] Oper.semAt_some

def sizeR (t : Tm) : Nat := if formed t then t.size else 0
def depthR (t : Tm) : Nat := if formed t then t.depth else 0
theorem size_any (t : Tm) (A : Option Addr) (c : Nat) (w : World) (hrep : TRep w.heap.size w t A) (hok : okT maxLen t) (hdp : t.depth ≤ 140737488355326) :
    Calls Tryz.prog 15 #[TV t A c] w fun e w' => e = .returned (.int .i64 (sizeR t : Int)) ∧ Below w.heap.size w w' := by
  refine (callsIn_wide (n := 3)).1 ?_
  refine callsIn_of_wp_marks Tryz.func15 rfl trivial ?_ rfl
  simp only [Tryz.ntmps15, List.size_toArray, List.length_cons, List.length_nil, Nat.reduceAdd, Nat.reduceSub, Array.replicate_succ, Array.replicate_zero, List.push_toArray, List.append_toArray, List.nil_append, List.cons_append]
  unfold TV
  gi_wp2_with fail
  refine ⟨trivial, (callsIn_wide.2 (wellFormed_any t A c _ ((hrep.later ((Below.refl _ _).alloc (Nat.le_refl _) _)).mono (by simp)) hok hdp)).mono ?_⟩
  rintro e w1 ⟨rfl, hb1⟩
  have hbx := cells_below (heap_alloc_new w (.cells (tcells t A c) 28)) hb1
  have hB := ((Below.refl w.heap.size w).alloc (Nat.le_refl _) (.cells (tcells t A c) 28)).trans (hb1.mono (by simp))
  have hs1 := hb1.size
  simp only [World.size_alloc] at hs1
  clear hb1
  obtain ⟨⟨x0, x1, x2⟩, _⟩ := blk3 ((Below.heap_alloc w1 (.cells #[.int .i64 0] 3) _ (Array.getElem?_eq_some_iff.1 hbx).1).trans hbx)
  generalize hf : formed t = bf at *
  cases bf
  · have HB := Lib.hid hB
    clear hB hbx hrep hok
    gi_wp2_with fail
    exact ⟨_, results_tmp rfl _ _ _, by simp [sizeR, hf], HB.out⟩
  · have hsize : t.size ≤ 1000 := fitsL_size (by unfold formed at hf; simp at hf; exact hf.1.1)
    gi_wp2_with fail
    refine ⟨trivial, (nodes_in Fence.wide _ wide_fn rfl t A c _).mono ?_⟩
    rintro e w' ⟨rfl, rfl⟩
    gi_wp2_with fail
    have hnx := heap_alloc_new (w1.alloc (.cells #[.int .i64 0] 3)) (.cells (tcells t A c) 28)
    have hr0 := (Boxed.new w1 3 (.int .i64 0)).alloc (.cells (tcells t A c) 28)
    have hB0 := (hB.alloc (by omega) (.cells #[.int .i64 0] 3)).alloc (by simp; omega) (.cells (tcells t A c) 28)
    have hsz : ((w1.alloc (.cells #[.int .i64 0] 3)).alloc (.cells (tcells t A c) 28)).heap.size = w1.heap.size + 2 := by simp
    simp only [World.size_alloc] at hnx
    clear hbx hB x0 x1 x2
    generalize ((w1.alloc (.cells #[.int .i64 0] 3)).alloc (.cells (tcells t A c) 28)) = W0 at hnx hr0 hB0 hsz ⊢
    refine wp_nodes w.heap.size _ t A c rfl hnx (hrep.later hB0) (by omega) hok hdp rfl
      (fun pre W => Boxed W w1.heap.size 3 (.int .i64 (pre.length : Nat)) ∧ Below w.heap.size w W)
      (fun _ _ _ => False)
      (.and ((boxed_own _ _ _).from _) (ownFrom_below (Nat.le_refl _) (by omega)))
      (fun _ => ownFrom_pure _ _)
      ⟨hr0, hB0⟩
      (fun x a' W => a' = { tmps := #[TV t A c, .pointer (some ⟨w.heap.size, 0, none⟩), .int .i64 0, .pointer (some ⟨w1.heap.size, 0, none⟩), TV t A c, .bool true, .bool false, TV t A c, .func (.func 63) #[] #[.pointer (some ⟨w1.heap.size + 1, 0, none⟩)], .int .i64 x.d, TV x.t x.A x.c, undef, undef, undef], defers := [] })
      (fun x a' => ownFrom_pure _ _)
      ?assign ?body ?done ?stop
    case assign =>
      rintro l pre x W K ⟨i1, i4⟩ hK
      unfold Nd.enc TV
      gi_wp2_with fail
      exact hK _ _ (KeepsFrom.refl _ _) (Kp.refl _ _ _) ⟨i1, i4⟩ (by simp [TV])
    case body =>
      rintro l pre x a' W hl _ ⟨i1, i4⟩ rfl hlt
      have I4 := Lib.hid i4
      clear hrep hok hB0 hnx hr0 i4 hf
      have c1 := i1.cell
      have f1 := i1.frozen
      gi_wp2_with fail
      exact ⟨(KeepsOthers.setCell _ _ _).from _, Kp.set _ _ _ (by omega) (by omega), by rw [List.length_append]; exact i1.set _, belowSet I4.out _ (by omega) _⟩
    case done =>
      rintro D ys W hD hys ⟨i1, i4⟩ hK
      have hl := congrArg List.length hys
      rw [List.length_map, Tm.pre_length] at hl
      rw [hl] at i1
      have I4 := Lib.hid i4
      have HK := Lib.hid hK
      clear hrep hok hB0 hnx hr0 i4 hys hK hl
      have c1 := i1.cell
      gi_wp2_with fail
      refine leave_mark HK.out ?_
      exact ⟨_, results_tmp rfl _ _ _, by simp [sizeR, hf], below_put I4.out (by omega) HK.out⟩
    case stop =>
      rintro D j pre W hD hpre h hK
      exact h.elim

theorem depth_any (t : Tm) (A : Option Addr) (c : Nat) (w : World) (hrep : TRep w.heap.size w t A) (hok : okT maxLen t) (hdp : t.depth ≤ 140737488355326) :
    Calls Tryz.prog 16 #[TV t A c] w fun e w' => e = .returned (.int .i64 (depthR t : Int)) ∧ Below w.heap.size w w' := by
  refine (callsIn_wide (n := 3)).1 ?_
  refine callsIn_of_wp_marks Tryz.func16 rfl trivial ?_ rfl
  simp only [Tryz.ntmps16, List.size_toArray, List.length_cons, List.length_nil, Nat.reduceAdd, Nat.reduceSub, Array.replicate_succ, Array.replicate_zero, List.push_toArray, List.append_toArray, List.nil_append, List.cons_append]
  unfold TV
  gi_wp2_with fail
  refine ⟨trivial, (callsIn_wide.2 (wellFormed_any t A c _ ((hrep.later ((Below.refl _ _).alloc (Nat.le_refl _) _)).mono (by simp)) hok hdp)).mono ?_⟩
  rintro e w1 ⟨rfl, hb1⟩
  have hbx := cells_below (heap_alloc_new w (.cells (tcells t A c) 28)) hb1
  have hB := ((Below.refl w.heap.size w).alloc (Nat.le_refl _) (.cells (tcells t A c) 28)).trans (hb1.mono (by simp))
  have hs1 := hb1.size
  simp only [World.size_alloc] at hs1
  clear hb1
  obtain ⟨⟨x0, x1, x2⟩, _⟩ := blk3 ((Below.heap_alloc w1 (.cells #[.int .i64 0] 3) _ (Array.getElem?_eq_some_iff.1 hbx).1).trans hbx)
  generalize hf : formed t = bf at *
  cases bf
  · have HB := Lib.hid hB
    clear hB hbx hrep hok
    gi_wp2_with fail
    exact ⟨_, results_tmp rfl _ _ _, by simp [depthR, hf], HB.out⟩
  · gi_wp2_with fail
    refine ⟨trivial, (nodes_in Fence.wide _ wide_fn rfl t A c _).mono ?_⟩
    rintro e w' ⟨rfl, rfl⟩
    gi_wp2_with fail
    have hnx := heap_alloc_new (w1.alloc (.cells #[.int .i64 0] 3)) (.cells (tcells t A c) 28)
    have hr0 := (Boxed.new w1 3 (.int .i64 0)).alloc (.cells (tcells t A c) 28)
    have hB0 := (hB.alloc (by omega) (.cells #[.int .i64 0] 3)).alloc (by simp; omega) (.cells (tcells t A c) 28)
    have hsz : ((w1.alloc (.cells #[.int .i64 0] 3)).alloc (.cells (tcells t A c) 28)).heap.size = w1.heap.size + 2 := by simp
    simp only [World.size_alloc] at hnx
    clear hbx hB x0 x1 x2
    generalize ((w1.alloc (.cells #[.int .i64 0] 3)).alloc (.cells (tcells t A c) 28)) = W0 at hnx hr0 hB0 hsz ⊢
    refine wp_nodes w.heap.size _ t A c rfl hnx (hrep.later hB0) (by omega) hok hdp rfl
      (fun pre W => Boxed W w1.heap.size 3 (.int .i64 ((maxd (pre.map Nd.pr) : Nat) : Int)) ∧ Below w.heap.size w W)
      (fun _ _ _ => False)
      (.and ((boxed_own _ _ _).from _) (ownFrom_below (Nat.le_refl _) (by omega)))
      (fun _ => ownFrom_pure _ _)
      ⟨hr0, hB0⟩
      (fun x a' W => a' = { tmps := #[TV t A c, .pointer (some ⟨w.heap.size, 0, none⟩), .int .i64 0, .pointer (some ⟨w1.heap.size, 0, none⟩), .int .i64 x.d, TV t A c, .bool true, .bool false, TV t A c, .func (.func 63) #[] #[.pointer (some ⟨w1.heap.size + 1, 0, none⟩)], .int .i64 x.d, TV x.t x.A x.c, undef, undef, undef, undef], defers := [] })
      (fun x a' => ownFrom_pure _ _)
      ?assign ?body ?done ?stop
    case assign =>
      rintro l pre x W K ⟨i1, i4⟩ hK
      unfold Nd.enc TV
      gi_wp2_with fail
      exact hK _ _ (KeepsFrom.refl _ _) (Kp.refl _ _ _) ⟨i1, i4⟩ (by simp [TV])
    case body =>
      rintro l pre x a' W hl _ ⟨i1, i4⟩ rfl hlt
      have I4 := Lib.hid i4
      clear hrep hok hB0 hnx hr0 i4 hf
      have c1 := i1.cell
      have f1 := i1.frozen
      gi_wp2_with fail
      have e : (pre ++ [x]).map Nd.pr = pre.map Nd.pr ++ [x.pr] := by simp
      have e2 : ((maxd ((pre ++ [x]).map Nd.pr) : Nat) : Int) = max (maxd (pre.map Nd.pr) : Int) (x.d : Int) := by
        rw [e, maxd_snoc]
        show ((max (maxd (pre.map Nd.pr)) x.d : Nat) : Int) = _
        omega
      exact ⟨(KeepsOthers.setCell _ _ _).from _, Kp.set _ _ _ (by omega) (by omega), by rw [e2]; exact i1.set _, belowSet I4.out _ (by omega) _⟩
    case done =>
      rintro D ys W hD hys ⟨i1, i4⟩ hK
      rw [hys, maxd_pre] at i1
      have I4 := Lib.hid i4
      have HK := Lib.hid hK
      clear hrep hok hB0 hnx hr0 i4 hys hK
      have c1 := i1.cell
      gi_wp2_with fail
      refine leave_mark HK.out ?_
      exact ⟨_, results_tmp rfl _ _ _, by simp [depthR, hf], below_put I4.out (by omega) HK.out⟩
    case stop =>
      rintro D j pre W hD hpre h hK
      exact h.elim
end Go.Proofs.YthbcfcbonmphfaaGreatDoor
/- Signatures in memory; slices.Contains; differentNames; validDecl. -/
namespace Go.Proofs.YthbcfcbonmphfaaGreatDoor
open Go.RowKit Go.Shelf
set_option maxRecDepth 100000

structure Dc where
  nm : ByteArray
  args : List ByteArray
  res : ByteArray
structure Sg where
  sorts : List ByteArray
  ops : List Dc
/-- A slice of strings in memory, in a block below n₀. -/
def SlS (n₀ : Nat) (w : World) (A : Option Addr) (L : List ByteArray) : Prop :=
  0 < L.length → ∃ b off, A = some ⟨b, off, none⟩ ∧ b < n₀ ∧ ∀ (i : Nat) (s : ByteArray), L[i]? = some s → w.cell? ⟨b, off + i, none⟩ = some (.string s)
theorem SlS.later {n₀ : Nat} {w w' : World} (hb : Below n₀ w w') {A : Option Addr} {L : List ByteArray} (h : SlS n₀ w A L) : SlS n₀ w' A L := fun hl => by
  obtain ⟨b, off, rfl, hlt, hc⟩ := h hl
  exact ⟨b, off, rfl, hlt, fun i s hi => (hb.cell (p := ⟨b, off + i, none⟩) hlt).trans (hc i s hi)⟩
theorem SlS.mono {n₀ n₁ : Nat} (hn : n₀ ≤ n₁) {w : World} {A : Option Addr} {L : List ByteArray} (h : SlS n₀ w A L) : SlS n₁ w A L := fun hl => by
  obtain ⟨b, off, rfl, hlt, hc⟩ := h hl
  exact ⟨b, off, rfl, by omega, hc⟩
/-- A slice of declarations in memory. -/
def SlD (n₀ : Nat) (w : World) (A : Option Addr) (L : List Dc) : Prop :=
  0 < L.length → ∃ b off, A = some ⟨b, off, none⟩ ∧ b < n₀ ∧ ∀ (i : Nat) (d : Dc), L[i]? = some d → ∃ (A' : Option Addr) (c' : Nat),
    w.cell? ⟨b, off + i * 3, none⟩ = some (.string d.nm) ∧ w.cell? ⟨b, off + i * 3 + 1, none⟩ = some (.slice A' d.args.length c') ∧ w.cell? ⟨b, off + i * 3 + 2, none⟩ = some (.string d.res) ∧ SlS n₀ w A' d.args
theorem SlD.later {n₀ : Nat} {w w' : World} (hb : Below n₀ w w') {A : Option Addr} {L : List Dc} (h : SlD n₀ w A L) : SlD n₀ w' A L := fun hl => by
  obtain ⟨b, off, rfl, hlt, hc⟩ := h hl
  refine ⟨b, off, rfl, hlt, fun i d hi => ?_⟩
  obtain ⟨A', c', h0, h1, h2, h3⟩ := hc i d hi
  exact ⟨A', c', (hb.cell (p := ⟨b, _, none⟩) hlt).trans h0, (hb.cell (p := ⟨b, _, none⟩) hlt).trans h1, (hb.cell (p := ⟨b, _, none⟩) hlt).trans h2, h3.later hb⟩
theorem SlD.mono {n₀ n₁ : Nat} (hn : n₀ ≤ n₁) {w : World} {A : Option Addr} {L : List Dc} (h : SlD n₀ w A L) : SlD n₁ w A L := fun hl => by
  obtain ⟨b, off, rfl, hlt, hc⟩ := h hl
  refine ⟨b, off, rfl, by omega, fun i d hi => ?_⟩
  obtain ⟨A', c', h0, h1, h2, h3⟩ := hc i d hi
  exact ⟨A', c', h0, h1, h2, h3.mono hn⟩
/-- The lengths that strings and slices may have. -/
def okS (L : List ByteArray) : Prop := L.length ≤ maxLen ∧ ∀ s, s ∈ L → s.size ≤ maxLen
def okD (d : Dc) : Prop := d.nm.size ≤ maxLen ∧ d.res.size ≤ maxLen ∧ okS d.args
def okG (g : Sg) : Prop := okS g.sorts ∧ g.ops.length ≤ maxLen ∧ ∀ d, d ∈ g.ops → okD d

/-! ### what they say -/
def diffL (L : List ByteArray) : Bool := L.all (fun s => isName s.toList) && decide L.Nodup
def memS (s : ByteArray) (L : List ByteArray) : Bool := L.any (fun x => decide (x = s))
theorem memS_iff (s : ByteArray) (L : List ByteArray) : memS s L = true ↔ s ∈ L := by
  unfold memS; simp
theorem memS_true {s : ByteArray} {L : List ByteArray} (h : s ∈ L) : memS s L = true := (memS_iff s L).2 h
theorem memS_false {s : ByteArray} {L : List ByteArray} (h : ¬ s ∈ L) : memS s L = false := by
  rw [Bool.eq_false_iff]; exact fun e => h ((memS_iff s L).1 e)
def validDc (sorts : List ByteArray) (d : Dc) : Bool := decide (d.args.length ≤ 6) && d.args.all (fun s => memS s sorts) && memS d.res sorts
def validSg (g : Sg) : Bool := decide (g.sorts.length ≤ 40) && decide (g.ops.length ≤ 100) && diffL g.sorts && g.ops.all (validDc g.sorts) && diffL (g.ops.map Dc.nm)

theorem str_eq_true {a b : ByteArray} (h : a = b) : (a.toList == b.toList) = true := by rw [h]; exact beq_self_eq_true _
theorem str_eq_false {a b : ByteArray} (h : a ≠ b) : (a.toList == b.toList) = false := by
  rw [beq_eq_false_iff_ne]; exact fun e => h (toList_ext e)

set_option maxHeartbeats 1000000 in
theorem index_any (A : Option Addr) (c : Nat) (L : List ByteArray) (s : ByteArray) (n₀ : Nat) (w : World) (hs : SlS n₀ w A L) (hl : L.length ≤ maxLen) :
    Calls Tryz.prog 85 #[.slice A L.length c, .string s] w fun e w' => (∃ i : Int, e = .returned (.int .i64 i) ∧ decide ((0 : Int) ≤ i) = memS s L) ∧ w' = w := by
  have HS := Lib.hid hs
  unfold maxLen at hl
  clear hs
  go_enter Tryz.func85, Tryz.ntmps85
  go_wp2_with fail
  go_loopw [8] (fun i wr => ∃ k : Nat, k ≤ L.length ∧ i = .int .i64 k ∧ (∀ x, x ∈ L.take k → x ≠ s) ∧ wr = w) (fun i _ => L.length - (intOf i).toNat)
  case atStart => exact ⟨0, by omega, rfl, by simp, rfl⟩
  case round =>
    obtain ⟨k, hk, rfl, hno, rfl⟩ := hrel
    have HNO := Lib.hid hno
    clear hno
    by_cases hlt : k < L.length
    · obtain ⟨x, hx⟩ : ∃ x, L[k]? = some x := ⟨L[k]'hlt, List.getElem?_eq_getElem _⟩
      obtain ⟨b, off, rfl, hbl, hc⟩ := HS.out (by omega)
      have y := hc k x hx
      have HX := Lib.hid hx
      have hI : (k : Int) < (L.length : Int) := by omega
      clear hc hx
      by_cases he : s = x
      · have hb := str_eq_true he
        have HE := Lib.hid he
        clear he
        go_wp2_with fail
        go_ret
        exact ⟨⟨_, rfl, by rw [memS_true (show s ∈ L by rw [HE.out]; exact List.mem_of_getElem? HX.out)]; exact decide_eq_true (by omega)⟩, rfl⟩
      · have hb := str_eq_false he
        have HE := Lib.hid he
        clear he
        go_wp2_with fail
        go_roundw
        case rel =>
          refine ⟨k + 1, by omega, by go_num, fun z hz => ?_, by trivial⟩
          rw [List.take_add_one, HX.out] at hz
          rcases List.mem_append.1 hz with hz | hz
          · exact HNO.out z hz
          · rw [List.mem_singleton.1 hz]; exact fun e => HE.out e.symm
        case measure => simp [intOf]; omega
    · have hkl : k = L.length := by omega
      have hI : ¬ (k : Int) < (L.length : Int) := by omega
      go_wp2_with fail
      go_ret
      exact ⟨⟨_, rfl, by
        have : ¬ s ∈ L := fun h => HNO.out s (by rw [hkl, List.take_length]; exact h) rfl
        rw [memS_false this]; decide⟩, rfl⟩

set_option maxHeartbeats 1000000 in
theorem contains_any (A : Option Addr) (c : Nat) (L : List ByteArray) (s : ByteArray) (n₀ : Nat) (w : World) (hs : SlS n₀ w A L) (hl : L.length ≤ maxLen) :
    Calls Tryz.prog 66 #[.slice A L.length c, .string s] w fun e w' => e = .returned (.bool (memS s L)) ∧ w' = w := by
  go_enter Tryz.func66, Tryz.ntmps66
  go_wp2_with (go_at_call 85; refine (index_any A c L s n₀ w hs hl).mono ?_; rintro e w' ⟨⟨i, rfl, hi⟩, rfl⟩)
  go_ret
  exact ⟨by rw [← hi]; rfl, rfl⟩

theorem SMap.lookup0 {w : World} {b n : Nat} {f : List UInt8 → Option Value} (h : SMap w b n f) {t e : TypeId} (ht : Tryz.prog.underlying t = some (.map 9 e)) {z : Value} (hz : (zeroValue e).run Tryz.prog w = .ok z w) {s : ByteArray} (hs : s.size ≤ maxLen) :
    (Instr.lookup t (.map (some b)) (.string s) false).run Tryz.prog w = .ok ((f s.data.toList).getD z) w := by
  obtain ⟨D, h1, h2⟩ := h
  obtain ⟨v, ps, hrun, hv⟩ := h1.lookup (Maps.string_keyed Tryz.underlying9) ht hz (zd := .held z) (zp := []) rfl (key_string hs)
  obtain ⟨g1, g2⟩ := h2 s.data.toList
  rw [hrun]
  unfold Rv at hv
  have hv1 : DataW.held v = D.atKey (.string s.data.toList) (.held z) := by
    have := congrArg (Option.map Prod.fst) hv
    simpa using this
  cases hf : f s.data.toList with
  | none =>
    rw [hf] at g1
    rw [Maps.atKey_of_not_has g1] at hv1
    injection hv1 with e
    rw [e]; rfl
  | some u =>
    rw [g2 u hf] at hv1
    injection hv1 with e
    rw [e]; rfl

/-- The names that have come. -/
def seenF (L : List ByteArray) : List UInt8 → Option Value := fun s => if L.any (fun x => decide (x.data.toList = s)) then some (.bool true) else none
theorem seenF_snoc (L : List ByteArray) (x : ByteArray) : (fun s => if s = x.data.toList then some (.bool true) else seenF L s) = seenF (L ++ [x]) := by
  funext s
  unfold seenF
  rw [List.any_append]
  by_cases h : s = x.data.toList
  · simp [h]
  · have : ¬ x.data.toList = s := fun e => h e.symm
    simp [h, this]
theorem seenF_yes {L : List ByteArray} {x : ByteArray} (h : x ∈ L) : seenF L x.data.toList = some (.bool true) := by
  unfold seenF
  rw [if_pos]
  rw [List.any_eq_true]
  exact ⟨x, h, by simp⟩
theorem seenF_no {L : List ByteArray} {x : ByteArray} (h : ¬ x ∈ L) : seenF L x.data.toList = none := by
  unfold seenF
  rw [if_neg]
  rw [List.any_eq_true]
  rintro ⟨y, hy, e⟩
  exact h (by rw [← toList_inj (of_decide_eq_true e)]; exact hy)
theorem diffL_bad {L : List ByteArray} {k : Nat} {x : ByteArray} (hx : L[k]? = some x) (h : isName x.toList = false ∨ x ∈ L.take k) : diffL L = false := by
  obtain ⟨hlt, e⟩ := List.getElem?_eq_some_iff.1 hx
  unfold diffL
  rw [Bool.and_eq_false_iff]
  rcases h with h | h
  · left
    rw [List.all_eq_false]
    exact ⟨x, List.mem_of_getElem? hx, by rw [h]; simp⟩
  · right
    rw [decide_eq_false_iff_not]
    intro hn
    rw [← List.take_append_drop k L, List.nodup_append] at hn
    exact hn.2.2 x h x (by rw [List.drop_eq_getElem_cons hlt, e]; simp) rfl
theorem nodup_snoc {L : List ByteArray} {x : ByteArray} (h : L.Nodup) (hx : ¬ x ∈ L) : (L ++ [x]).Nodup := by
  rw [List.nodup_append]
  exact ⟨h, by simp, fun a ha b hb => by rw [List.mem_singleton.1 hb]; exact fun e => hx (e ▸ ha)⟩

set_option maxHeartbeats 1000000 in
theorem diffNames_any (A : Option Addr) (c : Nat) (L : List ByteArray) (w : World) (hs : SlS w.heap.size w A L) (hok : okS L) :
    Calls Tryz.prog 38 #[.slice A L.length c] w fun e w' => e = .returned (.bool (diffL L)) ∧ Below w.heap.size w w' := by
  have HS := Lib.hid hs
  have HOK := Lib.hid hok
  have hl := hok.1
  have hl' := hok.1
  unfold maxLen at hl
  clear hs hok
  have hmm := @run_makeMap Tryz.prog
  have HM0 := Lib.hid (SMap.made w)
  go_enter Tryz.func38, Tryz.ntmps38
  go_wp2_with fail
  go_loopw [9] (fun i wr => ∃ k : Nat, k ≤ L.length ∧ i = .int .i64 k ∧ (∀ x, x ∈ L.take k → isName x.toList = true) ∧ (L.take k).Nodup ∧ SMap wr w.heap.size k (seenF (L.take k)) ∧ Below w.heap.size w wr) (fun i _ => L.length - (intOf i).toNat)
  case atStart => exact ⟨0, by omega, rfl, by simp, by simp, HM0.out, (Below.refl _ _).alloc (Nat.le_refl _) _⟩
  case round =>
    clear HM0 hmm
    obtain ⟨k, hk, rfl, hnm, hnd, hsm, hbw⟩ := hrel
    have HNM := Lib.hid hnm
    have HND := Lib.hid hnd
    have HSM := Lib.hid hsm
    have HBW := Lib.hid hbw
    clear hnm hnd hsm hbw
    by_cases hlt : k < L.length
    · obtain ⟨x, hx⟩ : ∃ x, L[k]? = some x := ⟨L[k]'hlt, List.getElem?_eq_getElem _⟩
      obtain ⟨b, off, rfl, hbl, hc⟩ := (HS.out.later HBW.out) (by omega)
      have y := hc k x hx
      have hxs := HOK.out.2 x (List.mem_of_getElem? hx)
      have HXS := Lib.hid hxs
      have HX := Lib.hid hx
      have hI : (k : Int) < (L.length : Int) := by omega
      clear hc hx hxs
      have hlk := HSM.out.lookup0 Tryz.underlying118 (Tryz.zeroValue4 wr) HXS.out
      go_wp2_with fail
      refine (isName_any x _ HXS.out).mono ?_
      rintro e w2 ⟨rfl, rfl⟩
      generalize hn : isName x.toList = bn at *
      cases bn
      · go_wp2
        go_ret
        exact ⟨by rw [diffL_bad HX.out (.inl hn)]; rfl, HBW.out⟩
      · by_cases hin : x ∈ L.take k
        · rw [seenF_yes hin] at hlk
          simp only [Option.getD] at hlk
          have HIN := Lib.hid hin
          clear hin
          go_wp2
          go_ret
          exact ⟨by rw [diffL_bad HX.out (.inr HIN.out)]; rfl, HBW.out⟩
        · rw [seenF_no hin] at hlk
          simp only [Option.getD] at hlk
          have HIN := Lib.hid hin
          obtain ⟨W2, hup, hs2, hg2⟩ := HSM.out.update Tryz.underlying118 (by unfold maxLen; omega) HXS.out (.bool true)
          rw [seenF_snoc] at hs2
          have HS2 := Lib.hid hs2
          have HG2 := Lib.hid hg2
          clear hin hs2 hg2
          go_wp2
          go_roundw
          case rel =>
            have hs1 := HBW.out.size
            have hb1 := HSM.out.lt
            have et : L.take (k + 1) = L.take k ++ [x] := by rw [List.take_add_one, HX.out]; rfl
            refine ⟨k + 1, by omega, by go_num, ?_, ?_, ?_, ?_⟩
            · rw [et]
              intro z hz
              rcases List.mem_append.1 hz with hz | hz
              · exact HNM.out z hz
              · rw [List.mem_singleton.1 hz]; exact hn
            · rw [et]; exact nodup_snoc HND.out HIN.out
            · rw [et]; exact HS2.out
            · exact HBW.out.grown HG2.out (by omega) (fun j e => by cases e; omega)
          case measure => simp [intOf]; omega
    · have hkl : k = L.length := by omega
      have hI : ¬ (k : Int) < (L.length : Int) := by omega
      go_wp2_with fail
      go_ret
      exact ⟨by
        have h1 := HNM.out
        have h2 := HND.out
        rw [hkl, List.take_length] at h1 h2
        rw [show diffL L = true by unfold diffL; rw [Bool.and_eq_true]; exact ⟨List.all_eq_true.2 h1, decide_eq_true h2⟩]; rfl, HBW.out⟩

theorem args_bad {sorts : List ByteArray} {d : Dc} {k : Nat} {x : ByteArray} (hx : d.args[k]? = some x) (h : ¬ x ∈ sorts) : validDc sorts d = false := by
  unfold validDc
  rw [Bool.and_eq_false_iff]; left
  rw [Bool.and_eq_false_iff]; right
  rw [List.all_eq_false]
  exact ⟨x, List.mem_of_getElem? hx, by rw [memS_false h]; simp⟩
theorem args_long {sorts : List ByteArray} {d : Dc} (h : 6 < d.args.length) : validDc sorts d = false := by
  unfold validDc
  rw [Bool.and_eq_false_iff]; left
  rw [Bool.and_eq_false_iff]; left
  rw [decide_eq_false_iff_not]; omega

set_option maxHeartbeats 1000000 in
theorem validDecl_any (A : Option Addr) (c : Nat) (L : List ByteArray) (d : Dc) (A' : Option Addr) (c' : Nat) (w : World) (hs : SlS w.heap.size w A L) (hok : okS L) (hd : SlS w.heap.size w A' d.args) (hod : okD d) :
    Calls Tryz.prog 39 #[.slice A L.length c, .agg #[.string d.nm, .slice A' d.args.length c', .string d.res]] w fun e w' => e = .returned (.bool (validDc L d)) ∧ Below w.heap.size w w' := by
  have HS := Lib.hid (hs.later ((Below.refl _ _).alloc (Nat.le_refl _) (.cells #[.string d.nm, .slice A' d.args.length c', .string d.res] 61)))
  have HD := Lib.hid (hd.later ((Below.refl _ _).alloc (Nat.le_refl _) (.cells #[.string d.nm, .slice A' d.args.length c', .string d.res] 61)))
  have HOK := Lib.hid hok
  have HOD := Lib.hid hod
  have hl := hod.2.2.1
  unfold maxLen at hl
  have HB0 := Lib.hid ((Below.refl w.heap.size w).alloc (Nat.le_refl _) (.cells #[.string d.nm, .slice A' d.args.length c', .string d.res] 61))
  obtain ⟨⟨x0, x1, x2⟩, _⟩ := blk3 (heap_alloc_new w (.cells #[.string d.nm, .slice A' d.args.length c', .string d.res] 61))
  clear hs hok hd hod
  by_cases h6 : 6 < d.args.length
  · have hI : decide ((6 : Int) < (d.args.length : Int)) = true := decide_eq_true (by omega)
    go_enter Tryz.func39, Tryz.ntmps39
    go_wp2_with fail
    go_ret
    exact ⟨by rw [args_long h6]; rfl, HB0.out⟩
  · have hI : decide ((6 : Int) < (d.args.length : Int)) = false := decide_eq_false (by omega)
    go_enter Tryz.func39, Tryz.ntmps39
    go_wp2_with fail
    go_loopw [14] (fun i wr => ∃ k : Nat, k ≤ d.args.length ∧ i = .int .i64 k ∧ (∀ x, x ∈ d.args.take k → x ∈ L) ∧ wr = w.alloc (.cells #[.string d.nm, .slice A' d.args.length c', .string d.res] 61)) (fun i _ => d.args.length - (intOf i).toNat)
    case atStart => exact ⟨0, by omega, rfl, by simp, rfl⟩
    case round =>
      obtain ⟨k, hk, rfl, hin, rfl⟩ := hrel
      have HIN := Lib.hid hin
      clear hin
      by_cases hlt : k < d.args.length
      · obtain ⟨x, hx⟩ : ∃ x, d.args[k]? = some x := ⟨d.args[k]'hlt, List.getElem?_eq_getElem _⟩
        obtain ⟨b, off, rfl, hbl, hc⟩ := HD.out (by omega)
        have y := hc k x hx
        have HX := Lib.hid hx
        have hI2 : (k : Int) < (d.args.length : Int) := by omega
        clear hc hx
        by_cases hm : x ∈ L
        · have hmb := memS_true hm
          have HM := Lib.hid hm
          clear hm
          go_wp2_with (go_at_call 66; refine (contains_any A c L x _ _ HS.out HOK.out.1).mono ?_; rintro e w' ⟨rfl, rfl⟩; rw [hmb])
          go_roundw
          case rel =>
            refine ⟨k + 1, by omega, by go_num, fun z hz => ?_, by trivial⟩
            rw [List.take_add_one, HX.out] at hz
            rcases List.mem_append.1 hz with hz | hz
            · exact HIN.out z hz
            · rw [List.mem_singleton.1 hz]; exact HM.out
          case measure => simp [intOf]; omega
        · have hmb := memS_false hm
          have HM := Lib.hid hm
          clear hm
          go_wp2_with (go_at_call 66; refine (contains_any A c L x _ _ HS.out HOK.out.1).mono ?_; rintro e w' ⟨rfl, rfl⟩; rw [hmb])
          go_ret
          exact ⟨by rw [args_bad HX.out HM.out]; rfl, HB0.out⟩
      · have hkl : k = d.args.length := by omega
        have hI2 : ¬ (k : Int) < (d.args.length : Int) := by omega
        go_wp2_with (go_at_call 66; refine (contains_any A c L d.res _ _ HS.out HOK.out.1).mono ?_; rintro e w' ⟨rfl, rfl⟩)
        go_ret
        refine ⟨?_, HB0.out⟩
        have h1 := HIN.out
        rw [hkl, List.take_length] at h1
        have h2 : validDc L d = memS d.res L := by
          unfold validDc
          rw [decide_eq_true (show d.args.length ≤ 6 by omega), List.all_eq_true.2 (fun x hx => memS_true (h1 x hx))]
          rfl
        rw [h2]; rfl
end Go.Proofs.YthbcfcbonmphfaaGreatDoor
namespace Go.Proofs.YthbcfcbonmphfaaGreatDoor
open Go.RowKit Go.Shelf
set_option maxRecDepth 100000

def GV (g : Sg) (A1 : Option Addr) (c1 : Nat) (A2 : Option Addr) (c2 : Nat) : Value := .agg #[.slice A1 g.sorts.length c1, .slice A2 g.ops.length c2]
abbrev gcells (g : Sg) (A1 : Option Addr) (c1 : Nat) (A2 : Option Addr) (c2 : Nat) : Array Value := #[.slice A1 g.sorts.length c1, .slice A2 g.ops.length c2]
def strsC (L : List ByteArray) : List Value := L.map Value.string
theorem own_below {w w' : World} {base n size : Nat} {e : TypeId} {v : Value} {xs : List Value} (h : w.ownsRow base e size v n xs) (hb : Below w.heap.size w w') : w'.ownsRow base e size v n xs := by
  refine ⟨h.1, ?_⟩
  rcases h.2 with h0 | ⟨g, cap, cur, rfl, h3, hh, h4⟩
  · exact .inl h0
  · exact .inr ⟨g, cap, cur, rfl, h3, (hb.block g (h.lt g rfl).2).trans hh, h4⟩
theorem slS_own {w : World} {base n : Nat} {v : Value} {L : List ByteArray} (h : w.ownsRow base 9 1 v n (strsC L)) : ∃ A cap, v = .slice A L.length cap ∧ SlS w.heap.size w A L ∧ n = L.length := by
  have hn : n = L.length := by have := h.1; simp [strsC] at this; omega
  subst hn
  rcases h.2 with ⟨rfl, h0⟩ | ⟨g, cap, cur, rfl, _, hh, _⟩
  · exact ⟨none, 0, by rw [h0], fun hp => absurd hp (by omega), rfl⟩
  · refine ⟨_, cap, rfl, fun hp => ⟨g, 0, rfl, (h.lt g rfl).2, fun i t ht => ?_⟩, rfl⟩
    have hi : i < L.length := (List.getElem?_eq_some_iff.1 ht).1
    have c := h.cellAt i (by omega)
    rw [show 0 + i = i by omega, c, strsC, List.getElem?_map, ht]; rfl
theorem Tryz.infoString : (Tryz.prog.info? 9).map (fun i => (i.zero, i.size, i.bytes)) = some (some (.string ⟨#[]⟩), 1, 16) := by kernel_rfl

theorem valid_sorts {g : Sg} (h : 40 < g.sorts.length) : validSg g = false := by
  unfold validSg; simp [show ¬ g.sorts.length ≤ 40 by omega]
theorem valid_ops {g : Sg} (h : 100 < g.ops.length) : validSg g = false := by
  unfold validSg; simp [show ¬ g.ops.length ≤ 100 by omega]
theorem valid_diff {g : Sg} (h : diffL g.sorts = false) : validSg g = false := by
  unfold validSg; simp [h]
theorem valid_bad {g : Sg} {k : Nat} {d : Dc} (hd : g.ops[k]? = some d) (h : validDc g.sorts d = false) : validSg g = false := by
  unfold validSg
  have : g.ops.all (validDc g.sorts) = false := by rw [List.all_eq_false]; exact ⟨d, List.mem_of_getElem? hd, by rw [h]; simp⟩
  simp [this]
theorem valid_last {g : Sg} (h1 : ¬ 40 < g.sorts.length) (h2 : ¬ 100 < g.ops.length) (h3 : diffL g.sorts = true) (h4 : ∀ d, d ∈ g.ops → validDc g.sorts d = true) : validSg g = diffL (g.ops.map Dc.nm) := by
  unfold validSg
  rw [decide_eq_true (show g.sorts.length ≤ 40 by omega), decide_eq_true (show g.ops.length ≤ 100 by omega), h3, List.all_eq_true.2 h4]; rfl

/-- What holds at the head of the loop over the operations. -/
def VInv (g : Sg) (A1 : Option Addr) (c1 : Nat) (A2 : Option Addr) (c2 : Nat) (w : World) (B : Nat) (k : Nat) (v : Value) (wr : World) : Prop :=
  k ≤ g.ops.length ∧ wr.ownsRow B 9 1 v k (strsC ((g.ops.take k).map Dc.nm)) ∧ (∀ d, d ∈ g.ops.take k → validDc g.sorts d = true) ∧ Below w.heap.size w wr ∧ wr.heap[w.heap.size]? = some (.cells (gcells g A1 c1 A2 c2) 25 (0, 0)) ∧ B ≤ wr.heap.size

set_option maxHeartbeats 2000000 in
theorem validSignature_any (g : Sg) (A1 : Option Addr) (c1 : Nat) (A2 : Option Addr) (c2 : Nat) (w : World) (hs : SlS w.heap.size w A1 g.sorts) (hd : SlD w.heap.size w A2 g.ops) (hok : okG g) :
    Calls Tryz.prog 9 #[GV g A1 c1 A2 c2] w fun e w' => e = .returned (.bool (validSg g)) ∧ Below w.heap.size w w' := by
  have HS := Lib.hid hs
  have HD := Lib.hid hd
  have HOK := Lib.hid hok
  have hbx := heap_alloc_new w (.cells (gcells g A1 c1 A2 c2) 25)
  have HBX := Lib.hid hbx
  obtain ⟨⟨x0, x1⟩, _⟩ := blk2 hbx
  have HB0 := Lib.hid ((Below.refl w.heap.size w).alloc (Nat.le_refl _) (.cells (gcells g A1 c1 A2 c2) 25))
  have hl1 := hok.1.1
  have hl2 := hok.2.1
  unfold maxLen at hl1 hl2
  obtain ⟨i0, hi, hz0, hz1, hz2⟩ := info_parts Tryz.infoString
  clear hs hd hok hbx
  unfold GV
  by_cases h40 : 40 < g.sorts.length
  · have hI : decide ((40 : Int) < (g.sorts.length : Int)) = true := decide_eq_true (by omega)
    rw [valid_sorts h40]
    go_enter Tryz.func9, Tryz.ntmps9
    go_wp2_with fail
    go_ret
    exact ⟨rfl, HB0.out⟩
  · have hI : decide ((40 : Int) < (g.sorts.length : Int)) = false := decide_eq_false (by omega)
    by_cases h100 : 100 < g.ops.length
    · have hI2 : decide ((100 : Int) < (g.ops.length : Int)) = true := decide_eq_true (by omega)
      rw [valid_ops h100]
      go_enter Tryz.func9, Tryz.ntmps9
      go_wp2_with fail
      go_ret
      exact ⟨rfl, HB0.out⟩
    · have hI2 : decide ((100 : Int) < (g.ops.length : Int)) = false := decide_eq_false (by omega)
      go_enter Tryz.func9, Tryz.ntmps9
      go_wp2_with fail
      refine (diffNames_any A1 c1 g.sorts _ ((HS.out.later HB0.out).mono (by simp)) HOK.out.1).mono ?_
      rintro e w1 ⟨rfl, hb1⟩
      clear x0 x1
      have HBX1 := Lib.hid (cells_below HBX.out hb1)
      have HB1 := Lib.hid (HB0.out.trans (hb1.mono (by simp)))
      have hz1s : w.heap.size < w1.heap.size := by have := hb1.size; simp at this; omega
      obtain ⟨⟨x0, x1⟩, _⟩ := blk2 HBX1.out
      clear hb1
      generalize hdf : diffL g.sorts = df
      cases df
      · go_wp2_with fail
        go_ret
        exact ⟨by rw [valid_diff hdf]; rfl, HB1.out⟩
      · have HDF := Lib.hid hdf
        clear hdf
        go_wp2_with (at_make; refine wpList_make_own _ rfl _ _ 22 rfl w1.heap.size 9 i0 (.string ⟨#[]⟩) 1 Tryz.underlying22 hi hz0 hz1 .i64 .i64 _ g.ops.length rfl rfl rfl (by rw [hz2]; omega) (by unfold maxLen; omega) (Nat.le_refl _) ?_)
        intro w2 ho2 hg2
        have HG2 := Lib.hid hg2
        have HO2 := Lib.hid ho2
        clear ho2 hg2
        have hb2 : Below w1.heap.size w1 w2 := (Below.refl _ _).grown HG2.out (Nat.le_refl _) (fun k e => by cases e)
        have HBX2 := Lib.hid (cells_below HBX1.out hb2)
        have HB2 := Lib.hid (HB1.out.trans (hb2.mono (by omega)))
        have hs2 := hb2.size
        have H40 := Lib.hid h40
        have H100 := Lib.hid h100
        clear x0 x1 hb2 hI hI2 h40
        obtain ⟨⟨x0, x1⟩, _⟩ := blk2 HBX2.out
        go_wp2_with fail
        go_loopw [29, 3] (fun y x wr => ∃ (k : Nat), y = .int .i64 k ∧ VInv g A1 c1 A2 c2 w w1.heap.size k x wr) (fun y _ _ => g.ops.length - (intOf y).toNat)
        case atStart => exact ⟨0, rfl, by omega, by simpa [strsC] using HO2.out, by simp, HB2.out, HBX2.out, hs2⟩
        case round =>
          clear x0 x1 hs2
          obtain ⟨k, rfl, hk, hown, hall, hbw, hbox, hsz⟩ := hrel
          have HOWN := Lib.hid hown
          have HALL := Lib.hid hall
          have HBW := Lib.hid hbw
          have HBOX := Lib.hid hbox
          clear hown hall hbw hbox
          by_cases hlt : k < g.ops.length
          · obtain ⟨d, hd⟩ : ∃ d, g.ops[k]? = some d := ⟨g.ops[k]'hlt, List.getElem?_eq_getElem _⟩
            obtain ⟨b, off, rfl, hbl, hc⟩ := (HD.out.later HBW.out) (by omega)
            obtain ⟨A', c', d0, d1, d2, d3⟩ := hc k d hd
            have HDS := Lib.hid d3
            have HDD := Lib.hid hd
            have hI : (k : Int) < (g.ops.length : Int) := by omega
            clear hc hd d3
            have HBD := Lib.hid ((Below.refl wr.heap.size wr).alloc (Nat.le_refl _) (.cells #[.string d.nm, .slice A' d.args.length c', .string d.res] 61))
            obtain ⟨⟨x0, x1⟩, _⟩ := blk2 (cells_below HBOX.out HBD.out)
            go_wp2_with fail
            refine (validDecl_any A1 c1 g.sorts d A' c' _ ?_ HOK.out.1 ?_ (HOK.out.2.2 d (List.mem_of_getElem? HDD.out))).mono ?_
            · exact ((HS.out.later HBW.out).mono HBW.out.size |>.later HBD.out).mono HBD.out.size
            · exact ((HDS.out.mono HBW.out.size).later HBD.out).mono HBD.out.size
            rintro e w3 ⟨rfl, hb3⟩
            have HB3 := Lib.hid hb3
            clear x0 x1 d0 d1 d2 hb3
            generalize hdv : validDc g.sorts d = dv
            cases dv
            · go_wp2_with fail
              go_ret
              exact ⟨by rw [valid_bad HDD.out hdv]; rfl, (HBW.out.trans (HBD.out.mono HBW.out.size)).trans (HB3.out.mono (by have := HBW.out.size; simp; omega))⟩
            · have HDV := Lib.hid hdv
              obtain ⟨⟨d0, d1, d2⟩, _⟩ := blk3 (cells_below (heap_alloc_new wr (.cells #[.string d.nm, .slice A' d.args.length c', .string d.res] 61)) HB3.out)
              have hs3 := HB3.out.size
              have HO3 := Lib.hid (own_below (HOWN.out.alloc _) HB3.out)
              clear hdv
              simp at hs3
              go_wp2_with (at_builtin; refine wpList_append_own _ rfl (.tmp 38) (.tmp 41) 22 rfl w1.heap.size 9 i0 _ 1 16 Tryz.underlying22 hi hz0 hz1 hz2 rfl (by decide) _ k _ rfl (HO3.out.alloc _) ⟨w3.heap.size, 0, none⟩ 1 1 [.string d.nm] rfl rfl ?c1 ?c2 ?c3 ?c4 ?c5 ?_)
              case c1 =>
                intro j u hu
                have : j = 0 := by have := (List.getElem?_eq_some_iff.1 hu).1; simpa using this
                subst this
                simp at hu
                subst hu
                simp [Addr.add]
              case c2 => intro u hu; simp at hu; subst hu; rfl
              case c3 => unfold maxLen; omega
              case c4 => omega
              case c5 => simp; omega
              intro v' w4 ho4 hg4 _
              have HO4 := Lib.hid ho4
              have HG4 := Lib.hid hg4
              clear ho4 hg4
              go_wp2
              go_roundw
              case rel =>
                have hs4 := HG4.out.size
                simp at hs4
                have et : g.ops.take (k + 1) = g.ops.take k ++ [d] := by rw [List.take_add_one, HDD.out]; rfl
                have hb4 : Below w.heap.size w w3 := (HBW.out.trans (HBD.out.mono HBW.out.size)).trans (HB3.out.mono (by have := HBW.out.size; simp; omega))
                have hw := HBW.out.size
                refine ⟨k + 1, by go_num, by omega, ?_, ?_, ?_, ?_, by omega⟩
                · rw [et, List.map_append]
                  have := HO4.out
                  simpa [strsC] using this
                · rw [et]
                  intro z hz
                  rcases List.mem_append.1 hz with hz | hz
                  · exact HALL.out z hz
                  · rw [List.mem_singleton.1 hz]; exact HDV.out
                · exact (hb4.alloc (by omega) _).grown HG4.out (by simp; omega) (fun j e => by have := (HOWN.out.lt j e).1; omega)
                · refine (HG4.out.block w.heap.size (by simp; omega) (fun e => by have := (HOWN.out.lt _ e.symm).1; omega)).trans ?_
                  exact (Below.heap_alloc _ _ _ (by omega)).trans (cells_below (cells_below HBOX.out HBD.out) HB3.out)
              case measure => simp [intOf]; omega
          · have hkl : k = g.ops.length := by omega
            have hI : ¬ (k : Int) < (g.ops.length : Int) := by omega
            have ho := HOWN.out
            rw [hkl, List.take_length] at ho
            obtain ⟨A', cap, rfl, hsl, _⟩ := slS_own ho
            have HSL := Lib.hid hsl
            have HKL := Lib.hid hkl
            clear ho hsl hkl h100 hk hlt hl1 hl2 hi hz0 hz1 hz2
            generalize hLL : g.ops.map Dc.nm = LL at *
            have HLL := Lib.hid hLL
            clear hLL
            go_wp2_with fail
            refine (diffNames_any A' cap LL _ HSL.out ?_).mono ?_
            · rw [← HLL.out]
              refine ⟨by rw [List.length_map]; exact HOK.out.2.1, fun s hs => ?_⟩
              obtain ⟨d, hd, rfl⟩ := List.mem_map.1 hs
              exact (HOK.out.2.2 d hd).1
            rintro e w3 ⟨rfl, hb3⟩
            have HB3 := Lib.hid hb3
            clear hb3
            go_wp2
            go_ret
            refine ⟨?_, HBW.out.trans (HB3.out.mono HBW.out.size)⟩
            have h4 := HALL.out
            rw [HKL.out, List.take_length] at h4
            rw [valid_last H40.out H100.out HDF.out h4, HLL.out]; rfl
end Go.Proofs.YthbcfcbonmphfaaGreatDoor
