/- The reference's ValidSignature. -/
import Derived.BigQuiet
import Derived.Deep.QuietTactic
import Derived.Deep.RegionWith
import Derived.Deep.CutBlock
import Derived.Deep.DeepCutAuto
import Derived.Test.YthbcfcbonmphfaaGreatDoorTermGBundle
import Derived.Test.YthbcfcbonmphfaaGreatDoorLexEBundle
/- The reference's find, Find, SameNames. -/
namespace Go.Proofs.YthbcfcbonmphfaaGreatDoor
open Go.RowKit Go.Shelf
set_option maxRecDepth 100000

/-- The index of the first that is so; -1 if none is. -/
def idxL {α : Type} (p : α → Bool) : Nat → List α → Int
  | _, [] => -1
  | k, x :: L => if p x then k else idxL p (k + 1) L
theorem idxL_at {α : Type} {p : α → Bool} {L : List α} {k : Nat} {x : α} (hx : L[k]? = some x) : idxL p k (L.drop k) = if p x then (k : Int) else idxL p (k + 1) (L.drop (k + 1)) := by
  obtain ⟨h1, e1⟩ := List.getElem?_eq_some_iff.1 hx
  rw [List.drop_eq_getElem_cons h1, e1, idxL]
theorem idxL_none {α : Type} {p : α → Bool} : ∀ (L : List α) (k : Nat), L.any p = false → idxL p k L = -1
  | [], k, _ => rfl
  | x :: L, k, h => by
    rw [List.any_cons, Bool.or_eq_false_iff] at h
    rw [idxL, if_neg (by rw [h.1]; exact Bool.false_ne_true), idxL_none L (k + 1) h.2]
theorem idxL_some {α : Type} {p : α → Bool} : ∀ (L : List α) (k : Nat), L.any p = true → (k : Int) ≤ idxL p k L
  | [], k, h => by cases h
  | x :: L, k, h => by
    rw [idxL]
    by_cases hx : p x = true
    · rw [if_pos hx]; exact Int.le_refl _
    · rw [if_neg hx]
      rw [List.any_cons, Bool.or_eq_true] at h
      have := idxL_some L (k + 1) (h.resolve_left hx)
      omega
theorem idxL_neg {α : Type} {p : α → Bool} (L : List α) : decide (idxL p 0 L < 0) = !L.any p := by
  cases h : L.any p with
  | false => rw [idxL_none L 0 h]; rfl
  | true =>
    have := idxL_some L 0 h
    exact decide_eq_false (by omega)
theorem idxL_pos {α : Type} {p : α → Bool} (L : List α) : decide (0 ≤ idxL p 0 L) = L.any p := by
  cases h : L.any p with
  | false => rw [idxL_none L 0 h]; rfl
  | true =>
    have := idxL_some L 0 h
    exact decide_eq_true (by omega)
theorem idxL_le {α : Type} {p : α → Bool} : ∀ (L : List α) (k : Nat), idxL p k L < ((k + L.length : Nat) : Int) ∨ idxL p k L = -1
  | [], k => .inr rfl
  | x :: L, k => by
    rw [idxL]
    split
    · left; rw [List.length_cons]; omega
    · rcases idxL_le (p := p) L (k + 1) with h | h
      · left; rw [List.length_cons]; omega
      · exact .inr h
def eqS (s : ByteArray) : ByteArray → Bool := fun x => decide (x = s)
def nmS (s : ByteArray) : Dc → Bool := fun d => decide (d.nm = s)

set_option maxHeartbeats 1000000 in
theorem find_names (A : Option Addr) (c : Nat) (L : List ByteArray) (s : ByteArray) (n₀ : Nat) (w : World) (hs : SlS n₀ w A L) (hl : L.length ≤ 1000000) :
    Calls Tryz.prog 41 #[.slice A L.length c, .string s] w fun e w' => e = .returned (.int .i64 (idxL (eqS s) 0 L)) ∧ w' = w := by
  have HS := Lib.hid hs
  clear hs
  go_enter Tryz.func41, Tryz.ntmps41
  go_wp2_with fail
  go_loopw [5] (fun i wr => ∃ k : Nat, k ≤ L.length ∧ i = .int .i64 k ∧ idxL (eqS s) 0 L = idxL (eqS s) k (L.drop k) ∧ wr = w) (fun i _ => L.length - (intOf i).toNat)
  case atStart => exact ⟨0, by omega, rfl, rfl, rfl⟩
  case round =>
    obtain ⟨k, hk, rfl, hno, rfl⟩ := hrel
    have HNO := Lib.hid hno
    clear hno
    by_cases hlt : k < L.length
    · obtain ⟨x, hx⟩ : ∃ x, L[k]? = some x := ⟨L[k]'hlt, List.getElem?_eq_getElem _⟩
      obtain ⟨b, off, rfl, hbl, hc⟩ := HS.out (by omega)
      have y := hc k x hx
      have HAT := Lib.hid (idxL_at (p := eqS s) hx)
      have hI : (k : Int) < (L.length : Int) := by omega
      clear hc hx
      by_cases he : x = s
      · have hb := str_eq_true he
        have HE : Hid (eqS s x = true) := Lib.hid (by unfold eqS; exact decide_eq_true he)
        clear he
        go_wp2_with fail
        go_ret
        exact ⟨by rw [HNO.out, HAT.out, if_pos HE.out]; rfl, rfl⟩
      · have hb := str_eq_false he
        have HE : Hid (¬ eqS s x = true) := Lib.hid (by unfold eqS; rw [decide_eq_false he]; exact Bool.false_ne_true)
        clear he
        go_wp2_with fail
        go_roundw
        case rel => exact ⟨k + 1, by omega, by go_num, by rw [HNO.out, HAT.out, if_neg HE.out], by trivial⟩
        case measure => simp [intOf]; omega
    · have hkl : k = L.length := by omega
      have HE : Hid (idxL (eqS s) 0 L = -1) := Lib.hid (by rw [HNO.out, hkl, List.drop_length]; rfl)
      have hI : ¬ (k : Int) < (L.length : Int) := by omega
      clear hkl
      go_wp2_with fail
      go_ret
      exact ⟨by rw [HE.out]; rfl, rfl⟩

set_option maxHeartbeats 1000000 in
theorem Find_any (g : Sg) (A1 : Option Addr) (c1 : Nat) (A2 : Option Addr) (c2 : Nat) (s : ByteArray) (n₀ : Nat) (w : World) (hd : SlD n₀ w A2 g.ops) (hn : n₀ ≤ w.heap.size) (hl : g.ops.length ≤ 1000000) :
    Calls Tryz.prog 42 #[GV g A1 c1 A2 c2, .string s] w fun e w' => e = .returned (.int .i64 (idxL (nmS s) 0 g.ops)) ∧ Below w.heap.size w w' := by
  have hB : Below w.heap.size w (w.alloc (.cells (gcells g A1 c1 A2 c2) 25)) := (Below.refl _ _).alloc (Nat.le_refl _) _
  have HD := Lib.hid (hd.later (hB.mono hn))
  obtain ⟨⟨x0, x1⟩, _⟩ := blk2 (heap_alloc_new w (.cells (gcells g A1 c1 A2 c2) 25))
  have HB := Lib.hid hB
  clear hd hB
  unfold GV
  go_enter Tryz.func42, Tryz.ntmps42
  go_upto_region 1 with fail
  generalize w.alloc (.cells #[.slice A1 g.sorts.length c1, .slice A2 g.ops.length c2] 25) = W0 at HD HB x0 x1 ⊢
  go_wp2_with fail
  go_loopw [5] (fun i wr => ∃ k : Nat, k ≤ g.ops.length ∧ i = .int .i64 k ∧ idxL (nmS s) 0 g.ops = idxL (nmS s) k (g.ops.drop k) ∧ wr = W0) (fun i _ => g.ops.length - (intOf i).toNat)
  case atStart => exact ⟨0, by omega, rfl, rfl, rfl⟩
  case round =>
    obtain ⟨k, hk, rfl, hno, rfl⟩ := hrel
    have HNO := Lib.hid hno
    clear hno
    by_cases hlt : k < g.ops.length
    · obtain ⟨x, hx⟩ : ∃ x, g.ops[k]? = some x := ⟨g.ops[k]'hlt, List.getElem?_eq_getElem _⟩
      obtain ⟨b, off, rfl, hbl, hc⟩ := HD.out (by omega)
      obtain ⟨A', c', y0, y1, y2, _⟩ := hc k x hx
      have HAT := Lib.hid (idxL_at (p := nmS s) hx)
      have hI : (k : Int) < (g.ops.length : Int) := by omega
      clear hc hx
      by_cases he : x.nm = s
      · have hb := str_eq_true he
        have HE : Hid (nmS s x = true) := Lib.hid (by unfold nmS; exact decide_eq_true he)
        clear he
        go_wp2_with fail
        go_ret
        exact ⟨by rw [HNO.out, HAT.out, if_pos HE.out]; rfl, HB.out⟩
      · have hb := str_eq_false he
        have HE : Hid (¬ nmS s x = true) := Lib.hid (by unfold nmS; rw [decide_eq_false he]; exact Bool.false_ne_true)
        clear he
        go_wp2_with fail
        go_roundw
        case rel => exact ⟨k + 1, by omega, by go_num, by rw [HNO.out, HAT.out, if_neg HE.out], by trivial⟩
        case measure => simp [intOf]; omega
    · have hkl : k = g.ops.length := by omega
      have HE : Hid (idxL (nmS s) 0 g.ops = -1) := Lib.hid (by rw [HNO.out, hkl, List.drop_length]; rfl)
      have hI : ¬ (k : Int) < (g.ops.length : Int) := by omega
      clear hkl
      go_wp2_with fail
      go_ret
      exact ⟨by rw [HE.out]; rfl, HB.out⟩

end Go.Proofs.YthbcfcbonmphfaaGreatDoor
namespace Go.Proofs.YthbcfcbonmphfaaGreatDoor
open Go.RowKit Go.Shelf
set_option maxRecDepth 100000

theorem find_n (A : Option Addr) (c n : Nat) (L : List ByteArray) (s : ByteArray) (n₀ : Nat) (w : World) (hn : L.length = n) (hs : SlS n₀ w A L) (hl : n ≤ 1000000) :
    Calls Tryz.prog 41 #[.slice A n c, .string s] w fun e w' => e = .returned (.int .i64 (idxL (eqS s) 0 L)) ∧ w' = w := by
  subst hn
  exact find_names A c L s n₀ w hs hl
theorem SlS.take {n₀ : Nat} {w : World} {A : Option Addr} {L : List ByteArray} (h : SlS n₀ w A L) (n : Nat) : SlS n₀ w A (L.take n) := fun hl => by
  obtain ⟨b, off, rfl, hb, hc⟩ := h (by rw [List.length_take] at hl; omega)
  refine ⟨b, off, rfl, hb, fun i x hi => hc i x ?_⟩
  rw [List.getElem?_take] at hi
  split at hi
  · exact hi
  · cases hi
theorem eqS_mem (s : ByteArray) (L : List ByteArray) : L.any (eqS s) = memS s L := rfl
/-- Names that are so far different. -/
def okNs (L : List ByteArray) : Prop := (∀ s, s ∈ L → isName s.toList = true) ∧ L.Nodup
theorem okNs_diff {L : List ByteArray} (h : okNs L) : diffL L = true := by
  unfold diffL
  rw [List.all_eq_true.2 h.1, decide_eq_true h.2]; rfl
theorem diff_name {L : List ByteArray} {s : ByteArray} (hs : s ∈ L) (h : isName s.toList = false) : diffL L = false := by
  unfold diffL
  have : L.all (fun s => isName s.toList) = false := by rw [List.all_eq_false]; exact ⟨s, hs, by rw [h]; exact Bool.false_ne_true⟩
  rw [this]; rfl
theorem diff_dup {L : List ByteArray} {k : Nat} {s : ByteArray} (hk : L[k]? = some s) (h : s ∈ L.take k) : diffL L = false := by
  unfold diffL
  have : ¬ L.Nodup := fun hn => by
    obtain ⟨hlt, e⟩ := List.getElem?_eq_some_iff.1 hk
    have e2 : L = L.take k ++ L.drop k := (List.take_append_drop k L).symm
    rw [e2] at hn
    have hd : s ∈ L.drop k := by rw [List.drop_eq_getElem_cons hlt, e]; exact List.mem_cons_self
    exact (List.nodup_append.1 hn).2.2 s h s hd rfl
  rw [decide_eq_false this, Bool.and_false]
theorem okNs_snoc {L : List ByteArray} {s : ByteArray} (h : okNs L) (h1 : isName s.toList = true) (h2 : ¬ s ∈ L) : okNs (L ++ [s]) := by
  refine ⟨fun x hx => ?_, ?_⟩
  · rcases List.mem_append.1 hx with hx | hx
    · exact h.1 x hx
    · rw [List.mem_singleton.1 hx]; exact h1
  · rw [List.nodup_append]
    refine ⟨h.2, by simp, fun a ha b hb e => ?_⟩
    rw [List.mem_singleton.1 hb] at e
    exact h2 (e ▸ ha)
theorem take_snoc {α : Type} {L : List α} {k : Nat} {x : α} (h : L[k]? = some x) : L.take (k + 1) = L.take k ++ [x] := by rw [List.take_add_one, h]; rfl

/-- The box of the signature. -/
structure VS (g : Sg) (A1 : Option Addr) (c1 : Nat) (A2 : Option Addr) (c2 : Nat) (w w' : World) : Prop where
  below : Below w.heap.size w w'
  bs : w'.heap[w.heap.size]? = some (.cells (gcells g A1 c1 A2 c2) 25 (0, 0))
theorem VS.next {g : Sg} {A1 : Option Addr} {c1 : Nat} {A2 : Option Addr} {c2 : Nat} {w w1 w2 : World} (h : VS g A1 c1 A2 c2 w w1) (hb : Below w1.heap.size w1 w2) : VS g A1 c1 A2 c2 w w2 := ⟨h.below.trans (hb.mono h.below.size), cells_below h.bs hb⟩
theorem VS.drew {g : Sg} {A1 : Option Addr} {c1 : Nat} {A2 : Option Addr} {c2 : Nat} {w w1 : World} (h : VS g A1 c1 A2 c2 w w1) : VS g A1 c1 A2 c2 w w1.drew := ⟨h.below.drew, h.bs⟩

theorem valid_diff2 {g : Sg} (h : diffL (g.ops.map Dc.nm) = false) : validSg g = false := by unfold validSg; rw [h, Bool.and_false]
theorem first_at {α : Type} {p : α → Bool} : ∀ (L : List α) (k i : Nat) (x : α), L[i]? = some x → p x = true → ((L.take i).any p = false → idxL p k L = ((k + i : Nat) : Int)) ∧ ((L.take i).any p = true → idxL p k L ≠ ((k + i : Nat) : Int))
  | [], k, i, x, h, _ => by simp at h
  | y :: L, k, 0, x, h, hp => by
    simp at h
    subst h
    refine ⟨fun _ => ?_, fun h => ?_⟩
    · rw [idxL, if_pos hp]; rfl
    · simp at h
  | y :: L, k, i + 1, x, h, hp => by
    have ih := first_at L (k + 1) i x (by simpa using h) hp
    rw [List.take_succ_cons, List.any_cons]
    cases hy : p y with
    | true =>
      refine ⟨fun h => ?_, fun _ => ?_⟩
      · simp at h
      · rw [idxL, if_pos hy]; omega
    | false =>
      rw [Bool.false_or, idxL, if_neg (by rw [hy]; exact Bool.false_ne_true)]
      have e : k + 1 + i = k + (i + 1) := by omega
      rw [e] at ih
      exact ih
theorem nmS_any (s : ByteArray) (L : List Dc) : L.any (nmS s) = memS s (L.map Dc.nm) := by
  unfold memS nmS
  rw [List.any_map]
  rfl
theorem first_yes {L : List Dc} {i : Nat} {d : Dc} (h : L[i]? = some d) (hm : ¬ d.nm ∈ (L.take i).map Dc.nm) : idxL (nmS d.nm) 0 L = (i : Int) := by
  have := (first_at (p := nmS d.nm) L 0 i d h (by unfold nmS; simp)).1 (by rw [nmS_any, memS_false hm])
  simpa using this
theorem first_no {L : List Dc} {i : Nat} {d : Dc} (h : L[i]? = some d) (hm : d.nm ∈ (L.take i).map Dc.nm) : idxL (nmS d.nm) 0 L ≠ (i : Int) := by
  have := (first_at (p := nmS d.nm) L 0 i d h (by unfold nmS; simp)).2 (by rw [nmS_any, memS_true hm])
  simpa using this
theorem res_bad {sorts : List ByteArray} {d : Dc} (h : ¬ d.res ∈ sorts) : validDc sorts d = false := by
  unfold validDc; rw [memS_false h, Bool.and_false]
theorem dc_good {sorts : List ByteArray} {d : Dc} (h1 : ¬ 6 < d.args.length) (h2 : ∀ x, x ∈ d.args → x ∈ sorts) (h3 : d.res ∈ sorts) : validDc sorts d = true := by
  unfold validDc
  rw [decide_eq_true (show d.args.length ≤ 6 by omega), List.all_eq_true.2 (fun x hx => memS_true (h2 x hx)), memS_true h3]; rfl
theorem sg_good {g : Sg} (h1 : ¬ 40 < g.sorts.length) (h2 : ¬ 100 < g.ops.length) (h3 : okNs g.sorts) (h4 : ∀ d, d ∈ g.ops → validDc g.sorts d = true) (h5 : okNs (g.ops.map Dc.nm)) : validSg g = true := by
  rw [valid_last h1 h2 (okNs_diff h3) h4, okNs_diff h5]
theorem map_take_at {L : List Dc} {i : Nat} {d : Dc} (h : L[i]? = some d) : (L.map Dc.nm)[i]? = some d.nm := by rw [List.getElem?_map, h]; rfl
/-- The box of a declaration. -/
structure VO (d : Dc) (A : Option Addr) (c b : Nat) (w : World) : Prop where
  box : w.heap[b]? = some (.cells #[.string d.nm, .slice A d.args.length c, .string d.res] 61 (0, 0))
  args : SlS w.heap.size w A d.args
theorem VO.next {d : Dc} {A : Option Addr} {c b : Nat} {w w1 : World} (h : VO d A c b w) (hb : Below w.heap.size w w1) : VO d A c b w1 := ⟨cells_below h.box hb, (h.args.later hb).mono hb.size⟩
theorem VO.drewN {d : Dc} {A : Option Addr} {c b : Nat} {w : World} (h : VO d A c b w) (q : Nat) : VO d A c b (w.drewN q) := ⟨h.box, h.args⟩
theorem VS.drewN {g : Sg} {A1 : Option Addr} {c1 : Nat} {A2 : Option Addr} {c2 : Nat} {w w1 : World} (h : VS g A1 c1 A2 c2 w w1) (q : Nat) : VS g A1 c1 A2 c2 w (w1.drewN q) := ⟨below_drewN h.below q, h.bs⟩

set_option maxHeartbeats 8000000 in
theorem refValidSignature_any (g : Sg) (A1 : Option Addr) (c1 : Nat) (A2 : Option Addr) (c2 : Nat) (w : World) (hs : SlS w.heap.size w A1 g.sorts) (hd : SlD w.heap.size w A2 g.ops) (hok : okG g) (hcs : g.sorts.length ≤ c1) (hcm : c1 ≤ maxLen) :
    Calls Tryz.prog 10 #[GV g A1 c1 A2 c2] w fun e w' => e = .returned (.bool (validSg g)) ∧ Below w.heap.size w w' := by
  have hB : Below w.heap.size w (w.alloc (.cells (gcells g A1 c1 A2 c2) 25)) := (Below.refl _ _).alloc (Nat.le_refl _) _
  have H0 : Hid (VS g A1 c1 A2 c2 w (w.alloc (.cells (gcells g A1 c1 A2 c2) 25))) := Lib.hid ⟨hB, heap_alloc_new w _⟩
  have HS := Lib.hid hs
  have HD := Lib.hid hd
  have HOK := Lib.hid hok
  have hls := hok.1.1
  have hlo := hok.2.1
  unfold maxLen at hls hlo
  have hc1I : (c1 : Int) ≤ 9223372036854775807 := by unfold maxLen at hcm; omega
  clear hs hd hok hB
  unfold GV
  go_enter Tryz.func10, Tryz.ntmps10
  go_upto_region 1 with fail
  generalize w.alloc (.cells #[.slice A1 g.sorts.length c1, .slice A2 g.ops.length c2] 25) = W0 at H0 ⊢
  obtain ⟨⟨x0, x1⟩, _⟩ := blk2 H0.out.bs
  by_cases h1 : 40 < g.sorts.length
  · have e1 : decide ((40 : Int) < (g.sorts.length : Int)) = true := decide_eq_true (by omega)
    have HR := Lib.hid (valid_sorts h1)
    clear h1
    go_wp2_with fail
    go_ret
    exact ⟨ret_bool (by rw [HR.out]), H0.out.below⟩
  have e1 : decide ((40 : Int) < (g.sorts.length : Int)) = false := decide_eq_false (by omega)
  by_cases h2 : 100 < g.ops.length
  · have e2 : decide ((100 : Int) < (g.ops.length : Int)) = true := decide_eq_true (by omega)
    have HR := Lib.hid (valid_ops h2)
    clear h1 h2
    go_wp2_with fail
    go_ret
    exact ⟨ret_bool (by rw [HR.out]), H0.out.below⟩
  have e2 : decide ((100 : Int) < (g.ops.length : Int)) = false := decide_eq_false (by omega)
  go_wp2_with fail
  clear x0 x1 e1 e2
  go_loopw [3] (fun y wr => ∃ k : Nat, y = .int .i64 k ∧ k ≤ g.sorts.length ∧ okNs (g.sorts.take k) ∧ VS g A1 c1 A2 c2 w wr) (fun y _ => g.sorts.length - (intOf y).toNat)
  case atStart => exact ⟨0, rfl, Nat.zero_le _, ⟨by simp, by simp⟩, H0.out⟩
  case round =>
    clear H0
    obtain ⟨k, rfl, hk, hokn, hv⟩ := hrel
    have HV := Lib.hid hv
    have HN := Lib.hid hokn
    obtain ⟨⟨x0, x1⟩, _⟩ := blk2 hv.bs
    clear hv hokn
    by_cases hlt : k < g.sorts.length
    · obtain ⟨x, hx⟩ : ∃ x, g.sorts[k]? = some x := ⟨g.sorts[k]'hlt, List.getElem?_eq_getElem _⟩
      have HX := Lib.hid hx
      have hI : (k : Int) < (g.sorts.length : Int) := by omega
      have hI' : decide ((k : Int) < (g.sorts.length : Int)) = true := decide_eq_true hI
      have hxm : x.size ≤ maxLen := HOK.out.1.2 x (List.mem_of_getElem? hx)
      have HXM := Lib.hid hxm
      obtain ⟨sb, so, rfl, hsb, hsc⟩ := HS.out (by omega)
      have HSC := Lib.hid (hsc k x hx)
      have y := (HV.out.below.cell (p := ⟨sb, _, none⟩) hsb).trans (hsc k x hx)
      have HF := Lib.hid (fun (W : World) (h : VS g (some ⟨sb, so, none⟩) c1 A2 c2 w W) => (show (W.cell? ⟨sb, so + k, none⟩ = some (.string x) ∧ W.cell? ⟨w.heap.size, 0, none⟩ = some (.slice (some ⟨sb, so, none⟩) g.sorts.length c1)) ∧ SlS W.heap.size W (some ⟨sb, so, none⟩) (g.sorts.take k) from
        ⟨⟨(h.below.cell (p := ⟨sb, _, none⟩) hsb).trans HSC.out, (blk2 h.bs).1.1⟩, ((HS.out.later h.below).mono h.below.size).take k⟩))
      have hkl : (g.sorts.take k).length = k := by rw [List.length_take]; omega
      have HKL := Lib.hid hkl
      have hkc : (k : Int) ≤ (c1 : Int) := by omega
      have hk0 : (0 : Int) ≤ (k : Int) := by omega
      clear hx hxm hsc hkl
      go_upto_region 6 with fail
      go_cut [43] from 17 to 43 (fun v wx => v = .bool (!isName x.toList || memS x (g.sorts.take k)) ∧ VS g (some ⟨sb, so, none⟩) c1 A2 c2 w wx)
      case first =>
        cases hn : isName x.toList
        · have HNM := Lib.hid hn
          clear hn
          refine wp_region_any (by kernel_rfl) ?_
          change wpAny _ _ _ _ _ _ _ (World.drew _)
          refine wpAny_take (i := 0) (v := .pointer (some ⟨w.heap.size, 0, none⟩)) rfl (by kernel_rfl) (by kernel_rfl) (by kernel_rfl) (fun _ _ _ h => h) (Or.inl ⟨by rfl, fun w => by go_simp⟩) ?_
          refine wpAny_take (i := 2) (v := .int .i64 k) rfl (by kernel_rfl) (by kernel_rfl) (by kernel_rfl) (fun _ _ _ h => h) (Or.inl ⟨by rfl, fun w => by go_simp⟩) ?_
          refine wpAny_ready (rs := [1]) (by kernel_rfl) (by simp) ?_
          refine AllReady.cons rfl (fun K hK => ?_) AllReady.nil
          go_simp
          refine hK _ _ ?_
          clear hK K
          refine wpAny_ready (rs := [3]) (by kernel_rfl) (by simp) ?_
          refine AllReady.cons rfl (fun K hK => ?_) AllReady.nil
          go_simp
          refine hK _ _ ?_
          clear hK K
          refine wpAny_ready (rs := [4]) (by kernel_rfl) (by simp) ?_
          refine AllReady.cons rfl (fun K hK => ?_) AllReady.nil
          go_simp
          refine hK _ _ ?_
          clear hK K
          refine wpAny_ready (rs := [5]) (by kernel_rfl) (by simp) ?_
          refine AllReady.cons rfl (fun K hK => ?_) AllReady.nil
          go_simp
          go_wp2_with (go_at_call 40; refine (refIsName_any x _ HXM.out).mono ?_; rintro e w5 ⟨rfl, hb5⟩; rw [HNM.out]; have HV5 := Lib.hid (HV.out.drew.next hb5); clear hb5)
          first | (refine hK _ _ ?_; clear hK K) | skip
          refine wpAny_ready (rs := [6]) (by kernel_rfl) (by simp) ?_
          refine AllReady.cons rfl (fun K hK => ?_) AllReady.nil
          go_simp
          refine hK _ _ ?_
          clear hK K
          refine wpAny_ready (rs := [7]) (by kernel_rfl) (by simp) ?_
          refine AllReady.cons rfl (fun K hK => ?_) AllReady.nil
          go_simp
          refine hK _ _ ?_
          clear hK K
          refine wpAny_take (i := 8) (oi := ⟨some 32, _, _, _, _, _⟩) (v := undef) rfl (by kernel_rfl) (by kernel_rfl) (by kernel_rfl) (fun _ _ _ h => h) (Or.inr ⟨by kernel_rfl, rfl⟩) ?_
          refine wpAny_take (i := 9) (oi := ⟨some 33, _, _, _, _, _⟩) (v := undef) rfl (by kernel_rfl) (by kernel_rfl) (by kernel_rfl) (fun _ _ _ h => h) (Or.inr ⟨by kernel_rfl, rfl⟩) ?_
          refine wpAny_take (i := 10) (oi := ⟨some 34, _, _, _, _, _⟩) (v := undef) rfl (by kernel_rfl) (by kernel_rfl) (by kernel_rfl) (fun _ _ _ h => h) (Or.inr ⟨by kernel_rfl, rfl⟩) ?_
          refine wpAny_take (i := 11) (oi := ⟨some 35, _, _, _, _, _⟩) (v := undef) rfl (by kernel_rfl) (by kernel_rfl) (by kernel_rfl) (fun _ _ _ h => h) (Or.inr ⟨by kernel_rfl, rfl⟩) ?_
          refine wpAny_take (i := 12) (oi := ⟨some 36, _, _, _, _, _⟩) (v := undef) rfl (by kernel_rfl) (by kernel_rfl) (by kernel_rfl) (fun _ _ _ h => h) (Or.inr ⟨by kernel_rfl, rfl⟩) ?_
          refine wpAny_take (i := 13) (oi := ⟨some 37, _, _, _, _, _⟩) (v := undef) rfl (by kernel_rfl) (by kernel_rfl) (by kernel_rfl) (fun _ _ _ h => h) (Or.inr ⟨by kernel_rfl, rfl⟩) ?_
          refine wpAny_take (i := 14) (oi := ⟨some 38, _, _, _, _, _⟩) (v := undef) rfl (by kernel_rfl) (by kernel_rfl) (by kernel_rfl) (fun _ _ _ h => h) (Or.inr ⟨by kernel_rfl, rfl⟩) ?_
          refine wpAny_take (i := 15) (oi := ⟨some 39, _, _, _, _, _⟩) (v := undef) rfl (by kernel_rfl) (by kernel_rfl) (by kernel_rfl) (fun _ _ _ h => h) (Or.inr ⟨by kernel_rfl, rfl⟩) ?_
          refine wpAny_take (i := 16) (oi := ⟨some 40, _, _, _, _, _⟩) (v := undef) rfl (by kernel_rfl) (by kernel_rfl) (by kernel_rfl) (fun _ _ _ h => h) (Or.inr ⟨by kernel_rfl, rfl⟩) ?_
          refine wpAny_take (i := 17) (oi := ⟨some 41, _, _, _, _, _⟩) (v := undef) rfl (by kernel_rfl) (by kernel_rfl) (by kernel_rfl) (fun _ _ _ h => h) (Or.inr ⟨by kernel_rfl, rfl⟩) ?_
          refine wpAny_take (i := 18) (oi := ⟨some 42, _, _, _, _, _⟩) (v := undef) rfl (by kernel_rfl) (by kernel_rfl) (by kernel_rfl) (fun _ _ _ h => h) (Or.inr ⟨by kernel_rfl, rfl⟩) ?_
          refine wpAny_ready (rs := [19]) (by kernel_rfl) (by simp) ?_
          refine AllReady.cons rfl (fun K hK => ?_) AllReady.nil
          go_simp
          refine hK _ _ ?_
          clear hK K
          refine wpAny_done (by kernel_rfl) ?_ _
          all_goals
            go_wp2_with fail
            go_meet
            exact ⟨by rw [HNM.out]; rfl, HV5.out⟩
        · have HNM := Lib.hid hn
          clear hn
          go_region_with (first
            | (go_at_call 40; refine (refIsName_any x _ HXM.out).mono ?_; rintro e w5 ⟨rfl, hb5⟩; rw [HNM.out]; have HV5 := Lib.hid (HV.out.drew.next hb5); obtain ⟨⟨z0, z1⟩, hz⟩ := HF.out _ HV5.out; have HZ := Lib.hid hz; clear hb5 hz)
            | (go_at_call 41; refine (find_n _ _ k (g.sorts.take k) x _ w5 HKL.out HZ.out (by omega)).mono ?_; rintro e w6 ⟨rfl, rfl⟩))
          all_goals
            go_wp2_with fail
            go_meet
            exact ⟨by rw [idxL_pos, eqS_mem, HNM.out]; rfl, HV5.out⟩
      case rest =>
        obtain ⟨rfl, hv⟩ := hcut
        have HV2 := Lib.hid hv
        clear hv HV
        cases hb : (!isName x.toList || memS x (g.sorts.take k))
        · obtain ⟨hb1, hb2⟩ := Bool.or_eq_false_iff.1 hb
          have HB1 : Hid (isName x.toList = true) := Lib.hid (by simpa using hb1)
          have HB2 : Hid (¬ x ∈ g.sorts.take k) := Lib.hid (fun h => by rw [memS_true h] at hb2; cases hb2)
          clear hb hb1 hb2
          go_wp2_with fail
          go_roundw
          case rel => exact ⟨k + 1, by go_num, hlt, by rw [take_snoc HX.out]; exact okNs_snoc HN.out HB1.out HB2.out, HV2.out⟩
          case measure => simp [intOf]; omega
        · have HR : Hid (validSg g = false) := Lib.hid (valid_diff (by
            rcases Bool.or_eq_true_iff.1 hb with h | h
            · exact diff_name (List.mem_of_getElem? HX.out) (by simpa using h)
            · exact diff_dup HX.out ((memS_iff _ _).1 h)))
          clear hb
          go_wp2_with fail
          go_ret
          exact ⟨ret_bool (by rw [HR.out]), HV2.out.below⟩
    · have hkl : k = g.sorts.length := by omega
      have HN2 : Hid (okNs g.sorts) := Lib.hid (by have := HN.out; rw [hkl, List.take_length] at this; exact this)
      have hI : ¬ (k : Int) < (g.sorts.length : Int) := by omega
      have hI' : decide ((k : Int) < (g.sorts.length : Int)) = false := decide_eq_false hI
      clear hkl HN
      go_wp2_with fail
      clear x0 x1
      go_loopw [4] (fun y wr => ∃ i : Nat, y = .int .i64 i ∧ i ≤ g.ops.length ∧ (∀ d, d ∈ g.ops.take i → validDc g.sorts d = true) ∧ okNs ((g.ops.take i).map Dc.nm) ∧ VS g A1 c1 A2 c2 w wr) (fun y _ => g.ops.length - (intOf y).toNat)
      case atStart => exact ⟨0, rfl, Nat.zero_le _, by simp, ⟨by simp, by simp⟩, HV.out⟩
      case round =>
        clear HV hI hI'
        obtain ⟨i, rfl, hi, hdc, hnn, hv⟩ := hrel
        have HV := Lib.hid hv
        have HDC := Lib.hid hdc
        have HNN := Lib.hid hnn
        obtain ⟨⟨x0, x1⟩, _⟩ := blk2 hv.bs
        clear hv hdc hnn
        by_cases hlt : i < g.ops.length
        · obtain ⟨d, hd⟩ : ∃ d, g.ops[i]? = some d := ⟨g.ops[i]'hlt, List.getElem?_eq_getElem _⟩
          obtain ⟨b, off, rfl, hbl, hc⟩ := (HD.out.later HV.out.below) (by omega)
          obtain ⟨A', c', d0, d1, d2, d3⟩ := hc i d hd
          have HDD := Lib.hid hd
          have HOD := Lib.hid (HOK.out.2.2 d (List.mem_of_getElem? hd))
          have hla := HOD.out.2.2.1
          unfold maxLen at hla
          have hI : (i : Int) < (g.ops.length : Int) := by omega
          have hI' : decide ((i : Int) < (g.ops.length : Int)) = true := decide_eq_true hI
          have hbO : Below wr.heap.size wr (wr.alloc (.cells #[.string d.nm, .slice A' d.args.length c', .string d.res] 61)) := (Below.refl _ _).alloc (Nat.le_refl _) _
          have HV1 := Lib.hid (HV.out.next hbO)
          have HO1 : Hid (VO d A' c' wr.heap.size (wr.alloc (.cells #[.string d.nm, .slice A' d.args.length c', .string d.res] 61))) := Lib.hid ⟨heap_alloc_new _ _, (d3.mono HV.out.below.size |>.later hbO).mono hbO.size⟩
          have HFS := Lib.hid (fun (W : World) (h : VS g A1 c1 (some ⟨b, off, none⟩) c2 w W) => (show SlS W.heap.size W A1 g.sorts ∧ SlD W.heap.size W (some ⟨b, off, none⟩) g.ops from
            ⟨(HS.out.later h.below).mono h.below.size, (HD.out.later h.below).mono h.below.size⟩))
          obtain ⟨ob, hob⟩ : ∃ ob, ob = wr.heap.size := ⟨_, rfl⟩
          rw [← hob] at HO1
          clear hc hd d3 HV hbO
          go_upto_region 12 with fail
          rw [← hob]
          generalize wr.alloc (.cells #[.string d.nm, .slice A' d.args.length c', .string d.res] 61) = W1 at HV1 HO1 ⊢
          clear hob x0 x1 d0 d1 d2
          obtain ⟨⟨x0, x1⟩, _⟩ := blk2 HV1.out.bs
          obtain ⟨⟨z0, z1, z2⟩, _⟩ := blk3 HO1.out.box
          by_cases hn : isName d.nm.toList = true
          rotate_left
          · have hn' : isName d.nm.toList = false := by simpa using hn
            have HNF := Lib.hid hn'
            have HR : Hid (validSg g = false) := Lib.hid (valid_diff2 (diff_name (List.mem_of_getElem? (map_take_at HDD.out)) hn'))
            clear hn hn'
            go_wp2_with fail
            refine (refIsName_any d.nm _ HOD.out.1).mono ?_
            rintro e w5 ⟨rfl, hb5⟩
            rw [HNF.out]
            have HV5 := Lib.hid (HV1.out.next hb5)
            clear hb5
            go_wp2_with fail
            go_ret
            exact ⟨ret_bool (by rw [HR.out]), HV5.out.below⟩
          have HNF := Lib.hid hn
          clear hn
          go_wp2_with fail
          refine (refIsName_any d.nm _ HOD.out.1).mono ?_
          rintro e w5 ⟨rfl, hb5⟩
          rw [HNF.out]
          have HV5 := Lib.hid (HV1.out.next hb5)
          have HO5 := Lib.hid (HO1.out.next hb5)
          clear hb5 x0 x1 z0 z1 z2 HV1 HO1
          obtain ⟨⟨x0, x1⟩, _⟩ := blk2 HV5.out.bs
          obtain ⟨⟨z0, z1, z2⟩, _⟩ := blk3 HO5.out.box
          have HC := Lib.hid (Find_any g A1 c1 (some ⟨b, off, none⟩) c2 d.nm w5.heap.size w5 (HFS.out _ HV5.out).2 (Nat.le_refl _) (by omega))
          unfold GV at HC
          go_wp2_with fail
          refine HC.out.mono ?_
          rintro e w6 ⟨rfl, hb6⟩
          have HV6 := Lib.hid (HV5.out.next hb6)
          have HO6 := Lib.hid (HO5.out.next hb6)
          clear hb6 x0 x1 z0 z1 z2 HV5 HO5 HC
          obtain ⟨⟨x0, x1⟩, _⟩ := blk2 HV6.out.bs
          obtain ⟨⟨z0, z1, z2⟩, _⟩ := blk3 HO6.out.box
          by_cases hm : d.nm ∈ (g.ops.take i).map Dc.nm
          · have hne : (idxL (nmS d.nm) 0 g.ops != (i : Int)) = true := bne_iff_ne.2 (first_no HDD.out hm)
            have HR : Hid (validSg g = false) := Lib.hid (valid_diff2 (diff_dup (map_take_at HDD.out) (by rw [← List.map_take]; exact hm)))
            clear hm
            go_wp2_with fail
            go_ret
            exact ⟨ret_bool (by rw [HR.out]), HV6.out.below⟩
          have hee : idxL (nmS d.nm) 0 g.ops = (i : Int) := first_yes HDD.out hm
          have hne : ((i : Int) != (i : Int)) = false := bne_self_eq_false _
          have HNO := Lib.hid hm
          rw [hee]
          clear hm hee
          by_cases h6 : 6 < d.args.length
          · have e6 : decide ((6 : Int) < (d.args.length : Int)) = true := decide_eq_true (by omega)
            have HR : Hid (validSg g = false) := Lib.hid (valid_bad HDD.out (args_long h6))
            clear h6
            go_wp2_with fail
            go_ret
            exact ⟨ret_bool (by rw [HR.out]), HV6.out.below⟩
          have e6 : decide ((6 : Int) < (d.args.length : Int)) = false := decide_eq_false (by omega)
          have H6 := Lib.hid h6
          have HC := Lib.hid (find_names A1 c1 g.sorts d.res w6.heap.size w6 (HFS.out _ HV6.out).1 (by omega))
          have hq := idxL_neg (p := eqS d.res) g.sorts
          rw [eqS_mem] at hq
          by_cases hr : d.res ∈ g.sorts
          rotate_left
          · rw [memS_false hr] at hq
            have hq' : decide (idxL (eqS d.res) 0 g.sorts < 0) = true := hq
            have HR : Hid (validSg g = false) := Lib.hid (valid_bad HDD.out (res_bad hr))
            clear hr hq
            go_wp2_with fail
            refine HC.out.mono ?_
            rintro e w7 ⟨rfl, rfl⟩
            go_wp2_with fail
            go_ret
            exact ⟨ret_bool (by rw [HR.out]), HV6.out.below⟩
          rw [memS_true hr] at hq
          have hq' : decide (idxL (eqS d.res) 0 g.sorts < 0) = false := hq
          have HRS := Lib.hid hr
          clear hr hq
          go_wp2_with fail
          refine HC.out.mono ?_
          rintro e w7 ⟨rfl, rfl⟩
          go_wp2_with fail
          clear x0 x1 z0 z1 z2 hq' e6 hne h6 HC
          go_loopw [6] (fun y wr => ∃ k : Nat, y = .int .i64 k ∧ k ≤ d.args.length ∧ (∀ x, x ∈ d.args.take k → x ∈ g.sorts) ∧ VS g A1 c1 (some ⟨b, off, none⟩) c2 w wr ∧ VO d A' c' ob wr) (fun y _ => d.args.length - (intOf y).toNat)
          case atStart => exact ⟨0, rfl, Nat.zero_le _, by simp, HV6.out, HO6.out⟩
          case round =>
            clear HV6 HO6 hI hI'
            obtain ⟨k, rfl, hk, hin, hv, ho⟩ := hrel
            have HIN := Lib.hid hin
            have HV := Lib.hid hv
            have HO := Lib.hid ho
            obtain ⟨⟨x0, x1⟩, _⟩ := blk2 hv.bs
            obtain ⟨⟨z0, z1, z2⟩, _⟩ := blk3 ho.box
            clear hin hv ho
            by_cases hkt : k < d.args.length
            · obtain ⟨x, hx⟩ : ∃ x, d.args[k]? = some x := ⟨d.args[k]'hkt, List.getElem?_eq_getElem _⟩
              obtain ⟨ab, ao, rfl, hab, hac⟩ := HO.out.args (by omega)
              have y := hac k x hx
              have HX := Lib.hid hx
              have hI : (k : Int) < (d.args.length : Int) := by omega
              have hI' : decide ((k : Int) < (d.args.length : Int)) = true := decide_eq_true hI
              have HQ := Lib.hid (fun W : World => fun (h : SlS wr.heap.size W A1 g.sorts) => find_names A1 c1 g.sorts x wr.heap.size W h (by omega))
              have HSS := Lib.hid (HFS.out _ HV.out).1
              have hq := idxL_neg (p := eqS x) g.sorts
              rw [eqS_mem] at hq
              clear hx hac
              by_cases hm : x ∈ g.sorts
              · rw [memS_true hm] at hq
                have hq' : decide (idxL (eqS x) 0 g.sorts < 0) = false := hq
                have HM := Lib.hid hm
                clear hm hq
                go_wp2_with fail
                go_quiet ((go_at_call 41; exact Calls.quiet_of_same (HQ.out _ HSS.out)))
                go_wp2_with fail
                go_roundw
                case rel =>
                  refine ⟨k + 1, by go_num, hkt, fun z hz => ?_, HV.out.drewN _, HO.out.drewN _⟩
                  rw [List.take_add_one, HX.out] at hz
                  rcases List.mem_append.1 hz with hz | hz
                  · exact HIN.out z hz
                  · rw [List.mem_singleton.1 hz]; exact HM.out
                case measure => simp [intOf]; omega
              · rw [memS_false hm] at hq
                have hq' : decide (idxL (eqS x) 0 g.sorts < 0) = true := hq
                have HR : Hid (validSg g = false) := Lib.hid (valid_bad HDD.out (args_bad HX.out hm))
                clear hm hq
                go_wp2_with fail
                go_quiet ((go_at_call 41; exact Calls.quiet_of_same (HQ.out _ HSS.out)))
                go_wp2_with fail
                go_ret
                exact ⟨ret_bool (by rw [HR.out]), (HV.out.drewN _).below⟩
            · have hkl : k = d.args.length := by omega
              have HG : Hid (validDc g.sorts d = true) := Lib.hid (dc_good H6.out (by have := HIN.out; rw [hkl, List.take_length] at this; exact this) HRS.out)
              have hI : ¬ (k : Int) < (d.args.length : Int) := by omega
              have hI' : decide ((k : Int) < (d.args.length : Int)) = false := decide_eq_false hI
              clear hkl
              go_wp2_with fail
              go_roundw
              case rel =>
                refine ⟨i + 1, by go_num, hlt, fun z hz => ?_, ?_, HV.out⟩
                · rw [take_snoc HDD.out] at hz
                  rcases List.mem_append.1 hz with hz | hz
                  · exact HDC.out z hz
                  · rw [List.mem_singleton.1 hz]; exact HG.out
                · rw [take_snoc HDD.out, List.map_append]
                  exact okNs_snoc HNN.out HNF.out HNO.out
              case measure => simp [intOf]; omega
        · have hil : i = g.ops.length := by omega
          have HR : Hid (validSg g = true) := Lib.hid (sg_good h1 h2 HN2.out (by have := HDC.out; rw [hil, List.take_length] at this; exact this) (by have := HNN.out; rw [hil, List.take_length] at this; exact this))
          have hI : ¬ (i : Int) < (g.ops.length : Int) := by omega
          have hI' : decide ((i : Int) < (g.ops.length : Int)) = false := decide_eq_false hI
          clear hil
          go_wp2_with fail
          go_ret
          exact ⟨ret_bool (by rw [HR.out]), HV.out.below⟩
end Go.Proofs.YthbcfcbonmphfaaGreatDoor
