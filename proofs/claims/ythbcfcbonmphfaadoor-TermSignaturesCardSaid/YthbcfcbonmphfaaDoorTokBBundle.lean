/- Walks of the reference: Tokens. -/
import Derived.Test.YthbcfcbonmphfaaDoorTokABundle
import Derived.Deep.RegionWith
import Derived.Deep.DeepCutAuto
import Derived.IntWalk
import Derived.Deep.CutBlock
namespace Go.Proofs.YthbcfcbonmphfaaDoor
set_option maxRecDepth 100000
open Go.RowKit

def mvX (x c : Int) : Int := if c = 10 then x + 1 else x
def mvY (y c : Int) : Int := if c = 10 then 1 else y + 1
theorem move_any (x y c : Int) (w : World) (hx0 : 0 ≤ x) (hx : x ≤ 1000000000) (hy0 : 0 ≤ y) (hy : y ≤ 1000000000) :
    Calls Tryd.prog 64 #[.agg #[.int .i64 x, .int .i64 y], .int .u8 c] w fun e w' => e = .returned (.agg #[.int .i64 (mvX x c), .int .i64 (mvY y c)]) ∧ Below w.heap.size w w' := by
  by_cases h : c = 10
  · subst h; exact move_nl x y w hx0 hx
  · unfold mvX mvY
    rw [if_neg h, if_neg h]
    exact move_no x y c w hy0 hy (beq_eq_false_iff_ne.2 h)
/-- The memory of the reference's Tokens: what it has read, the position, the result. -/
structure UAt (w : World) (v : Value) (acc : List Tk) (wr : World) (x y : Int) : Prop where
  own : wr.ownsRow (w.heap.size + 2) 25 5 v acc.length (tksCells acc)
  at_ : wr.heap[w.heap.size + 1]? = some (.cells #[.int .i64 x, .int .i64 y] 23 (0, 0))
  res : wr.heap[w.heap.size]? = some (.cells #[.int .i64 0, .int .i64 0] 23 (0, 0))
  bel : Below w.heap.size w wr
  size : w.heap.size + 2 ≤ wr.heap.size
theorem UAt.below {w wr w1 : World} {v : Value} {acc : List Tk} {x y : Int} (h : UAt w v acc wr x y) (hb : Below wr.heap.size wr w1) : UAt w v acc w1 x y := by
  have hs := hb.size
  have h2 := h.size
  refine ⟨h.own.kept (row := none) ⟨hb.os, hb.tape, hb.output, hb.size, fun i hi _ => hb.block i hi⟩ (by cases v.ownBlock <;> simp), ?_, ?_, h.bel.trans (hb.mono (by omega)), by omega⟩
  · rw [hb.block _ (by omega)]; exact h.at_
  · rw [hb.block _ (by omega)]; exact h.res
theorem UAt.set {w wr : World} {v : Value} {acc : List Tk} {x y : Int} (h : UAt w v acc wr x y) (x' y' : Int) : UAt w v acc ((wr.setCell ⟨w.heap.size + 1, 0, none⟩ (.int .i64 x')).setCell ⟨w.heap.size + 1, 1, none⟩ (.int .i64 y')) x' y' := by
  have h2 := h.size
  refine ⟨ownsRow_setCell_below (ownsRow_setCell_below h.own (a := ⟨w.heap.size + 1, 0, none⟩) (by simp) _) (a := ⟨w.heap.size + 1, 1, none⟩) (by simp) _, ?_, ?_, ?_, by simpa using h2⟩
  · have := h.at_
    simp [World.setCell, Array.getElem?_modify, this]
  · rw [Below.heap_setCell _ _ _ _ (by simp), Below.heap_setCell _ _ _ _ (by simp)]; exact h.res
  · exact (h.bel.setCell (p := ⟨w.heap.size + 1, 0, none⟩) (by simp) _).setCell (p := ⟨w.heap.size + 1, 1, none⟩) (by simp) _
/-- What the reference's Tokens has done behind the k-th byte. -/
def UInv (s : ByteArray) (w : World) (k : Nat) (v : Value) (wr : World) (acc : List Tk) (x y : Int) : Prop :=
  UAt w v acc wr x y ∧ toks s.data.toList 1 1 = joinT acc (toks (s.data.toList.drop k) x y) ∧ 0 ≤ x ∧ 1 ≤ y ∧ x ≤ 1 + k ∧ y ≤ 1 + k ∧ acc.length ≤ k
theorem toks_move (s : ByteArray) (k : Nat) (h : k < s.size) (x y : Int) (hc : cls (s[k].toNat : Int) = 1 ∨ cls (s[k].toNat : Int) = 2) : toks (s.data.toList.drop k) x y = toks (s.data.toList.drop (k + 1)) (mvX x s[k].toNat) (mvY y s[k].toNat) := by
  rw [drop_cons s k h]
  rcases hc with hc | hc
  · have : (s[k].toNat : Int) ≠ 10 := by have := (cls_1 _).1 hc; omega
    unfold mvX mvY
    rw [if_neg this, if_neg this]
    exact toks_1 _ _ _ _ hc
  · have : (s[k].toNat : Int) = 10 := (cls_2 _).1 hc
    unfold mvX mvY
    rw [if_pos this, if_pos this]
    exact toks_2 _ _ _ _ hc
theorem uinv_blank {s : ByteArray} {w wr w1 : World} {k : Nat} {v : Value} {acc : List Tk} {x y : Int} (h : UInv s w k v wr acc x y) (hk : k < s.size) (hc : cls (s[k].toNat : Int) = 1 ∨ cls (s[k].toNat : Int) = 2) (hb : Below wr.heap.size wr w1) :
    UInv s w (k + 1) v ((w1.setCell ⟨w.heap.size + 1, 0, none⟩ (.int .i64 (mvX x s[k].toNat))).setCell ⟨w.heap.size + 1, 1, none⟩ (.int .i64 (mvY y s[k].toNat))) acc (mvX x s[k].toNat) (mvY y s[k].toNat) := by
  obtain ⟨hu, htk, b1, b2, b3, b4, b5⟩ := h
  refine ⟨(hu.below hb).set _ _, by rw [htk, toks_move s k hk x y hc], ?_, ?_, ?_, ?_, by omega⟩ <;> (first | unfold mvX | unfold mvY) <;> split <;> omega

theorem below_of_drew {wr w1 : World} (hb : Below wr.drew.heap.size wr.drew w1) : Below wr.heap.size wr w1 := ⟨hb.os, hb.tape, hb.output, hb.size, hb.block⟩
theorem nl_no (c : UInt8) (h : ((c.toNat : Int) != 10) = false) : notNl c = false := by
  have h10 : (c.toNat : Int) = 10 := by simpa using h
  have := (cls_2 (c.toNat : Int)).2 h10
  unfold notNl
  simp [this]
theorem wl_is {s : ByteArray} {k n : Nat} (hle : k + n ≤ s.size) (hn : ∀ i (h : i < s.size), k ≤ i → i < k + n → isW s[i] = true) (hend : k + n = s.size ∨ ∃ h : k + n < s.size, isW s[k + n] = false) : wl (s.data.toList.drop k) = n := by
  unfold wl
  refine takeWhile_at isW _ _ ?_ ?_ ?_
  · rw [List.all_eq_true]
    intro c hc
    obtain ⟨i, hi, rfl⟩ := List.mem_iff_getElem.1 hc
    rw [List.length_take, List.length_drop, size_toList] at hi
    rw [List.getElem_take, List.getElem_drop]
    exact hn (k + i) (by omega) (by omega) (by omega)
  · intro hlt
    rw [List.length_drop, size_toList] at hlt
    rcases hend with h | ⟨h, h2⟩
    · omega
    · rw [List.getElem?_drop, get_any isW s (k + n) h, h2]
  · rw [List.length_drop, size_toList]; omega
theorem ext_list (s : ByteArray) (k n : Nat) : (s.extract k (k + n)).data.toList = (s.data.toList.drop k).take n := by
  rw [Lib.extract_data]; congr 1; omega
theorem refClassify_some (s : ByteArray) (x y : Int) (w : World) (hs : s.size ≤ maxLen) (h0 : 0 < s.size) (k : Int) (t : List UInt8) (n : Int) (h : wordTok s.data.toList = some (k, t, n)) :
    Calls Tryd.prog 65 #[.string s, .agg #[.int .i64 x, .int .i64 y]] w fun e w' => e = .returned (.tuple #[.agg #[.int .i64 k, .string ⟨t.toArray⟩, .int .i64 n, .int .i64 x, .int .i64 y], .bool true]) ∧ Below w.heap.size w w' :=
  (refClassify_any s x y w hs h0).mono fun _ _ ⟨he, hw⟩ => ⟨by rw [he]; unfold rcV; rw [h], hw⟩
theorem refClassify_none (s : ByteArray) (x y : Int) (w : World) (hs : s.size ≤ maxLen) (h0 : 0 < s.size) (h : wordTok s.data.toList = none) :
    Calls Tryd.prog 65 #[.string s, .agg #[.int .i64 x, .int .i64 y]] w fun e w' => e = .returned (.tuple #[.agg #[.int .i64 2, .string ⟨#[]⟩, .int .i64 0, .int .i64 x, .int .i64 y], .bool false]) ∧ Below w.heap.size w w' :=
  (refClassify_any s x y w hs h0).mono fun _ _ ⟨he, hw⟩ => ⟨by rw [he]; unfold rcV; rw [h], hw⟩
theorem word_snoc (s : ByteArray) (k n : Nat) (h : ∀ i (h : i < s.size), k ≤ i → i < k + n → isW s[i] = true) (hlt : k + n < s.size) (h2 : isWI (s[k + n].toNat : Int) = true) : Hid (∀ i (h : i < s.size), k ≤ i → i < k + (n + 1) → isW s[i] = true) := by
  intro i hi h3 h4
  rcases Nat.lt_or_ge i (k + n) with h5 | h5
  · exact h i hi h3 h5
  · have : i = k + n := by omega
    subst this
    exact h2
theorem word_of (c : Int) (v : Bool) (w : World) (h : isWI c = v) : Calls Tryd.prog 57 #[.int .u8 c] w fun e w' => e = .returned (.bool v) ∧ w = w' :=
  (word_any c w).mono fun _ _ ⟨he, hw⟩ => ⟨by rw [he, h], hw⟩
/-- In a comment: from the k-th byte to before the j-th there is no newline. -/
def CInvU (s : ByteArray) (w : World) (k j : Nat) (v : Value) (wr : World) (acc : List Tk) (x y : Int) : Prop :=
  UAt w v acc wr x (y + (j - k : Nat)) ∧ k ≤ j ∧ ∀ i (h : i < s.size), k ≤ i → i < j → notNl s[i] = true
theorem cinv_next {s : ByteArray} {w wr w1 : World} {k j : Nat} {v : Value} {acc : List Tk} {x y : Int} (h : CInvU s w k j v wr acc x y) (hj : j < s.size) (hc : ((s[j].toNat : Int) != 10) = true) (hb : Below wr.heap.size wr w1) :
    CInvU s w k (j + 1) v ((w1.setCell ⟨w.heap.size + 1, 0, none⟩ (.int .i64 (mvX x s[j].toNat))).setCell ⟨w.heap.size + 1, 1, none⟩ (.int .i64 (mvY (y + (j - k : Nat)) s[j].toNat))) acc x y := by
  obtain ⟨hu, hkj, hn⟩ := h
  have hne : (s[j].toNat : Int) ≠ 10 := by simpa using hc
  have e1 : mvX x s[j].toNat = x := by unfold mvX; rw [if_neg hne]
  have e2 : mvY (y + (j - k : Nat)) s[j].toNat = y + (j + 1 - k : Nat) := by unfold mvY; rw [if_neg hne]; omega
  refine ⟨?_, by omega, fun i hi h1 h2 => ?_⟩
  · rw [e1, e2]; exact (hu.below hb).set _ _
  · rcases Nat.lt_or_ge i j with h3 | h3
    · exact hn i hi h1 h3
    · have : i = j := by omega
      subst this
      unfold notNl
      have := (cls_2 (s[i].toNat : Int))
      simp; omega
theorem cl_is {s : ByteArray} {k j : Nat} (hkj : k ≤ j) (hjs : j ≤ s.size) (hn : ∀ i (h : i < s.size), k ≤ i → i < j → notNl s[i] = true) (hend : j = s.size ∨ ∃ h : j < s.size, notNl s[j] = false) : cl (s.data.toList.drop k) = j - k := by
  unfold cl
  refine takeWhile_at notNl _ _ ?_ ?_ ?_
  · rw [List.all_eq_true]
    intro c hc
    obtain ⟨i, hi, rfl⟩ := List.mem_iff_getElem.1 hc
    rw [List.length_take, List.length_drop, size_toList] at hi
    rw [List.getElem_take, List.getElem_drop]
    exact hn (k + i) (by omega) (by omega) (by omega)
  · intro hlt
    rw [List.length_drop, size_toList] at hlt
    rcases hend with h | ⟨h, h2⟩
    · omega
    · rw [List.getElem?_drop]
      have e : k + (j - k) = j := by omega
      rw [e, get_any notNl s j h, h2]
  · rw [List.length_drop, size_toList]; omega
theorem uinv_comment {s : ByteArray} {w wr0 wr : World} {k j : Nat} {v : Value} {acc : List Tk} {x y : Int} (h0 : UInv s w k v wr0 acc x y) (hk : k < s.size) (h3 : cls (s[k].toNat : Int) = 3) (h : CInvU s w k j v wr acc x y) (hjs : j ≤ s.size)
    (hend : j = s.size ∨ ∃ h : j < s.size, notNl s[j] = false) : UInv s w j v wr acc x (y + (j - k : Nat)) := by
  obtain ⟨_, htk, b1, b2, b3, b4, b5⟩ := h0
  obtain ⟨hu, hkj, hn⟩ := h
  have hcl := cl_is hkj hjs hn hend
  refine ⟨hu, ?_, b1, by omega, by omega, by omega, by omega⟩
  rw [htk]
  have e := drop_cons s k hk
  have h4 := toks_3 s[k] (s.data.toList.drop (k + 1)) x y h3
  rw [← e, hcl, List.drop_drop] at h4
  rw [h4]
  congr 2
  congr 1
  omega

theorem refClassify_one (s : ByteArray) (x y : Int) (w : World) (hs : s.size ≤ maxLen) (h0 : 0 < s.size) :
    Calls Tryd.prog 65 #[.string s, .agg #[.int .i64 x, .int .i64 y]] w fun e w' => ∃ (k : Int) (t : List UInt8) (n : Int) (ok : Bool),
      e = .returned (.tuple #[.agg #[.int .i64 k, .string ⟨t.toArray⟩, .int .i64 n, .int .i64 x, .int .i64 y], .bool ok]) ∧ Below w.heap.size w w' ∧ wordTok s.data.toList = bif ok then some (k, t, n) else none := by
  cases h : wordTok s.data.toList with
  | none => exact (refClassify_none s x y w hs h0 h).mono fun _ _ ⟨he, hw⟩ => ⟨_, _, _, false, he, hw, rfl⟩
  | some a => exact (refClassify_some s x y w hs h0 a.1 a.2.1 a.2.2 h).mono fun _ _ ⟨he, hw⟩ => ⟨_, _, _, true, he, hw, rfl⟩
theorem wl_pos (s : ByteArray) (k : Nat) (h : k < s.size) (hw : isWI (s[k].toNat : Int) = true) : 0 < wl (s.data.toList.drop k) := by
  rw [drop_cons s k h]
  unfold wl
  have e : isW s[k] = true := hw
  rw [List.takeWhile_cons, e]
  simp
theorem tokOf_wd (l : List UInt8) (n : Nat) (hwl : wl l = n) (hn : 0 < n) : tokOf l = (wordTok (l.take n)).map fun x => (x.1, x.2.1, x.2.2, n) := by
  unfold tokOf
  rw [if_neg, hwl, if_pos hn]
  intro e; subst e; rw [← hwl] at hn; exact absurd hn (by decide)
theorem uat_next {w wr w1 : World} {v : Value} {acc : List Tk} {x y c : Int} {m : Nat} (h : UAt w v acc wr x (y + m)) (hc : (c != 10) = true) (hb : Below wr.heap.size wr w1) :
    UAt w v acc ((w1.setCell ⟨w.heap.size + 1, 0, none⟩ (.int .i64 (mvX x c))).setCell ⟨w.heap.size + 1, 1, none⟩ (.int .i64 (mvY (y + m) c))) x (y + (m + 1 : Nat)) := by
  have hne : c ≠ 10 := by simpa using hc
  have e1 : mvX x c = x := by unfold mvX; rw [if_neg hne]
  have e2 : mvY (y + m) c = y + (m + 1 : Nat) := by unfold mvY; rw [if_neg hne]; omega
  rw [e1, e2]; exact (h.below hb).set _ _
theorem box_below {wr w1 : World} {A : Obj} (hb : Below (wr.alloc A).drew.heap.size (wr.alloc A).drew w1) : Below wr.heap.size wr w1 :=
  (((Below.refl wr.heap.size wr).alloc (Nat.le_refl _) A).drew).trans (hb.mono (by simp))
theorem box_set {w1 : World} {b : Nat} {z0 z1 z2 z3 z4 : Value} {ty : TypeId} (h : w1.heap[b]? = some (.cells #[z0, z1, z2, z3, z4] ty (0, 0))) (v0 v1 v2 v3 v4 : Value) :
    (((((w1.setCell ⟨b, 0, none⟩ v0).setCell ⟨b, 1, none⟩ v1).setCell ⟨b, 2, none⟩ v2).setCell ⟨b, 3, none⟩ v3).setCell ⟨b, 4, none⟩ v4).heap[b]? = some (.cells #[v0, v1, v2, v3, v4] ty (0, 0)) := by
  simp [World.setCell, Array.getElem?_modify, h]
theorem wordTok_ne5 {l : List UInt8} {k n : Int} {t : List UInt8} (h : wordTok l = some (k, t, n)) : k ≠ 5 := by
  unfold wordTok at h
  split at h
  · simp at h; omega
  · split at h
    · simp at h; omega
    · cases hx : number l with
      | none => rw [hx] at h; simp at h
      | some m => rw [hx] at h; simp at h; omega
theorem isW_ne10 (c : UInt8) (h : isW c = true) : ((c.toNat : Int) != 10) = true := by
  cases hc : ((c.toNat : Int) != 10)
  · have h10 : (c.toNat : Int) = 10 := by simpa using hc
    unfold isW isWI at h
    have h2 := (cls_2 (c.toNat : Int)).2 h10
    simp [h2] at h
  · rfl
theorem box_in {wr w1 : World} {A : Obj} (hb : Below (wr.alloc A).drew.heap.size (wr.alloc A).drew w1) : w1.heap[wr.heap.size]? = some A :=
  (hb.block _ (by simp)).trans (heap_alloc_new wr A)
theorem refSymbol_one (s : ByteArray) (k : Nat) (w : World) (hs : (s.extract k s.size).size ≤ maxLen) : Calls Tryd.prog 66 #[.string (s.extract k s.size)] w fun e w' => ∃ Y : ByteArray, e = .returned (.string Y) ∧ Below w.heap.size w w' ∧ Y.size = symLen (s.data.toList.drop k) ∧ Y.data.toList = (s.data.toList.drop k).take (symLen (s.data.toList.drop k)) := by
  refine (refSymbol_any _ w hs).mono ?_
  rintro e w' ⟨he, hb⟩
  have e1 : (s.extract k s.size).data.toList = s.data.toList.drop k := Lib.extract_to_end s k
  refine ⟨_, he, hb, ?_, ?_⟩
  · show (List.toArray _).size = _
    have := symLen_le (s.data.toList.drop k)
    rw [e1, List.size_toArray, List.length_take]
    omega
  · rw [e1]
theorem tokOf_symL (l : List UInt8) (h : wl l = 0) (h0 : l ≠ []) (h2 : 0 < symLen l) : tokOf l = some (4, l.take (symLen l), 0, symLen l) := by
  unfold tokOf
  rw [if_neg h0, if_neg (by omega), if_pos h2]
theorem tokOf_badL (l : List UInt8) (h : wl l = 0) (h0 : l ≠ []) (h2 : symLen l = 0) : tokOf l = none := by
  unfold tokOf
  rw [if_neg h0, if_neg (by omega), if_neg (by omega)]
theorem wl_zero (s : ByteArray) (k : Nat) (h : k < s.size) (hw : isWI (s[k].toNat : Int) = false) : wl (s.data.toList.drop k) = 0 := by
  rw [drop_cons s k h]
  unfold wl
  have e : isW s[k] = false := hw
  rw [List.takeWhile_cons, e]
  simp
theorem sym_nl (l : List UInt8) : ∀ c ∈ l.take (symLen l), c ≠ 10 := by
  unfold symLen
  split
  · rename_i h
    rw [Bool.and_eq_true] at h
    obtain ⟨p, hp, he⟩ := List.any_eq_true.1 h.2
    have e : l.take 2 = p := by simpa using he
    rw [e]
    have ok : pairsL.all (fun p => p.all (fun c => c != 10)) = true := by rfl
    have h3 := List.all_eq_true.1 (List.all_eq_true.1 ok p hp)
    intro c hc
    simpa using h3 c hc
  · split
    · rename_i h
      cases l with
      | nil => intro c hc; simp at hc
      | cons a l =>
        intro c hc
        have hca : c = a := by simpa using hc
        have ok : singles.all (fun c => c != 10) = true := by rfl
        have hm : a ∈ singles := by simpa using h
        have := List.all_eq_true.1 ok a hm
        rw [hca]; simpa using this
    · intro c hc; simp at hc
theorem mem_take (s : ByteArray) (k n i : Nat) (h : i < s.size) (h1 : k ≤ i) (h2 : i < k + n) : s[i] ∈ (s.data.toList.drop k).take n := by
  refine List.mem_iff_getElem.2 ⟨i - k, by rw [List.length_take, List.length_drop, size_toList]; omega, ?_⟩
  rw [List.getElem_take, List.getElem_drop]
  have e : k + (i - k) = i := by omega
  simp only [e]
  rfl
theorem u8_ne (c : UInt8) (h : c ≠ 10) : ((c.toNat : Int) != 10) = true := by
  cases hc : ((c.toNat : Int) != 10)
  · have h10 : (c.toNat : Int) = 10 := by simpa using hc
    refine absurd (UInt8.toNat_inj.1 ?_) h
    show c.toNat = 10
    omega
  · rfl
theorem empty_size {Y : ByteArray} {v : Bool} (h : Y.toList.isEmpty = v) : if v then Y.size = 0 else 0 < Y.size := by
  rw [Lib.toList_data] at h
  have h2 := size_toList Y
  subst h
  cases hd : Y.data.toList with
  | nil => rw [hd] at h2; simpa using h2.symm
  | cons a l => rw [hd] at h2; simp at h2 ⊢; omega
theorem uinv_tok {s : ByteArray} {w wr0 wr : World} {k n : Nat} {v0 v : Value} {acc : List Tk} {x y kk nn : Int} {t : List UInt8} (h0 : UInv s w k v0 wr0 acc x y) (hsk : skip (s.data.toList.drop k) x y = (s.data.toList.drop k, x, y))
    (htok : tokOf (s.data.toList.drop k) = some (kk, t, nn, n)) (hk5 : kk ≠ 5) (hu : UAt w v (acc ++ [⟨kk, t, nn, x, y⟩]) wr x (y + n)) : UInv s w (k + n) v wr (acc ++ [⟨kk, t, nn, x, y⟩]) x (y + n) := by
  obtain ⟨_, htk, b1, b2, b3, b4, b5⟩ := h0
  have hn := (tokOf_len _ _ _ _ _ htok).2 hk5
  refine ⟨hu, ?_, b1, by omega, by omega, by omega, by simp; omega⟩
  rw [htk, toks_step _ _ _ _ _ _ hsk kk t nn n hk5 htok, joinT_join, List.drop_drop]
theorem uinv_end {s : ByteArray} {w wr : World} {k : Nat} {v : Value} {acc : List Tk} {x y : Int} (h : UInv s w k v wr acc x y) (hk : k = s.size) : toks s.data.toList 1 1 = .ok (acc ++ [⟨5, [], 0, x, y⟩]) := by
  rw [h.2.1, List.drop_eq_nil_of_le (by rw [size_toList]; omega), toks_end [] x y [] x y rfl [] 0 0 rfl]
  rfl
theorem tok_after1 {w w2 w3 : World} {v : Value} {n : Nat} {xs : List Value} {S : Obj} (ho : w2.ownsRow (w.heap.size + 2) 25 5 v n xs) (h2 : w.heap.size + 2 ≤ w2.heap.size) (hb : Below w.heap.size w w2) (hg : (w2.alloc S).grownBy w3 v.ownBlock) :
    (∀ b, b < w.heap.size + 2 → w3.heap[b]? = w2.heap[b]?) ∧ Below w.heap.size w w3 ∧ w2.heap.size < w3.heap.size := by
  have s3 := hg.size
  have e1 : (w2.alloc S).heap.size = w2.heap.size + 1 := by simp
  have hl := ho.lt
  refine ⟨fun b hb => ?_, ?_, by omega⟩
  · rw [hg.block b (by omega) (by intro e; have := hl b e.symm; omega), Below.heap_alloc _ _ _ (by omega)]
  · exact (hb.alloc (by omega) S).grown hg (by omega) (fun k e => by have := hl k e; omega)
theorem uat_app {w wr w3 : World} {v v' : Value} {acc : List Tk} {tk : Tk} {x y : Int} {S : Obj} (h : UAt w v acc wr x y) (ho : w3.ownsRow (w.heap.size + 2) 25 5 v' (acc.length + 1) (tksCells acc ++ tkCells tk)) (hg : (wr.alloc S).grownBy w3 v.ownBlock) : UAt w v' (acc ++ [tk]) w3 x y := by
  obtain ⟨q1, q2, q3⟩ := tok_after1 h.own h.size h.bel hg
  refine ⟨?_, (q1 _ (by omega)).trans h.at_, (q1 _ (by omega)).trans h.res, q2, by have := h.size; omega⟩
  rw [← tksCells_snoc]; simpa using ho

set_option maxHeartbeats 400000 in
theorem refTokens_full (s : ByteArray) (w : World) (h : 65536 < s.size) : Calls Tryd.prog 21 #[.string s] w fun e w' => e = .returned (.tuple #[.slice none 0 0, .agg #[.int .i64 0, .int .i64 0], .int .i64 4]) ∧ Below w.heap.size w w' := by
  have hI : (65536 : Int) < (s.size : Int) := by omega
  clear h
  go_enter Tryd.func21, Tryd.ntmps21
  go_wp2
  exact bodyPost_ret (v := .tuple #[.slice none 0 0, .agg #[.int .i64 0, .int .i64 0], .int .i64 4]) (by simp [results, Tryd.results21, go_sem]) rfl ⟨rfl, (Below.refl _ _).alloc (Nat.le_refl _) _⟩
theorem byte_not {c : UInt8} {n : Int} (h : ∀ m : Int, m = n → (c.toNat : Int) ≠ m) : ((c.toNat : Int) == n) = false := beq_eq_false_iff_ne.2 (h n rfl)

set_option maxRecDepth 100000 in
set_option maxHeartbeats 4000000 in
theorem refTokens_any (s : ByteArray) (w : World) (hs : s.size ≤ 65536) : Calls Tryd.prog 21 #[.string s] w (TokensPost s w) := by
  have hsI : (s.size : Int) ≤ 65536 := by omega
  have HI : Hid (UInv s w 0 (.slice none 0 0) ((w.alloc (.cells #[.int .i64 0, .int .i64 0] 23)).alloc (.cells #[.int .i64 1, .int .i64 1] 23)) [] 1 1) := by
    refine ⟨⟨World.ownsRow_nil _ _ _ _, ?_, ?_, ?_, by simp⟩, (joinT_nil _).symm, by omega, by omega, by omega, by omega, by simp⟩
    · have := heap_alloc_new (w.alloc (.cells #[.int .i64 0, .int .i64 0] 23)) (.cells #[.int .i64 1, .int .i64 1] 23)
      simpa using this
    · exact (Below.heap_alloc _ _ _ (by simp)).trans (heap_alloc_new w _)
    · exact ((Below.refl _ _).alloc (Nat.le_refl _) _).alloc (by simp) _
  obtain ⟨i0, hi, hz0, hz1, hz2⟩ := info_parts Tryd.infoToken
  go_enter Tryd.func21, Tryd.ntmps21
  go_wp2_with fail
  go_loopg [5, 7] s.size (fun g v i wr => ∃ (k : Nat) (acc : List Tk) (x y : Int), k ≤ s.size ∧ i = .int .i64 k ∧ s.size - k ≤ g ∧ UInv s w k v wr acc x y)
  case atStart => exact ⟨0, [], 1, 1, by omega, rfl, by omega, HI.out⟩
  case round =>
    clear HI
    obtain ⟨k, acc, x, y, hk, rfl, hg, hinv⟩ := hrel
    have HV := Lib.hid hinv
    obtain ⟨⟨a0, a1⟩, af0, af1⟩ := blk2 hinv.1.at_
    have hlt1 : w.heap.size + 1 < wr.heap.size := by have := hinv.1.size; omega
    obtain ⟨bx, by1, bx2, by2, bl⟩ := hinv.2.2
    clear hinv
    by_cases hlt : k < s.size
    · have hltI : (k : Int) < (s.size : Int) := by omega
      by_cases h1 : cls (s[k].toNat : Int) = 1 ∨ cls (s[k].toNat : Int) = 2
      · have H1 := Lib.hid h1
        have hv : (s[k].toNat : Int) = 32 ∨ (s[k].toNat : Int) = 9 ∨ (s[k].toNat : Int) = 13 ∨ (s[k].toNat : Int) = 10 := by
          rcases h1 with h | h
          · have := (cls_1 _).1 h; omega
          · have := (cls_2 _).1 h; omega
        clear h1
        -- <<A
        rcases hv with hv | hv | hv | hv
        · have e1 : ((s[k].toNat : Int) == 32) = true := by rw [hv]; rfl
          clear hv
          go_wp2_with fail
          refine (move_any x y _ _ (by omega) (by omega) (by omega) (by omega)).mono ?_
          rintro e w1 ⟨rfl, hb1⟩
          have hs1 := hb1.size
          obtain ⟨⟨a0', a1'⟩, af0', af1'⟩ := blk2 ((HV.out.1.below hb1).at_)
          have HN := Lib.hid (uinv_blank HV.out hlt H1.out hb1)
          clear hb1 a0 a1 af0 af1
          go_wp2
          go_roundg (s.size - (k + 1))
          case measure => omega
          case rel => exact ⟨k + 1, _, _, _, by omega, by go_num, by omega, HN.out⟩
        · have e1 : ((s[k].toNat : Int) == 32) = false := by rw [hv]; rfl
          have e2 : ((s[k].toNat : Int) == 9) = true := by rw [hv]; rfl
          clear hv
          go_wp2_with fail
          refine (move_any x y _ _ (by omega) (by omega) (by omega) (by omega)).mono ?_
          rintro e w1 ⟨rfl, hb1⟩
          have hs1 := hb1.size
          obtain ⟨⟨a0', a1'⟩, af0', af1'⟩ := blk2 ((HV.out.1.below hb1).at_)
          have HN := Lib.hid (uinv_blank HV.out hlt H1.out hb1)
          clear hb1 a0 a1 af0 af1
          go_wp2
          go_roundg (s.size - (k + 1))
          case measure => omega
          case rel => exact ⟨k + 1, _, _, _, by omega, by go_num, by omega, HN.out⟩
        · have e1 : ((s[k].toNat : Int) == 32) = false := by rw [hv]; rfl
          have e2 : ((s[k].toNat : Int) == 9) = false := by rw [hv]; rfl
          have e3 : ((s[k].toNat : Int) == 13) = true := by rw [hv]; rfl
          clear hv
          go_wp2_with fail
          refine (move_any x y _ _ (by omega) (by omega) (by omega) (by omega)).mono ?_
          rintro e w1 ⟨rfl, hb1⟩
          have hs1 := hb1.size
          obtain ⟨⟨a0', a1'⟩, af0', af1'⟩ := blk2 ((HV.out.1.below hb1).at_)
          have HN := Lib.hid (uinv_blank HV.out hlt H1.out hb1)
          clear hb1 a0 a1 af0 af1
          go_wp2
          go_roundg (s.size - (k + 1))
          case measure => omega
          case rel => exact ⟨k + 1, _, _, _, by omega, by go_num, by omega, HN.out⟩
        · have e1 : ((s[k].toNat : Int) == 32) = false := by rw [hv]; rfl
          have e2 : ((s[k].toNat : Int) == 9) = false := by rw [hv]; rfl
          have e3 : ((s[k].toNat : Int) == 13) = false := by rw [hv]; rfl
          have e4 : ((s[k].toNat : Int) == 10) = true := by rw [hv]; rfl
          clear hv
          go_wp2_with fail
          refine (move_any x y _ _ (by omega) (by omega) (by omega) (by omega)).mono ?_
          rintro e w1 ⟨rfl, hb1⟩
          have hs1 := hb1.size
          obtain ⟨⟨a0', a1'⟩, af0', af1'⟩ := blk2 ((HV.out.1.below hb1).at_)
          have HN := Lib.hid (uinv_blank HV.out hlt H1.out hb1)
          clear hb1 a0 a1 af0 af1
          go_wp2
          go_roundg (s.size - (k + 1))
          case measure => omega
          case rel => exact ⟨k + 1, _, _, _, by omega, by go_num, by omega, HN.out⟩
        -- >>A
      · by_cases h3 : cls (s[k].toNat : Int) = 3
        · -- <<B
          have H3 := Lib.hid h3
          have hv : (s[k].toNat : Int) = 35 := (cls_3 _).1 h3
          have e1 : ((s[k].toNat : Int) == 32) = false := by rw [hv]; rfl
          have e2 : ((s[k].toNat : Int) == 9) = false := by rw [hv]; rfl
          have e3 : ((s[k].toNat : Int) == 13) = false := by rw [hv]; rfl
          have e4 : ((s[k].toNat : Int) == 10) = false := by rw [hv]; rfl
          have e5 : ((s[k].toNat : Int) == 35) = true := by rw [hv]; rfl
          have HK : Hid (k < s.size ∧ ((s[k].toNat : Int) != 10) = true) := ⟨hlt, by rw [hv]; rfl⟩
          clear hv h1 h3
          go_wp2_with fail
          obtain ⟨wo, hwo⟩ : ∃ wo : World, wo = wr := ⟨_, rfl⟩
          have HV0 : Hid (UInv s w k u5 wo acc x y) := by rw [hwo]; exact HV.out
          have HC0 : Hid (CInvU s w k k u5 wr acc x y) := ⟨by simpa using HV.out.1, Nat.le_refl _, fun i hi h1 h2 => absurd h2 (by omega)⟩
          clear hwo
          go_loopw [7] (fun i wr => ∃ j : Nat, j ≤ s.size ∧ i = .int .i64 j ∧ CInvU s w k j u5 wr acc x y) (fun i _ => s.size - (intOf i).toNat)
          case atStart => exact ⟨k, by omega, rfl, HC0.out⟩
          case round =>
            clear HC0 a0 a1 af0 af1 hlt1
            obtain ⟨j, hj, rfl, hcv⟩ := hrel
            have HCV := Lib.hid hcv
            obtain ⟨⟨a0, a1⟩, af0, af1⟩ := blk2 hcv.1.at_
            have hlt1 : w.heap.size + 1 < wr.heap.size := by have := hcv.1.size; omega
            have hkj := hcv.2.1
            clear hcv
            by_cases hjs : j < s.size
            · have hjI : decide ((j : Int) < (s.size : Int)) = true := by simp; omega
              have hjI2 : (j : Int) < (s.size : Int) := by omega
              cases hnl : ((s[j].toNat : Int) != 10)
              · have HN := Lib.hid (uinv_comment HV0.out HK.out.1 H3.out HCV.out hj (.inr ⟨hjs, nl_no s[j] hnl⟩))
                have hjk : k < j := by
                  rcases Nat.lt_or_ge k j with h | h
                  · exact h
                  · have e : j = k := by omega
                    subst e
                    have := HK.out.2
                    rw [hnl] at this; cases this
                go_wp2
                go_roundg (s.size - j)
                case measure => omega
                case rel => exact ⟨j, _, _, _, hj, rfl, by omega, HN.out⟩
              · have HNL := Lib.hid hnl
                go_wp2_with fail
                first
                  | go_region_with (first | (go_at_call 64; refine (move_any x _ _ _ (by omega) (by omega) (by omega) (by omega)).mono ?_; rintro e w1 ⟨rfl, hb1⟩; have hs1 := hb1.size; have HB1 := Lib.hid (below_of_drew hb1); obtain ⟨⟨a0', a1'⟩, af0', af1'⟩ := blk2 ((HCV.out.1.below HB1.out).at_); clear hb1 a0 a1 af0 af1))
                  | fail
                all_goals
                  have HN := Lib.hid (cinv_next HCV.out hjs HNL.out HB1.out)
                  go_wp2
                  go_roundw
                  case rel => exact ⟨j + 1, by omega, by go_num, HN.out⟩
                  case measure => simp [intOf]; omega
            · have hjI : decide ((j : Int) < (s.size : Int)) = false := by simp; omega
              have HN := Lib.hid (uinv_comment HV0.out HK.out.1 H3.out HCV.out hj (.inl (by omega)))
              have hjk : k < j := by have := HK.out.1; omega
              go_wp2
              go_roundg (s.size - j)
              case measure => omega
              case rel => exact ⟨j, _, _, _, hj, rfl, by omega, HN.out⟩
          -- >>B
        · have hskip : skip (s.data.toList.drop k) x y = (s.data.toList.drop k, x, y) := by
            rw [drop_cons s k hlt]; exact skip_0 _ _ _ _ (fun h => h1 (.inl h)) (fun h => h1 (.inr h)) h3
          have n1 : ¬ ((s[k].toNat : Int) = 32 ∨ (s[k].toNat : Int) = 9 ∨ (s[k].toNat : Int) = 13) := fun hh => h1 (.inl ((cls_1 _).2 hh))
          have n2 : ¬ (s[k].toNat : Int) = 10 := fun hh => h1 (.inr ((cls_2 _).2 hh))
          have n3 : ¬ (s[k].toNat : Int) = 35 := fun hh => h3 ((cls_3 _).2 hh)
          have e1 : ((s[k].toNat : Int) == 32) = false := beq_eq_false_iff_ne.2 (fun h => n1 (.inl h))
          have e2 : ((s[k].toNat : Int) == 9) = false := beq_eq_false_iff_ne.2 (fun h => n1 (.inr (.inl h)))
          have e3 : ((s[k].toNat : Int) == 13) = false := beq_eq_false_iff_ne.2 (fun h => n1 (.inr (.inr h)))
          have e4 : ((s[k].toNat : Int) == 10) = false := beq_eq_false_iff_ne.2 n2
          have e5 : ((s[k].toNat : Int) == 35) = false := beq_eq_false_iff_ne.2 n3
          have HSK := Lib.hid hskip
          have HLT := Lib.hid hlt
          obtain ⟨wo, hwo⟩ : ∃ wo : World, wo = wr := ⟨_, rfl⟩
          clear hskip n1 n2 n3 h1 h3 hwo wo
          go_upto_if 65 with fail
          refine (word_of _ _ _ rfl).mono ?_
          rintro e w' ⟨rfl, rfl⟩
          go_upto_if 65 with fail
          go_cut [5, 9] from 19 to 129 (fun v5 v9 wx => ∃ (kk nn : Int) (t : List UInt8) (n : Nat), v9 = .int .i64 n ∧ UAt w v5 (acc ++ [⟨kk, t, nn, x, y⟩]) wx x y ∧ tokOf (s.data.toList.drop k) = some (kk, t, nn, n) ∧ kk ≠ 5 ∧ ∀ i (h : i < s.size), k ≤ i → i < k + n → ((s[i].toNat : Int) != 10) = true)
          case first =>
            cases hw : isWI (s[k].toNat : Int)
            · -- <<F
              have HW := Lib.hid hw
              clear hw
              have HM : Hid ((s.extract k s.size).size ≤ maxLen) := by show _ ≤ _; rw [ByteArray.size_extract]; unfold maxLen; omega
              go_wp2_with fail
              refine (refSymbol_one s k _ HM.out).mono ?_
              rintro e w1 ⟨Y, rfl, hb1, hy1, hy2⟩
              have HUA := Lib.hid (HV.out.1.below hb1)
              have HY1 := Lib.hid hy1
              have HY2 := Lib.hid hy2
              obtain ⟨⟨c0, c1⟩, cf0, cf1⟩ := blk2 HUA.out.at_
              obtain ⟨⟨r0, r1⟩, rf0, rf1⟩ := blk2 HUA.out.res
              have hsz := HUA.out.size
              have hlt0 : w.heap.size < w1.heap.size := by omega
              have hlt2 : w.heap.size + 1 < w1.heap.size := by omega
              clear hb1 hy1 hy2 a0 a1 af0 af1
              have HD : Hid (s.data.toList.drop k ≠ []) := by show _ ≠ _; rw [drop_cons s k HLT.out]; simp
              have HWZ := Lib.hid (wl_zero s k HLT.out HW.out)
              cases hye : Y.toList.isEmpty
              · have HYE := Lib.hid (empty_size hye)
                have HSP : Hid (0 < symLen (s.data.toList.drop k)) := by
                  have := HYE.out
                  simp at this
                  show _ < _
                  rw [← HY1.out]; exact this
                have HT := Lib.hid (tokOf_symL _ HWZ.out HD.out HSP.out)
                have HO := Lib.hid HUA.out.own
                have hmax : acc.length + 1 ≤ maxLen := by unfold maxLen; omega
                go_wp2_with (at_builtin; refine wpList_append_own _ rfl (.tmp 109) (.tmp 113) 30 rfl (w.heap.size + 2) 25 i0 _ 5 48 Tryd.underlying30 hi hz0 hz1 hz2 rfl (by decide) _ acc.length (tksCells acc) rfl (HO.out.alloc _) ⟨w1.heap.size, 0, none⟩ 1 1 (tkCells ⟨4, Y.data.toList, 0, x, y⟩) rfl rfl ?c1 ?c2 hmax ?c4 ?c5 ?_)
                case c1 => exact World.news_of_block (cs := #[.int .i64 4, .string Y, .int .i64 0, .int .i64 x, .int .i64 y]) (t := 25) (fr := (0, 0)) (heap_alloc_new w1 (.cells #[.int .i64 4, .string Y, .int .i64 0, .int .i64 x, .int .i64 y] 25))
                case c2 => simp [tkCells, Value.oneCell']
                case c4 => omega
                case c5 => simp; omega
                intro v' w3 hown3 hg3 _
                have HU := Lib.hid (uat_app HUA.out hown3 hg3)
                clear hown3 hg3
                go_wp2_with fail
                go_meet
                exact ⟨4, 0, Y.data.toList, Y.size, rfl, HU.out, by rw [HT.out, HY2.out, HY1.out], by decide, fun i hi h1 h2 => u8_ne _ (sym_nl _ _ (mem_take s k _ i hi h1 (by rw [← HY1.out]; exact h2)))⟩
              · have HYE := Lib.hid (empty_size hye)
                have HS0 : Hid (symLen (s.data.toList.drop k) = 0) := by
                  have h0 := HYE.out
                  rw [if_pos rfl] at h0
                  show _ = _
                  rw [← HY1.out]; exact h0
                have HF := Lib.hid (toks_bad _ _ _ _ _ _ HSK.out (tokOf_badL _ HWZ.out HD.out HS0.out))
                go_wp2_with fail
                go_region
                all_goals
                  go_wp2
                  refine bodyPost_ret (v := .tuple #[.slice none 0 0, .agg #[.int .i64 x, .int .i64 y], .int .i64 7]) (by simp [results, Tryd.results21, go_sem, r0, r1]) rfl ?_
                  refine tokensPost_error (by rw [HV.out.2.1, HF.out]; rfl) ?_ rfl
                  exact ((HUA.out.bel.setCell (p := ⟨w.heap.size, 0, none⟩) (Nat.le_refl _) _).setCell (p := ⟨w.heap.size, 1, none⟩) (Nat.le_refl _) _).drew
              -- >>F
            · -- <<E
              have HW := Lib.hid hw
              clear hw
              go_upto_block 4 with fail
              go_cut [9] from 19 to 129 (fun v9 wx => ∃ n : Nat, v9 = .int .i64 n ∧ k + n ≤ s.size ∧ wl (s.data.toList.drop k) = n ∧ (∀ i (h : i < s.size), k ≤ i → i < k + n → isW s[i] = true) ∧ wr = wx)
              case first =>
                go_wp2_with fail
                go_loop [9] (fun i => ∃ n : Nat, k + n ≤ s.size ∧ i = .int .i64 n ∧ Hid (∀ i (h : i < s.size), k ≤ i → i < k + n → isW s[i] = true)) (fun i => s.size - (intOf i).toNat)
                case atStart => exact ⟨0, by omega, rfl, fun i hi h1 h2 => absurd h2 (by omega)⟩
                case round =>
                  obtain ⟨n, hn, rfl, HA⟩ := hrel
                  by_cases hlt2 : k + n < s.size
                  · have hI : decide ((k : Int) + (n : Int) < (s.size : Int)) = true := by simp; omega
                    have hI2 : (k : Int) + (n : Int) < (s.size : Int) := by omega
                    cases hw2 : isWI (s[k + n].toNat : Int)
                    · have HW2 := Lib.hid hw2
                      clear hw2
                      have HWL := Lib.hid (wl_is hn HA.out (.inr ⟨hlt2, HW2.out⟩))
                      go_wp2_with fail
                      refine (word_of _ _ _ HW2.out).mono ?_
                      rintro e w' ⟨rfl, rfl⟩
                      go_wp2_with fail
                      go_meet
                      exact ⟨n, rfl, hn, HWL.out, HA.out, rfl⟩
                    · have HW2 := Lib.hid hw2
                      clear hw2
                      go_wp2_with fail
                      refine (word_of _ _ _ HW2.out).mono ?_
                      rintro e w' ⟨rfl, rfl⟩
                      go_wp2
                      go_round
                      case rel => exact ⟨n + 1, by omega, by go_num, word_snoc s k n HA.out hlt2 HW2.out⟩
                      case measure => simp [intOf]; omega
                  · have hI : decide ((k : Int) + (n : Int) < (s.size : Int)) = false := by simp; omega
                    have HWL := Lib.hid (wl_is hn HA.out (.inl (by omega)))
                    go_wp2_with fail
                    go_meet
                    exact ⟨n, rfl, hn, HWL.out, HA.out, rfl⟩
              case rest =>
                obtain ⟨n, rfl, hn, hwl, hA, rfl⟩ := hcut
                have hn0 : 0 < n := by rw [← hwl]; exact wl_pos s k hlt HW.out
                have HWL := Lib.hid hwl
                have HA := Lib.hid hA
                have HX := Lib.hid (ext_list s k n)
                have HM : Hid ((s.extract k (k + n)).size ≤ maxLen) := by show _ ≤ _; rw [ByteArray.size_extract]; unfold maxLen; omega
                have HZ : Hid (0 < (s.extract k (k + n)).size) := by show _ < _; rw [ByteArray.size_extract]; omega
                clear hwl hA
                have q1 : (k : Int) ≤ (k : Int) + (n : Int) := by omega
                have q2 : (k : Int) + (n : Int) ≤ (s.size : Int) := by omega
                have n2 : 0 ≤ (k : Int) + (n : Int) := by omega
                have n3 : ((k : Int) + (n : Int)).toNat = k + n := by omega
                have n1 : True → IntKind.i64.wrap ((k : Int) + (n : Int)) = (k : Int) + (n : Int) := fun _ => IntWalk.i64_in _ (by omega)
                go_upto_region 19 with fail
                go_cut [10, 11] from 19 to 129 (fun v10 v11 wx => ∃ (kk : Int) (t : List UInt8) (nn : Int) (ok : Bool) (b : Nat), v10 = .pointer (some ⟨b, 0, none⟩) ∧ v11 = .bool ok ∧ wx.heap[b]? = some (.cells #[.int .i64 kk, .string ⟨t.toArray⟩, .int .i64 nn, .int .i64 x, .int .i64 y] 25 (0, 0)) ∧ UAt w u5 acc wx x y ∧ wordTok ((s.data.toList.drop k).take n) = bif ok then some (kk, t, nn) else none)
                case first =>
                  go_region_with (first | (go_at_call 65; refine (refClassify_one _ x y _ HM.out HZ.out).mono ?_; rintro e w1 ⟨kk, t, nn, ok, rfl, hb1, hwt⟩; have hs1 := hb1.size; have HWT := Lib.hid (HX.out ▸ hwt); clear hwt; (first | (have HBB := Lib.hid (box_below hb1); obtain ⟨⟨z0, z1, z2, z3, z4⟩, f0, f1, f2, f3, f4⟩ := blk5 (box_in hb1); have HZB := Lib.hid (box_in hb1); clear hb1) | (have HBB := Lib.hid (below_of_drew hb1); clear hb1)); clear n1))
                  all_goals
                    go_wp2_with fail
                    go_meet
                    first
                      | exact ⟨kk, t, nn, ok, wr.heap.size, rfl, rfl, box_set HZB.out _ _ _ _ _, HV.out.1.below (below_set5 HBB.out (Nat.le_refl _) _ _ _ _ _), HWT.out⟩
                      | exact ⟨kk, t, nn, ok, w1.heap.size, rfl, rfl, heap_alloc_new w1 _, HV.out.1.below (HBB.out.alloc HBB.out.size _), HWT.out⟩
                case rest =>
                  obtain ⟨kk, t, nn, ok, b, rfl, rfl, hblk, hua, hwt⟩ := hcut
                  have HUA := Lib.hid hua
                  have HTW := Lib.hid (tokOf_wd _ _ HWL.out hn0)
                  have hsz := hua.size
                  obtain ⟨⟨c0, c1⟩, cf0, cf1⟩ := blk2 hua.at_
                  clear a0 a1 af0 af1 n1
                  cases ok
                  · have HT : Hid (tokOf (s.data.toList.drop k) = none) := by
                      show _ = _
                      rw [HTW.out, hwt]; rfl
                    have HF := Lib.hid (toks_bad _ _ _ _ _ _ HSK.out HT.out)
                    obtain ⟨⟨r0, r1⟩, rf0, rf1⟩ := blk2 hua.res
                    have hlt0 : w.heap.size < wc.heap.size := by omega
                    have hlt2 : w.heap.size + 1 < wc.heap.size := by omega
                    clear hua hwt hblk
                    go_wp2_with fail
                    go_region
                    all_goals
                      go_wp2
                      refine bodyPost_ret (v := .tuple #[.slice none 0 0, .agg #[.int .i64 x, .int .i64 y], .int .i64 7]) (by simp [results, Tryd.results21, go_sem, r0, r1]) rfl ?_
                      refine tokensPost_error (by rw [HV.out.2.1, HF.out]; rfl) ?_ rfl
                      exact ((HUA.out.bel.setCell (p := ⟨w.heap.size, 0, none⟩) (Nat.le_refl _) _).setCell (p := ⟨w.heap.size, 1, none⟩) (Nat.le_refl _) _).drew
                  · have HT : Hid (tokOf (s.data.toList.drop k) = some (kk, t, nn, n)) := by
                      show _ = _
                      rw [HTW.out, hwt]; rfl
                    have HK5 := Lib.hid (wordTok_ne5 hwt)
                    have HO := Lib.hid hua.own
                    obtain ⟨⟨z0, z1, z2, z3, z4⟩, f0, f1, f2, f3, f4⟩ := blk5 hblk
                    have hmax : acc.length + 1 ≤ maxLen := by unfold maxLen; omega
                    clear hua hwt hblk
                    go_wp2_with (at_builtin; refine wpList_append_own _ rfl (.tmp 96) (.tmp 98) 30 rfl (w.heap.size + 2) 25 i0 _ 5 48 Tryd.underlying30 hi hz0 hz1 hz2 rfl (by decide) _ acc.length (tksCells acc) rfl (HO.out.alloc _) ⟨wc.heap.size, 0, none⟩ 1 1 (tkCells ⟨kk, t, nn, x, y⟩) rfl rfl ?c1 ?c2 hmax ?c4 ?c5 ?_)
                    case c1 => exact World.news_of_block (cs := #[.int .i64 kk, .string ⟨t.toArray⟩, .int .i64 nn, .int .i64 x, .int .i64 y]) (t := 25) (fr := (0, 0)) (heap_alloc_new wc (.cells #[.int .i64 kk, .string ⟨t.toArray⟩, .int .i64 nn, .int .i64 x, .int .i64 y] 25))
                    case c2 => simp [tkCells, Value.oneCell']
                    case c4 => omega
                    case c5 => simp; omega
                    intro v' w3 hown3 hg3 _
                    have HU := Lib.hid (uat_app HUA.out hown3 hg3)
                    clear hown3 hg3
                    go_wp2_with fail
                    go_meet
                    exact ⟨kk, nn, t, n, rfl, HU.out, HT.out, HK5.out, fun i hi h1 h2 => isW_ne10 _ (HA.out i hi h1 h2)⟩
              -- >>E
          case rest =>
            -- <<G
            obtain ⟨kk, nn, t, n, rfl, hua, htok, hk5, hnl⟩ := hcut
            obtain ⟨hl1, hl2⟩ := tokOf_len _ _ _ _ _ htok
            rw [List.length_drop, size_toList] at hl1
            have hn0 := hl2 hk5
            have HTOK := Lib.hid htok
            have HK5 := Lib.hid hk5
            have HNL := Lib.hid hnl
            have HC0 : Hid (UAt w u5 (acc ++ [⟨kk, t, nn, x, y⟩]) wc x (y + (0 : Nat))) := by
              have e : y + ((0 : Nat) : Int) = y := by omega
              rw [e]; exact hua
            clear hua htok hk5 hnl hl2 a0 a1 af0 af1 hlt1
            go_wp2_with fail
            go_loopw [13] (fun i wr => ∃ m : Nat, m ≤ n ∧ i = .int .i64 m ∧ UAt w u5 (acc ++ [⟨kk, t, nn, x, y⟩]) wr x (y + m)) (fun i _ => n - (intOf i).toNat)
            case atStart => exact ⟨0, by omega, rfl, HC0.out⟩
            case round =>
              clear HC0
              obtain ⟨m, hm, rfl, hcv⟩ := hrel
              have HCV := Lib.hid hcv
              obtain ⟨⟨a0, a1⟩, af0, af1⟩ := blk2 hcv.at_
              have hlt1 : w.heap.size + 1 < wr.heap.size := by have := hcv.size; omega
              clear hcv
              by_cases hmn : m < n
              · have hmI : decide ((m : Int) < (n : Int)) = true := by simp; omega
                have hmI2 : (m : Int) < (n : Int) := by omega
                have hks : k + m < s.size := by omega
                have hksI : (k : Int) + (m : Int) < (s.size : Int) := by omega
                have HNLm := Lib.hid (HNL.out (k + m) hks (by omega) (by omega))
                have m1 : x ≤ 1000000000 := by omega
                have m2 : 0 ≤ y + (m : Int) := by omega
                have m3 : y + (m : Int) ≤ 1000000000 := by omega
                have n1 : True → IntKind.i64.wrap ((k : Int) + (m : Int)) = (k : Int) + (m : Int) := fun _ => IntWalk.i64_in _ (by omega)
                have n2 : 0 ≤ (k : Int) + (m : Int) := by omega
                have n3 : ((k : Int) + (m : Int)).toNat = k + m := by omega
                go_wp2_with fail
                first
                  | go_region_with (first | (go_at_call 64; refine (move_any x _ _ _ bx m1 m2 m3).mono ?_; rintro e w1 ⟨rfl, hb1⟩; have hs1 := hb1.size; have HB1 := Lib.hid (below_of_drew hb1); obtain ⟨⟨a0', a1'⟩, af0', af1'⟩ := blk2 ((HCV.out.below HB1.out).at_); clear hb1 a0 a1 af0 af1 n1))
                  | fail
                all_goals
                  have HN := Lib.hid (uat_next HCV.out HNLm.out HB1.out)
                  go_wp2
                  go_roundw
                  case rel => exact ⟨m + 1, by omega, by go_num, HN.out⟩
                  case measure => simp [intOf]; omega
              · have hmI : decide ((m : Int) < (n : Int)) = false := by simp; omega
                have e : n = m := by omega
                subst e
                have HN := Lib.hid (uinv_tok HV.out HSK.out HTOK.out HK5.out HCV.out)
                go_wp2
                go_roundg (s.size - (k + n))
                case measure => omega
                case rel => exact ⟨k + n, _, _, _, by omega, by go_num, by omega, HN.out⟩
            -- >>G
    · -- <<H
      have hkL : k = s.size := by omega
      have hI : decide ((k : Int) < (s.size : Int)) = false := by simp; omega
      have HE := Lib.hid (uinv_end HV.out hkL)
      have HO := Lib.hid HV.out.1.own
      have hmax : acc.length + 1 ≤ maxLen := by unfold maxLen; omega
      have hsz := HV.out.1.size
      clear hkL
      go_wp2_with (at_builtin; refine wpList_append_own _ rfl (.tmp 130) (.tmp 133) 30 rfl (w.heap.size + 2) 25 i0 _ 5 48 Tryd.underlying30 hi hz0 hz1 hz2 rfl (by decide) _ acc.length (tksCells acc) rfl (HO.out.alloc _) ⟨wr.heap.size, 0, none⟩ 1 1 (tkCells ⟨5, [], 0, x, y⟩) rfl rfl ?c1 ?c2 hmax ?c4 ?c5 ?_)
      case c1 => exact World.news_of_block (cs := #[.int .i64 5, .string ⟨#[]⟩, .int .i64 0, .int .i64 x, .int .i64 y]) (t := 25) (fr := (0, 0)) (heap_alloc_new wr (.cells #[.int .i64 5, .string ⟨#[]⟩, .int .i64 0, .int .i64 x, .int .i64 y] 25))
      case c2 => simp [tkCells, Value.oneCell']
      case c4 => omega
      case c5 => simp; omega
      intro v' w3 hown3 hg3 _
      have HU := Lib.hid (uat_app HV.out.1 hown3 hg3)
      clear hown3 hg3
      have hlt0 : w.heap.size < w3.heap.size := by have := HU.out.size; omega
      obtain ⟨⟨z0, z1⟩, zf0, zf1⟩ := blk2 HU.out.res
      go_wp2
      refine bodyPost_ret (v := .tuple #[v', .agg #[.int .i64 0, .int .i64 0], .int .i64 0]) (by simp [results, Tryd.results21, go_sem, z0, z1]) rfl ?_
      refine tokensPost_ok HE.out ?_ rfl ?_
      · exact (HU.out.bel.setCell (p := ⟨w.heap.size, 0, none⟩) (Nat.le_refl _) _).setCell (p := ⟨w.heap.size, 1, none⟩) (Nat.le_refl _) _
      · exact ((ownsRow_setCell_below (ownsRow_setCell_below HU.out.own (a := ⟨w.heap.size, 0, none⟩) (by simp) _) (a := ⟨w.heap.size, 1, none⟩) (by simp) _).mono (by omega))
      -- >>H
end Go.Proofs.YthbcfcbonmphfaaDoor
