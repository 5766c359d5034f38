/- LexPlaces: the builder's methods. -/
import Derived.Shelf.Strings.BuilderK
import Derived.Test.YthbcfcbonmphfaaDoorPlacS
import Derived.Test.YthbcfcbonmphfaaDoorJoinD
namespace Go.Proofs.YthbcfcbonmphfaaDoor
set_option maxRecDepth 100000
open Go.RowKit Go.Shelf

def Tryd.lays169_ren : Go.Shelf.Ren := ⟨fun | 169 => 29 | n => n, fun | 70 => 44 | 9 => 9 | 0 => 0 | 72 => 46 | 37 => 43 | 127 => 110 | 3 => 3 | 5 => 5 | n => n, fun | n => n⟩
theorem Tryd.lays169 : Go.Proofs.Lays.n169 Tryd.prog Tryd.lays169_ren := {
  mixed := by kernel_rfl
  f169 := Tryd.func29.trans (congrArg some (by kernel_rfl))
  t0 := Tryd.underlying0
  a0 := Tryd.isAgg0
  z0 := Tryd.sizeOf0
  v0 := Tryd.zeroValue0
  t3 := Tryd.underlying3
  a3 := Tryd.isAgg3
  z3 := Tryd.sizeOf3
  v3 := Tryd.zeroValue3
  t9 := Tryd.underlying9
  a9 := Tryd.isAgg9
  z9 := Tryd.sizeOf9
  v9 := Tryd.zeroValue9
  t37 := Tryd.underlying43
  a37 := Tryd.isAgg43
  z37 := Tryd.sizeOf43
  v37 := Tryd.zeroValue43
  t70 := Tryd.underlying44
  a70 := Tryd.isAgg44
  z70 := Tryd.sizeOf44
  v70 := Tryd.zeroValue44
  t72 := Tryd.underlying46
  a72 := Tryd.isAgg46
  z72 := Tryd.sizeOf46
  v72 := Tryd.zeroValue46
  t127 := Tryd.underlying110
  a127 := Tryd.isAgg110
  z127 := Tryd.sizeOf110
  v127 := Tryd.zeroValue110 }
theorem Tryd.Builder_Extra_169 : Builder.Extra Tryd.prog Tryd.lays169_ren := {
  sizeBuilder := by kernel_rfl
  liesBuilder := by kernel_rfl
  t5 := Tryd.underlying5
  a5 := Tryd.isAgg5
  z5 := Tryd.sizeOf5
  v5 := Tryd.zeroValue5
  infoByte := by kernel_rfl
  cellsByte := by kernel_rfl
  sizeByte := by kernel_rfl
  neB5 := by decide }
theorem string_any (B b : Nat) (l : List UInt8) (w : World) (h : Lib.IsBuilderF 46 5 B b (Lib.byteCells l) w) (hBw : B ≤ w.heap.size) :
    Calls Tryd.prog 29 #[.pointer (some ⟨b, 0, none⟩)] w fun e w' => e = .returned (.string ⟨l.toArray⟩) ∧ (Lib.IsBuilderF 46 5 B b (Lib.byteCells l) w' ∧ Below B w w' ∧ Lib.OthersKept 5 (some b) w w') :=
  Any.Builder_String_any_k Tryd.lays169 Tryd.Builder_Extra_169 B b l w h hBw

set_option maxHeartbeats 1000000 in
theorem copyCheck_used (b : Nat) (v : Value) (w : World) (h : w.heap[b]? = some (.cells #[.pointer (some ⟨b, 0, none⟩), v] 46 (0, 0))) :
    Calls Tryd.prog 71 #[.pointer (some ⟨b, 0, none⟩)] w fun e w' => e = .returned (.tuple #[]) ∧ w' = w := by
  obtain ⟨j, hj0, _⟩ := Option.map_eq_some_iff.1 Tryd.Builder_Extra_169.sizeBuilder
  have hj : Tryd.prog.info? 46 = some j := hj0
  have a0 := (blk2 h).1.1
  clear h hj0
  go_enter Tryd.func71, Tryd.ntmps71
  go_wp2
  rw [Lib.run_neq_ptr_same w _ Tryd.underlying44 hj]
  go_wp2
  go_end0
  exact ⟨rfl, rfl⟩
set_option maxHeartbeats 1000000 in
theorem copyCheck_new (b : Nat) (v : Value) (w : World) (h : w.heap[b]? = some (.cells #[.pointer none, v] 46 (0, 0))) :
    Calls Tryd.prog 71 #[.pointer (some ⟨b, 0, none⟩)] w fun e w' => e = .returned (.tuple #[]) ∧ w' = w.setCell ⟨b, 0, none⟩ (.pointer (some ⟨b, 0, none⟩)) := by
  obtain ⟨j, hj0, hjs⟩ := Option.map_eq_some_iff.1 Tryd.Builder_Extra_169.sizeBuilder
  have hj : Tryd.prog.info? 46 = some j := hj0
  have hsh : w.shape? b = some (46, 2) := by simp [World.shape?, h]
  have h0 := (blk2 h).1.1
  have hfz := (blk2 h).2.1
  clear h hj0
  go_enter Tryd.func71, Tryd.ntmps71
  go_wp2
  rw [Lib.run_to_unsafe w ⟨b, 0, none⟩ Tryd.underlying44 Tryd.underlying166 hj (by rw [hjs]; decide) hsh (Nat.zero_lt_succ 1)]
  simp only [Result.andThen]
  rw [Oper.upon_value]
  go_wp2
  rw [run_callFunc_extern Tryd.func119 (by kernel_rfl) (by kernel_rfl) (by kernel_rfl) (e := Extern.AbiNoEscape.same) (by kernel_rfl)]
  rw [Lib.run_noEscape]
  simp only [Result.andThen]
  rw [Oper.upon_value]
  go_wp2
  rw [Lib.run_from_unsafe w ⟨b, 0, none⟩ Tryd.underlying166 Tryd.underlying44 hj hsh Tryd.Builder_Extra_169.liesBuilder]
  simp only [Result.andThen]
  rw [Oper.upon_value]
  go_wp2
  go_end0
  exact ⟨rfl, rfl⟩
/-- A builder in block b that holds these bytes; its row lies above it. -/
structure Bld (w : World) (b : Nat) (xs : List UInt8) : Prop where
  ex : ∃ p v, (p = .pointer none ∨ p = .pointer (some ⟨b, 0, none⟩)) ∧ w.heap[b]? = some (.cells #[p, v] 46 (0, 0)) ∧ w.ownsRow (b + 1) 5 1 v xs.length (bsC xs)
theorem copyCheck_any (b : Nat) (p v : Value) (n : Nat) (xs : List Value) (w : World) (hp : p = .pointer none ∨ p = .pointer (some ⟨b, 0, none⟩)) (h : w.heap[b]? = some (.cells #[p, v] 46 (0, 0))) (ho : w.ownsRow (b + 1) 5 1 v n xs) :
    Calls Tryd.prog 71 #[.pointer (some ⟨b, 0, none⟩)] w fun e w' => e = .returned (.tuple #[]) ∧ w'.heap[b]? = some (.cells #[.pointer (some ⟨b, 0, none⟩), v] 46 (0, 0)) ∧ w'.ownsRow (b + 1) 5 1 v n xs ∧ Below b w w' ∧ w'.heap.size = w.heap.size := by
  rcases hp with rfl | rfl
  · refine (copyCheck_new b v w h).mono ?_
    rintro e w' ⟨rfl, rfl⟩
    refine ⟨rfl, ?_, ownsRow_setCell_below ho (a := ⟨b, 0, none⟩) (by simp) _, (Below.refl _ _).setCell (p := ⟨b, 0, none⟩) (Nat.le_refl _) _, by simp⟩
    simp [World.setCell, Array.getElem?_modify, h]
  · refine (copyCheck_used b v w h).mono ?_
    rintro e w' ⟨rfl, rfl⟩
    exact ⟨rfl, h, ho, Below.refl _ _, rfl⟩
theorem infoByte : (Tryd.prog.info? 5).map (fun i => (i.zero, i.size, i.bytes)) = some (some (.int .u8 0), 1, 1) := by kernel_rfl
set_option maxHeartbeats 400000 in
theorem writeString_any (b : Nat) (xs : List UInt8) (s : ByteArray) (w : World) (h : Bld w b xs) (hl : xs.length + s.size ≤ 1000000) :
    Calls Tryd.prog 28 #[.pointer (some ⟨b, 0, none⟩), .string s] w fun e w' => e = .returned (.tuple #[.int .i64 s.size, .nilIface]) ∧ Bld w' b (xs ++ s.data.toList) ∧ Below b w w' := by
  obtain ⟨p, v, hp, hb, ho⟩ := h.ex
  have HC := Lib.hid (copyCheck_any b p v _ _ w hp hb ho)
  have h1 : xs.length + s.size ≤ maxLen := by unfold maxLen; omega
  have h2 : xs.length + s.size ≤ 140737488355328 := by omega
  have hlt : b < w.heap.size := (Array.getElem?_eq_some_iff.1 hb).1
  obtain ⟨i0, hi, hz0, hz1, hz2⟩ := info_parts infoByte
  clear h hp hb ho hl
  go_enter Tryd.func28, Tryd.ntmps28
  go_wp2_with fail
  refine HC.out.mono ?_
  rintro e w1 ⟨rfl, hb1, ho1, hB1, hs1⟩
  obtain ⟨⟨a0, a1⟩, af0, af1⟩ := blk2 hb1
  have HO1 := Lib.hid ho1
  have HH1 := Lib.hid hb1
  have HB1 := Lib.hid hB1
  have hs1' := Nat.le_of_eq hs1
  have hs2' := Nat.le_of_eq hs1.symm
  clear hb1 ho1 hB1 hs1
  go_wp2_with (at_builtin; refine Lib.wpList_append_own_string _ rfl (.tmp 12) (.tmp 13) 43 9 rfl (b + 1) 5 i0 Tryd.underlying43 Tryd.underlying9 hi hz0 hz1 hz2 v xs.length (bsC xs) rfl HO1.out s rfl h1 h2 ?c5 ?_)
  case c5 => omega
  intro v' w2 ho2 hg2 _
  have R : w2.heap[b]? = some (.cells #[.pointer (some ⟨b, 0, none⟩), v] 46 (0, 0)) ∧ w2.ownsRow (b + 1) 5 1 v' (xs ++ s.data.toList).length (bsC (xs ++ s.data.toList)) ∧ Below b w w2 := by
    refine ⟨(hg2.block b (by omega) (fun e => ?_)).trans HH1.out, ?_, HB1.out.grown hg2 (by omega) (fun k e => ?_)⟩
    · have := (HO1.out.lt b e.symm).1; omega
    · rw [strCells_eq, bsC_app] at ho2
      rw [List.length_append, size_toList]
      exact ho2
    · have := (HO1.out.lt k e).1; omega
  obtain ⟨⟨y0, y1⟩, yf0, yf1⟩ := blk2 R.1
  have HR := Lib.hid R
  obtain ⟨A, cap, rfl⟩ : ∃ A cap, v' = .slice A (xs ++ s.data.toList).length cap := by
    rcases R.2.1.2 with ⟨h, h0⟩ | ⟨g, cap, _, hv, _⟩
    · exact ⟨none, 0, by rw [h, h0]⟩
    · exact ⟨_, cap, hv⟩
  clear R ho2 hg2 a0 a1 af0 af1
  go_wp2
  go_ret2
  refine ⟨rfl, ⟨_, _, .inr rfl, ?_, ownsRow_setCell_below HR.out.2.1 (a := ⟨b, 1, none⟩) (by simp) _⟩, HR.out.2.2.setCell (p := ⟨b, 1, none⟩) (Nat.le_refl _) _⟩
  have := HR.out.1
  simp [World.setCell, Array.getElem?_modify, this]
end Go.Proofs.YthbcfcbonmphfaaDoor

/- LexPlaces: plain facts for the loop over the tokens. -/
namespace Go.Proofs.YthbcfcbonmphfaaDoor
set_option maxRecDepth 100000
open Go.RowKit

theorem tkText_le13 (t : Tk) : (tkText t).length ≤ t.t.length + 13 := by
  unfold tkText
  split
  · have := decF_len 13 t.n.toNat
    unfold dec; omega
  · omega
theorem jres_one (t : Tk) (hv : validT t.k t.t t.n = true) (hl : t.t.length ≤ 1000) : jres [t] = (part t, 0) := by
  have hj : jval [t] = true := jval_of [t] fun i u hi hu => by
    have h0 : i = 0 := by simp at hi; omega
    subst h0
    have e : t = u := by simpa using hu
    subst e
    unfold tkOk
    simp [hv]
  have ht := tkText_le13 t
  unfold jres
  rw [if_pos hj]
  unfold jgo part
  by_cases h5 : t.k = 5
  · rw [if_pos h5, if_pos h5]
  · rw [if_neg h5, if_neg h5, if_neg (by simp; omega)]
    simp [jgo]
theorem ptxt_step (g : Nat → Nat) (L : List Tk) (k : Nat) (t : Tk) (h : L[k]? = some t) : ptxt g k (L.drop k) = part t ++ (gapL (g k) ++ ptxt g (k + 1) (L.drop (k + 1))) := by
  rw [drop_of L k t h, ptxt]
theorem Ends_at : ∀ (L : List Tk) (i : Nat) (t : Tk), Ends L → L[i]? = some t → (t.k = 5 ↔ i + 1 = L.length)
  | [], _, _, h, _ => h.elim
  | u :: L, 0, t, h, ht => by
    have e : u = t := by simpa using ht
    subst e
    unfold Ends at h
    split at h
    · rename_i h5
      subst h
      simp [h5]
    · rename_i h5
      cases L with
      | nil => exact h.elim
      | cons v L => simp [h5]
  | u :: L, i + 1, t, h, ht => by
    have ht' : L[i]? = some t := by simpa using ht
    unfold Ends at h
    split at h
    · subst h; simp at ht'
    · have := Ends_at L i t h ht'
      rw [this]; simp
theorem Asc_at : ∀ (L : List Tk) (a b : Int) (i : Nat) (t : Tk), Asc a b L → L[i]? = some t → 1 ≤ t.a ∧ 1 ≤ t.b
  | [], _, _, _, _, _, h => by simp at h
  | u :: L, a, b, 0, t, h, ht => by
    have e : u = t := by simpa using ht
    subst e
    exact ⟨h.2.1, h.2.2.1⟩
  | u :: L, a, b, i + 1, t, h, ht => Asc_at L _ _ i t h.2.2.2 (by simpa using ht)
theorem Asc_next : ∀ (L : List Tk) (a b : Int) (i : Nat) (u t : Tk), Asc a b L → L[i]? = some u → L[i + 1]? = some t → u.a < t.a ∨ (u.a = t.a ∧ u.b + 1 ≤ t.b)
  | [], _, _, _, _, _, _, h, _ => by simp at h
  | v :: L, a, b, 0, u, t, h, hu, ht => by
    have e : v = u := by simpa using hu
    subst e
    cases L with
    | nil => simp at ht
    | cons x L =>
      have e : x = t := by simpa using ht
      subst e
      exact h.2.2.2.1
  | v :: L, a, b, i + 1, u, t, h, hu, ht => Asc_next L _ _ i u t h.2.2.2 (by simpa using hu) (by simpa using ht)
/-- One token of a slice is a slice of tokens. -/
theorem SlT.one {w : World} {b off k : Nat} {L : List Tk} {t : Tk} (h : SlT w (some ⟨b, off, none⟩) L) (ht : L[k]? = some t) : SlT w (some ⟨b, off + k * 5, none⟩) [t] := by
  intro _
  have hk := (List.getElem?_eq_some_iff.1 ht).1
  obtain ⟨b', off', e, hlt, hc⟩ := h (by omega)
  injection e with e
  injection e with e1 e2 _
  subst e1 e2
  refine ⟨b, off + k * 5, rfl, hlt, fun i u hu => ?_⟩
  have h0 : i = 0 := by
    rcases Nat.eq_zero_or_pos i with h | h
    · exact h
    · rw [List.getElem?_eq_none (by simp; omega)] at hu; cases hu
  subst h0
  have e : t = u := by simpa using hu
  subst e
  have := hc k t ht
  simpa using this
/-- Bytes of a slice that came in. -/
def ByT (w : World) (G : Option Addr) (gs : List UInt8) : Prop :=
  0 < gs.length → ∃ b off, G = some ⟨b, off, none⟩ ∧ b < w.heap.size ∧ ∀ (i : Nat) (c : UInt8), gs[i]? = some c → w.cell? ⟨b, off + i, none⟩ = some (.int .u8 c.toNat)
theorem ByT.below {w w' : World} {G : Option Addr} {gs : List UInt8} (h : ByT w G gs) (hb : Below w.heap.size w w') : ByT w' G gs := fun hl => by
  obtain ⟨b, off, rfl, hlt, hc⟩ := h hl
  have hs := hb.size
  exact ⟨b, off, rfl, by omega, fun i c hi => (hb.cell (p := ⟨b, off + i, none⟩) hlt).trans (hc i c hi)⟩
/-- Which gap stands behind the i-th token. -/
def gIdx (gs : List UInt8) (i : Nat) : Nat := match gs[i]? with
  | some c => c.toNat % 5
  | none => 0
end Go.Proofs.YthbcfcbonmphfaaDoor
