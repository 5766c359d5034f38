/- LexPlaces: the law's walk. -/
import Derived.Shelf.Strings.BuilderK
import Derived.Test.YthbcfcbonmphfaaDoorPlacSBundle
import Derived.Test.YthbcfcbonmphfaaDoorJoinDBundle
import Derived.Test.YthbcfcbonmphfaaDoorTermTBundle
import Derived.BigQuiet
import Derived.Deep.DeepCutAuto
import Derived.Deep.CutBlock
import Derived.IntWalk
/- LexPlaces: the builder's methods. -/
namespace Go.Proofs.YthbcfcbonmphfaaDoor
set_option maxRecDepth 100000
open Go.RowKit Go.Shelf

def Tryd.lays169_ren : Go.Shelf.Ren := ⟨fun | 169 => 29 | n => n, fun | 70 => 44 | 9 => 9 | 0 => 0 | 72 => 46 | 37 => 43 | 127 => 110 | 3 => 3 | 5 => 5 | n => n, fun | n => n⟩
theorem Tryd.lays169 : Go.Proofs.Lays.n169 Tryd.prog Tryd.lays169_ren := {
  mixed := by kernel_rfl
  f169 := Tryd.func29.trans (congrArg some (by kernel_rfl))
  t0 := Tryd.underlying0
  a0 := Tryd.isAgg0
  z0 := Tryd.sizeOf0
  v0 := Tryd.zeroValue0
  t3 := Tryd.underlying3
  a3 := Tryd.isAgg3
  z3 := Tryd.sizeOf3
  v3 := Tryd.zeroValue3
  t9 := Tryd.underlying9
  a9 := Tryd.isAgg9
  z9 := Tryd.sizeOf9
  v9 := Tryd.zeroValue9
  t37 := Tryd.underlying43
  a37 := Tryd.isAgg43
  z37 := Tryd.sizeOf43
  v37 := Tryd.zeroValue43
  t70 := Tryd.underlying44
  a70 := Tryd.isAgg44
  z70 := Tryd.sizeOf44
  v70 := Tryd.zeroValue44
  t72 := Tryd.underlying46
  a72 := Tryd.isAgg46
  z72 := Tryd.sizeOf46
  v72 := Tryd.zeroValue46
  t127 := Tryd.underlying110
  a127 := Tryd.isAgg110
  z127 := Tryd.sizeOf110
  v127 := Tryd.zeroValue110 }
theorem Tryd.Builder_Extra_169 : Builder.Extra Tryd.prog Tryd.lays169_ren := {
  sizeBuilder := by kernel_rfl
  liesBuilder := by kernel_rfl
  t5 := Tryd.underlying5
  a5 := Tryd.isAgg5
  z5 := Tryd.sizeOf5
  v5 := Tryd.zeroValue5
  infoByte := by kernel_rfl
  cellsByte := by kernel_rfl
  sizeByte := by kernel_rfl
  neB5 := by decide }
theorem string_any (B b : Nat) (l : List UInt8) (w : World) (h : Lib.IsBuilderF 46 5 B b (Lib.byteCells l) w) (hBw : B ≤ w.heap.size) :
    Calls Tryd.prog 29 #[.pointer (some ⟨b, 0, none⟩)] w fun e w' => e = .returned (.string ⟨l.toArray⟩) ∧ (Lib.IsBuilderF 46 5 B b (Lib.byteCells l) w' ∧ Below B w w' ∧ Lib.OthersKept 5 (some b) w w') :=
  Any.Builder_String_any_k Tryd.lays169 Tryd.Builder_Extra_169 B b l w h hBw

set_option maxHeartbeats 1000000 in
theorem copyCheck_used (b : Nat) (v : Value) (w : World) (h : w.heap[b]? = some (.cells #[.pointer (some ⟨b, 0, none⟩), v] 46 (0, 0))) :
    Calls Tryd.prog 71 #[.pointer (some ⟨b, 0, none⟩)] w fun e w' => e = .returned (.tuple #[]) ∧ w' = w := by
  obtain ⟨j, hj0, _⟩ := Option.map_eq_some_iff.1 Tryd.Builder_Extra_169.sizeBuilder
  have hj : Tryd.prog.info? 46 = some j := hj0
  have a0 := (blk2 h).1.1
  clear h hj0
  go_enter Tryd.func71, Tryd.ntmps71
  go_wp2
  rw [Lib.run_neq_ptr_same w _ Tryd.underlying44 hj]
  go_wp2
  go_end0
  exact ⟨rfl, rfl⟩
set_option maxHeartbeats 1000000 in
theorem copyCheck_new (b : Nat) (v : Value) (w : World) (h : w.heap[b]? = some (.cells #[.pointer none, v] 46 (0, 0))) :
    Calls Tryd.prog 71 #[.pointer (some ⟨b, 0, none⟩)] w fun e w' => e = .returned (.tuple #[]) ∧ w' = w.setCell ⟨b, 0, none⟩ (.pointer (some ⟨b, 0, none⟩)) := by
  obtain ⟨j, hj0, hjs⟩ := Option.map_eq_some_iff.1 Tryd.Builder_Extra_169.sizeBuilder
  have hj : Tryd.prog.info? 46 = some j := hj0
  have hsh : w.shape? b = some (46, 2) := by simp [World.shape?, h]
  have h0 := (blk2 h).1.1
  have hfz := (blk2 h).2.1
  clear h hj0
  go_enter Tryd.func71, Tryd.ntmps71
  go_wp2
  rw [Lib.run_to_unsafe w ⟨b, 0, none⟩ Tryd.underlying44 Tryd.underlying166 hj (by rw [hjs]; decide) hsh (Nat.zero_lt_succ 1)]
  simp only [Result.andThen]
  rw [Oper.upon_value]
  go_wp2
  rw [run_callFunc_extern Tryd.func119 (by kernel_rfl) (by kernel_rfl) (by kernel_rfl) (e := Extern.AbiNoEscape.same) (by kernel_rfl)]
  rw [Lib.run_noEscape]
  simp only [Result.andThen]
  rw [Oper.upon_value]
  go_wp2
  rw [Lib.run_from_unsafe w ⟨b, 0, none⟩ Tryd.underlying166 Tryd.underlying44 hj hsh Tryd.Builder_Extra_169.liesBuilder]
  simp only [Result.andThen]
  rw [Oper.upon_value]
  go_wp2
  go_end0
  exact ⟨rfl, rfl⟩
/-- A builder in block b that holds these bytes; its row lies above it. -/
structure Bld (w : World) (b : Nat) (xs : List UInt8) : Prop where
  ex : ∃ p v, (p = .pointer none ∨ p = .pointer (some ⟨b, 0, none⟩)) ∧ w.heap[b]? = some (.cells #[p, v] 46 (0, 0)) ∧ w.ownsRow (b + 1) 5 1 v xs.length (bsC xs)
theorem copyCheck_any (b : Nat) (p v : Value) (n : Nat) (xs : List Value) (w : World) (hp : p = .pointer none ∨ p = .pointer (some ⟨b, 0, none⟩)) (h : w.heap[b]? = some (.cells #[p, v] 46 (0, 0))) (ho : w.ownsRow (b + 1) 5 1 v n xs) :
    Calls Tryd.prog 71 #[.pointer (some ⟨b, 0, none⟩)] w fun e w' => e = .returned (.tuple #[]) ∧ w'.heap[b]? = some (.cells #[.pointer (some ⟨b, 0, none⟩), v] 46 (0, 0)) ∧ w'.ownsRow (b + 1) 5 1 v n xs ∧ Below b w w' ∧ w'.heap.size = w.heap.size := by
  rcases hp with rfl | rfl
  · refine (copyCheck_new b v w h).mono ?_
    rintro e w' ⟨rfl, rfl⟩
    refine ⟨rfl, ?_, ownsRow_setCell_below ho (a := ⟨b, 0, none⟩) (by simp) _, (Below.refl _ _).setCell (p := ⟨b, 0, none⟩) (Nat.le_refl _) _, by simp⟩
    simp [World.setCell, Array.getElem?_modify, h]
  · refine (copyCheck_used b v w h).mono ?_
    rintro e w' ⟨rfl, rfl⟩
    exact ⟨rfl, h, ho, Below.refl _ _, rfl⟩
theorem infoByte : (Tryd.prog.info? 5).map (fun i => (i.zero, i.size, i.bytes)) = some (some (.int .u8 0), 1, 1) := by kernel_rfl
set_option maxHeartbeats 400000 in
theorem writeString_any (b : Nat) (xs : List UInt8) (s : ByteArray) (w : World) (h : Bld w b xs) (hl : xs.length + s.size ≤ 1000000) :
    Calls Tryd.prog 28 #[.pointer (some ⟨b, 0, none⟩), .string s] w fun e w' => e = .returned (.tuple #[.int .i64 s.size, .nilIface]) ∧ Bld w' b (xs ++ s.data.toList) ∧ Below b w w' := by
  obtain ⟨p, v, hp, hb, ho⟩ := h.ex
  have HC := Lib.hid (copyCheck_any b p v _ _ w hp hb ho)
  have h1 : xs.length + s.size ≤ maxLen := by unfold maxLen; omega
  have h2 : xs.length + s.size ≤ 140737488355328 := by omega
  have hlt : b < w.heap.size := (Array.getElem?_eq_some_iff.1 hb).1
  obtain ⟨i0, hi, hz0, hz1, hz2⟩ := info_parts infoByte
  clear h hp hb ho hl
  go_enter Tryd.func28, Tryd.ntmps28
  go_wp2_with fail
  refine HC.out.mono ?_
  rintro e w1 ⟨rfl, hb1, ho1, hB1, hs1⟩
  obtain ⟨⟨a0, a1⟩, af0, af1⟩ := blk2 hb1
  have HO1 := Lib.hid ho1
  have HH1 := Lib.hid hb1
  have HB1 := Lib.hid hB1
  have hs1' := Nat.le_of_eq hs1
  have hs2' := Nat.le_of_eq hs1.symm
  clear hb1 ho1 hB1 hs1
  go_wp2_with (at_builtin; refine Lib.wpList_append_own_string _ rfl (.tmp 12) (.tmp 13) 43 9 rfl (b + 1) 5 i0 Tryd.underlying43 Tryd.underlying9 hi hz0 hz1 hz2 v xs.length (bsC xs) rfl HO1.out s rfl h1 h2 ?c5 ?_)
  case c5 => omega
  intro v' w2 ho2 hg2 _
  have R : w2.heap[b]? = some (.cells #[.pointer (some ⟨b, 0, none⟩), v] 46 (0, 0)) ∧ w2.ownsRow (b + 1) 5 1 v' (xs ++ s.data.toList).length (bsC (xs ++ s.data.toList)) ∧ Below b w w2 := by
    refine ⟨(hg2.block b (by omega) (fun e => ?_)).trans HH1.out, ?_, HB1.out.grown hg2 (by omega) (fun k e => ?_)⟩
    · have := (HO1.out.lt b e.symm).1; omega
    · rw [strCells_eq, bsC_app] at ho2
      rw [List.length_append, size_toList]
      exact ho2
    · have := (HO1.out.lt k e).1; omega
  obtain ⟨⟨y0, y1⟩, yf0, yf1⟩ := blk2 R.1
  have HR := Lib.hid R
  obtain ⟨A, cap, rfl⟩ : ∃ A cap, v' = .slice A (xs ++ s.data.toList).length cap := by
    rcases R.2.1.2 with ⟨h, h0⟩ | ⟨g, cap, _, hv, _⟩
    · exact ⟨none, 0, by rw [h, h0]⟩
    · exact ⟨_, cap, hv⟩
  clear R ho2 hg2 a0 a1 af0 af1
  go_wp2
  go_ret2
  refine ⟨rfl, ⟨_, _, .inr rfl, ?_, ownsRow_setCell_below HR.out.2.1 (a := ⟨b, 1, none⟩) (by simp) _⟩, HR.out.2.2.setCell (p := ⟨b, 1, none⟩) (Nat.le_refl _) _⟩
  have := HR.out.1
  simp [World.setCell, Array.getElem?_modify, this]
end Go.Proofs.YthbcfcbonmphfaaDoor

/- LexPlaces: plain facts for the loop over the tokens. -/
namespace Go.Proofs.YthbcfcbonmphfaaDoor
set_option maxRecDepth 100000
open Go.RowKit

theorem tkText_le13 (t : Tk) : (tkText t).length ≤ t.t.length + 13 := by
  unfold tkText
  split
  · have := decF_len 13 t.n.toNat
    unfold dec; omega
  · omega
theorem jres_one (t : Tk) (hv : validT t.k t.t t.n = true) (hl : t.t.length ≤ 1000) : jres [t] = (part t, 0) := by
  have hj : jval [t] = true := jval_of [t] fun i u hi hu => by
    have h0 : i = 0 := by simp at hi; omega
    subst h0
    have e : t = u := by simpa using hu
    subst e
    unfold tkOk
    simp [hv]
  have ht := tkText_le13 t
  unfold jres
  rw [if_pos hj]
  unfold jgo part
  by_cases h5 : t.k = 5
  · rw [if_pos h5, if_pos h5]
  · rw [if_neg h5, if_neg h5, if_neg (by simp; omega)]
    simp [jgo]
theorem ptxt_step (g : Nat → Nat) (L : List Tk) (k : Nat) (t : Tk) (h : L[k]? = some t) : ptxt g k (L.drop k) = part t ++ (gapL (g k) ++ ptxt g (k + 1) (L.drop (k + 1))) := by
  rw [drop_of L k t h, ptxt]
theorem Ends_at : ∀ (L : List Tk) (i : Nat) (t : Tk), Ends L → L[i]? = some t → (t.k = 5 ↔ i + 1 = L.length)
  | [], _, _, h, _ => h.elim
  | u :: L, 0, t, h, ht => by
    have e : u = t := by simpa using ht
    subst e
    unfold Ends at h
    split at h
    · rename_i h5
      subst h
      simp [h5]
    · rename_i h5
      cases L with
      | nil => exact h.elim
      | cons v L => simp [h5]
  | u :: L, i + 1, t, h, ht => by
    have ht' : L[i]? = some t := by simpa using ht
    unfold Ends at h
    split at h
    · subst h; simp at ht'
    · have := Ends_at L i t h ht'
      rw [this]; simp
theorem Asc_at : ∀ (L : List Tk) (a b : Int) (i : Nat) (t : Tk), Asc a b L → L[i]? = some t → 1 ≤ t.a ∧ 1 ≤ t.b
  | [], _, _, _, _, _, h => by simp at h
  | u :: L, a, b, 0, t, h, ht => by
    have e : u = t := by simpa using ht
    subst e
    exact ⟨h.2.1, h.2.2.1⟩
  | u :: L, a, b, i + 1, t, h, ht => Asc_at L _ _ i t h.2.2.2 (by simpa using ht)
theorem Asc_next : ∀ (L : List Tk) (a b : Int) (i : Nat) (u t : Tk), Asc a b L → L[i]? = some u → L[i + 1]? = some t → u.a < t.a ∨ (u.a = t.a ∧ u.b + 1 ≤ t.b)
  | [], _, _, _, _, _, _, h, _ => by simp at h
  | v :: L, a, b, 0, u, t, h, hu, ht => by
    have e : v = u := by simpa using hu
    subst e
    cases L with
    | nil => simp at ht
    | cons x L =>
      have e : x = t := by simpa using ht
      subst e
      exact h.2.2.2.1
  | v :: L, a, b, i + 1, u, t, h, hu, ht => Asc_next L _ _ i u t h.2.2.2 (by simpa using hu) (by simpa using ht)
/-- One token of a slice is a slice of tokens. -/
theorem SlT.one {w : World} {b off k : Nat} {L : List Tk} {t : Tk} (h : SlT w (some ⟨b, off, none⟩) L) (ht : L[k]? = some t) : SlT w (some ⟨b, off + k * 5, none⟩) [t] := by
  intro _
  have hk := (List.getElem?_eq_some_iff.1 ht).1
  obtain ⟨b', off', e, hlt, hc⟩ := h (by omega)
  injection e with e
  injection e with e1 e2 _
  subst e1 e2
  refine ⟨b, off + k * 5, rfl, hlt, fun i u hu => ?_⟩
  have h0 : i = 0 := by
    rcases Nat.eq_zero_or_pos i with h | h
    · exact h
    · rw [List.getElem?_eq_none (by simp; omega)] at hu; cases hu
  subst h0
  have e : t = u := by simpa using hu
  subst e
  have := hc k t ht
  simpa using this
/-- Bytes of a slice that came in. -/
def ByT (w : World) (G : Option Addr) (gs : List UInt8) : Prop :=
  0 < gs.length → ∃ b off, G = some ⟨b, off, none⟩ ∧ b < w.heap.size ∧ ∀ (i : Nat) (c : UInt8), gs[i]? = some c → w.cell? ⟨b, off + i, none⟩ = some (.int .u8 c.toNat)
theorem ByT.below {w w' : World} {G : Option Addr} {gs : List UInt8} (h : ByT w G gs) (hb : Below w.heap.size w w') : ByT w' G gs := fun hl => by
  obtain ⟨b, off, rfl, hlt, hc⟩ := h hl
  have hs := hb.size
  exact ⟨b, off, rfl, by omega, fun i c hi => (hb.cell (p := ⟨b, off + i, none⟩) hlt).trans (hc i c hi)⟩
/-- Which gap stands behind the i-th token. -/
def gIdx (gs : List UInt8) (i : Nat) : Nat := match gs[i]? with
  | some c => c.toNat % 5
  | none => 0
end Go.Proofs.YthbcfcbonmphfaaDoor
namespace Go.Proofs.YthbcfcbonmphfaaDoor
set_option maxRecDepth 100000
open Go.RowKit

theorem own_cap {w : World} {B n c : Nat} {A : Option Addr} {xs : List Value} (h : w.ownsRow B 25 5 (.slice A n c) n xs) : n ≤ c := by
  rcases h.2 with ⟨h, h0⟩ | ⟨_, cap, _, hv, _, _, h1, _⟩
  · omega
  · injection hv with _ _ e; omega
theorem Bld.below {w w' : World} {b : Nat} {xs : List UInt8} (h : Bld w b xs) (hb : Below w.heap.size w w') : Bld w' b xs := by
  obtain ⟨p, v, hp, h1, h2⟩ := h.ex
  have hlt := (Array.getElem?_eq_some_iff.1 h1).1
  exact ⟨p, v, hp, (hb.block _ hlt).trans h1, h2.kept (row := none) ⟨hb.os, hb.tape, hb.output, hb.size, fun i hi _ => hb.block i hi⟩ (by cases v.ownBlock <;> simp)⟩
theorem Bld.drewN {w : World} {b : Nat} {xs : List UInt8} (h : Bld w b xs) (q : Nat) : Bld (w.drewN q) b xs := h.below (below_drewN (Below.refl _ _) q)
theorem app_le (a : List UInt8) (g : ByteArray) (h : g.size ≤ 7) : ((⟨a.toArray⟩ : ByteArray) ++ g).size ≤ a.length + 7 := by
  rw [ByteArray.size_append]
  show a.toArray.size + _ ≤ _
  rw [List.size_toArray]; omega
theorem app_data (a : List UInt8) (g : ByteArray) : ((⟨a.toArray⟩ : ByteArray) ++ g).data.toList = a ++ g.data.toList := by
  rw [ByteArray.data_append, Array.toList_append]
theorem Bld.isF {w : World} {b : Nat} {xs : List UInt8} (h : Bld w (b + 1) xs) : Lib.IsBuilderF 46 5 b (b + 1) (Lib.byteCells xs) w := by
  obtain ⟨p, v, hp, h1, h2⟩ := h.ex
  have hl : (Lib.byteCells xs).length = xs.length := Lib.byteCells_length xs
  have key : Lib.BuilderAtF 46 5 b (b + 1) p (Lib.byteCells xs) w :=
    ⟨by omega, v, h1, by rw [hl]; exact World.ownsRowF_of (h2.mono (by omega)), fun e => by have := (h2.lt (b + 1) e).1; omega⟩
  rcases hp with rfl | rfl
  · exact .inl key
  · exact .inr key
theorem small_one (t : Tk) (h : t.t.length ≤ 1000) : Small [t] := ⟨by simp, fun i u hu => by
  rcases Nat.eq_zero_or_pos i with h0 | h0
  · subst h0
    have e : t = u := by simpa using hu
    rw [← e]; exact h
  · rw [List.getElem?_eq_none (by simp; omega)] at hu; cases hu⟩
theorem tlen_le : ∀ (L : List Tk) (i : Nat) (t : Tk), L[i]? = some t → t.t.length ≤ tlen L
  | [], _, _, h => by simp at h
  | u :: L, 0, t, h => by
    have e : u = t := by simpa using h
    subst e
    unfold tlen; omega
  | u :: L, i + 1, t, h => by
    have := tlen_le L i t (by simpa using h)
    unfold tlen; omega
set_option maxRecDepth 100000 in
set_option maxHeartbeats 4000000 in
theorem lexPlaces_ok (s : ByteArray) (G : Option Addr) (gc : Nat) (gs : List UInt8) (L : List Tk) (w : World) (hp : Pairs w) (hg : ByT w G gs) (htk : toks s.data.toList 1 1 = .ok L) (hs : s.size ≤ 400) (hgs : gs.length ≤ 100) :
    Calls Tryd.prog 7 #[.string s, .slice G gs.length gc] w fun e w' => e = .returned (.bool true) ∧ Below w.heap.size w w' := by
  have HP := Lib.hid hp
  have HG := Lib.hid hg
  have HTK := Lib.hid htk
  obtain ⟨hv, hasc, hend, htl, hll⟩ := toks_places _ _ htk
  rw [size_toList] at htl hll
  have HV := Lib.hid hv
  have HA := Lib.hid hasc
  have HE := Lib.hid hend
  have hLp : 0 < L.length := by cases L with | nil => exact hend.elim | cons _ _ => simp
  have d1 : decide ((400 : Int) < (s.size : Int)) = false := by simp; omega
  have d2 : decide ((100 : Int) < (gs.length : Int)) = false := by simp; omega
  clear hp hg htk hv hasc hend
  go_enter Tryd.func7, Tryd.ntmps7
  go_wp2_with fail
  refine (awake_any _ HP.out).mono ?_
  rintro e w1 ⟨rfl, hb1⟩
  have HB1 := Lib.hid hb1
  clear hb1
  go_wp2_with fail
  refine (tokens_any s w1 (by omega) (HP.out.below HB1.out HP.out.lt)).mono ?_
  rintro e w2 ⟨hb2, hT⟩
  rw [HTK.out] at hT
  obtain ⟨v, rfl, ho⟩ := hT
  obtain ⟨A, cap, rfl, hsl, _⟩ := slT_own ho
  obtain ⟨b, off, rfl, hblt, _⟩ := hsl hLp
  have HB2 := Lib.hid (HB1.out.trans (hb2.mono HB1.out.size))
  have HSL := Lib.hid hsl
  have HP2 := Lib.hid (HP.out.below HB2.out HP.out.lt)
  have HG2 := Lib.hid (HG.out.below HB2.out)
  have hcap := own_cap ho
  clear hb2 hsl ho
  go_wp2_with fail
  have HX0 : Hid (Bld ((w2.alloc (.cells #[.int .i64 0, .int .i64 0] 23)).alloc (.cells #[.pointer none, .slice none 0 0] 46)) (w2.heap.size + 1) []) := by
    refine ⟨_, _, .inl rfl, ?_, World.ownsRow_nil _ _ _ _⟩
    have := heap_alloc_new (w2.alloc (.cells #[.int .i64 0, .int .i64 0] 23)) (.cells #[.pointer none, .slice none 0 0] 46)
    simpa using this
  have HX1 : Hid (Below w2.heap.size w2 ((w2.alloc (.cells #[.int .i64 0, .int .i64 0] 23)).alloc (.cells #[.pointer none, .slice none 0 0] 46))) := ((Below.refl _ _).alloc (Nat.le_refl _) _).alloc (by simp) _
  go_loopw [40] (fun i wr => ∃ (k : Nat) (xs : List UInt8), k ≤ L.length ∧ i = .int .i64 k ∧ Bld wr (w2.heap.size + 1) xs ∧ xs ++ ptxt (gIdx gs) k (L.drop k) = ptxt (gIdx gs) 0 L ∧ Below w2.heap.size w2 wr) (fun i _ => L.length - (intOf i).toNat)
  case atStart => exact ⟨0, [], by omega, rfl, HX0.out, rfl, HX1.out⟩
  case round =>
    clear HX0 HX1
    obtain ⟨k, xs, hk, rfl, hbld, hxs, hbw⟩ := hrel
    have HBL := Lib.hid hbld
    have HXS := Lib.hid hxs
    have HBW := Lib.hid hbw
    clear hbld hxs hbw
    by_cases hlt : k < L.length
    · obtain ⟨t, ht⟩ : ∃ t, L[k]? = some t := ⟨L[k]'hlt, List.getElem?_eq_getElem _⟩
      have HT := Lib.hid ht
      have HSr := Lib.hid (HSL.out.below HBW.out)
      obtain ⟨b', off', e, hbr, hc⟩ := HSr.out hLp
      injection e with e; injection e with e1 e2 _; subst e1 e2
      obtain ⟨x0, x1, x2, x3, x4⟩ := hc k t ht
      have hltI : decide ((k : Int) < (L.length : Int)) = true := by simp; omega
      have hltI2 : (k : Int) < (L.length : Int) := by omega
      clear hc ht
      go_wp2_with fail
      have htlen : t.t.length ≤ 400 := by have := tlen_le L k t HT.out; omega
      refine (valid_tk t _ (by omega) ((HP2.out.below HBW.out HP2.out.lt).alloc _) true (HV.out t (List.mem_of_getElem? HT.out))).mono ?_
      rintro e w3 ⟨rfl, hb3⟩
      obtain ⟨⟨z0, z1, z2, z3, z4⟩, f0, f1, f2, f3, f4⟩ := blk5 ((hb3.block _ (by simp)).trans (heap_alloc_new wr _))
      have HB3 := Lib.hid (((Below.refl _ _).alloc (Nat.le_refl _) _).trans (hb3.mono (by simp)))
      have hs3 := HB3.out.size
      have hz3 : wr.heap.size < w3.heap.size := by have := hb3.size; simp at this; omega
      clear hb3 x0 x1 x2 x3 x4
      have ha := Asc_at L 1 1 k t HA.out HT.out
      have g3 : decide (t.a < 1) = false := by simp; omega
      have g4 : decide (t.b < 1) = false := by simp; omega
      have g12 : ∃ v5 : Bool, (t.k == 5) = v5 ∧ ((k : Int) == (L.length : Int) - 1) = v5 := by
        have := Ends_at L k t HE.out HT.out
        by_cases h5 : t.k = 5
        · have := this.1 h5
          exact ⟨true, by simp [h5], by simp; omega⟩
        · have : ¬ (k + 1 = L.length) := fun h => h5 (this.2 h)
          exact ⟨false, beq_eq_false_iff_ne.2 h5, beq_eq_false_iff_ne.2 (by omega)⟩
      obtain ⟨v5, g1, g2⟩ := g12
      have HS3 := Lib.hid (HSr.out.below HB3.out)
      go_upto_region 14 with fail
      go_cut [111] from 41 to 140 (fun v wx => v = .bool false ∧ ∃ q, wx = w3.drewN q)
      case first =>
        clear g1 g2 g3 g4
        rcases Nat.eq_zero_or_pos k with h0 | h0
        · subst h0
          go_quiet (fail)
          go_wp2_with fail
          go_meet
          exact ⟨rfl, _, rfl⟩
        · obtain ⟨m, hm⟩ : ∃ m, k = m + 1 := ⟨k - 1, by omega⟩
          obtain ⟨u, hu⟩ : ∃ u, L[m]? = some u := ⟨L[m]'(by omega), List.getElem?_eq_getElem _⟩
          have hn := Asc_next L 1 1 m u t HA.out hu (by rw [← hm]; exact HT.out)
          obtain ⟨b', off', e, hbr3, hc⟩ := HS3.out hLp
          injection e with e; injection e with e1 e2 _; subst e1 e2
          obtain ⟨_, _, _, y3, y4⟩ := hc m u hu
          have k0 : decide ((0 : Int) < (k : Int)) = true := by simp; omega
          have q1 : decide (t.a < u.a) = false := by simp; omega
          have n0 : (m : Int) < (L.length : Int) := by omega
          have n1 : True → IntKind.i64.wrap ((k : Int) - 1) = (m : Int) := fun _ => by rw [IntWalk.i64_in _ (by omega)]; omega
          by_cases hae : t.a = u.a
          · have q2 : (t.a == u.a) = true := beq_iff_eq.2 hae
            have q3 : decide (t.b ≤ u.b) = false := by simp; omega
            clear hn hc hu hm hae
            go_quiet (fail)
            go_wp2_with fail
            go_meet
            exact ⟨rfl, _, rfl⟩
          · have q2 : (t.a == u.a) = false := beq_eq_false_iff_ne.2 hae
            clear hn hc hu hm hae
            go_quiet (fail)
            go_wp2_with fail
            go_meet
            exact ⟨rfl, _, rfl⟩
      case rest =>
        obtain ⟨rfl, q, rfl⟩ := hcut
        have hkc : k + 1 ≤ cap := by omega
        have hkcI : (k : Int) + 1 ≤ (cap : Int) := by omega
        have HB4 := Lib.hid (below_drewN (HBW.out.trans (HB3.out.mono HBW.out.size)) q)
        have HBL4 := Lib.hid ((HBL.out.below HB3.out).drewN q)
        go_wp2_with fail
        have hjn := join_any (some ⟨b, off + k * 5, none⟩) (cap - k) [t] (w3.drewN q) (HP2.out.below HB4.out HP2.out.lt) (small_one t (by omega)) (SlT.one (HSL.out.below HB4.out) HT.out)
        unfold joinV at hjn
        rw [jres_one t (HV.out t (List.mem_of_getElem? HT.out)) (by omega)] at hjn
        refine hjn.mono ?_
        rintro e w5 ⟨rfl, hb5⟩
        have HBL5 := Lib.hid (HBL4.out.below hb5)
        have HB5 := Lib.hid (HB4.out.trans (hb5.mono HB4.out.size))
        clear hjn hb5
        go_upto_if 126 with fail
        go_cut [13] from 41 to 140 (fun v wx => ∃ kk : Nat, v = .int .i64 kk ∧ kk < 256 ∧ kk % 5 = gIdx gs k ∧ w5 = wx)
        case first =>
          by_cases hkg : k < gs.length
          · obtain ⟨c, hc⟩ : ∃ c, gs[k]? = some c := ⟨gs[k]'hkg, List.getElem?_eq_getElem _⟩
            obtain ⟨gb, goff, hG, hglt, hgc⟩ := (HG2.out.below HB5.out) (by omega)
            have y := hgc k c hc
            have HCC := Lib.hid hc
            have hI : decide ((k : Int) < (gs.length : Int)) = true := by simp; omega
            have hI2 : (k : Int) < (gs.length : Int) := by omega
            have hcl : (c.toNat : Int) < 256 := by have := c.toNat_lt; omega
            subst hG
            clear hgc hc
            go_wp2_with fail
            go_meet
            exact ⟨c.toNat, rfl, by omega, by unfold gIdx; rw [HCC.out], rfl⟩
          · have hI : decide ((k : Int) < (gs.length : Int)) = false := by simp; omega
            go_wp2_with fail
            go_meet
            exact ⟨0, rfl, by omega, by unfold gIdx; rw [List.getElem?_eq_none (by omega)], rfl⟩
        case rest =>
          obtain ⟨kk, rfl, hkk, hmod, rfl⟩ := hcut
          have HXL : Hid (xs.length ≤ 8500) := by
            have h1 := congrArg List.length HXS.out
            have h2 := ptxt_len (gIdx gs) L 0
            rw [List.length_append] at h1
            show _ ≤ _
            omega
          have HPL : Hid ((part t).length ≤ 413) := by
            have := tkText_le13 t
            show _ ≤ _
            unfold part
            split
            · simp
            · omega
          have HNX : Hid (∀ y : List UInt8, y = gapL (gIdx gs k) → (xs ++ (part t ++ y)) ++ ptxt (gIdx gs) (k + 1) (L.drop (k + 1)) = ptxt (gIdx gs) 0 L) := fun y hy => by
            rw [← HXS.out, ptxt_step _ _ _ _ HT.out, hy]; simp
          have hj : kk % 5 = 0 ∨ kk % 5 = 1 ∨ kk % 5 = 2 ∨ kk % 5 = 3 ∨ kk % 5 = 4 := by omega
          rcases hj with hj | hj | hj | hj | hj
          all_goals
            have HGP := Lib.hid (hmod.symm.trans hj)
            have hmd : (kk : Int).tmod 5 = ((kk % 5 : Nat) : Int) := by rw [Int.tmod_eq_emod_of_nonneg (by omega)]; omega
            rw [hj] at hmd
            clear hmod hj
            have hpl : (part t).length ≤ 413 := HPL.out
            go_wp2_with fail
            refine (writeString_any (w2.heap.size + 1) xs _ _ (HBL5.out.below ((Below.refl _ _).alloc (Nat.le_refl _) _)) (Nat.le_trans (Nat.add_le_add_left (app_le _ _ (by decide)) _) (by have := HXL.out; omega))).mono ?_
            rintro e w6 ⟨rfl, hbl6, hb6⟩
            rw [app_data] at hbl6
            have HBL6 := Lib.hid hbl6
            have HB6 := Lib.hid (HB5.out.trans (((Below.refl _ _).alloc HB5.out.size _).trans (hb6.mono (Nat.le_succ _))))
            clear hbl6 hb6
            go_wp2
            go_roundw
            case rel => exact ⟨k + 1, _, by omega, by go_num, HBL6.out, HNX.out _ (by rw [HGP.out]; rfl), HB6.out⟩
            case measure => simp [intOf]; omega
    · have hkL : k = L.length := by omega
      have HXE : Hid (xs = ptxt (gIdx gs) 0 L) := by
        have h := HXS.out
        rw [hkL, List.drop_length, ptxt, List.append_nil] at h
        exact h
      have HXL : Hid (xs.length ≤ 8500) := by
        have h1 := congrArg List.length HXE.out
        have h2 := ptxt_len (gIdx gs) L 0
        show _ ≤ _
        omega
      obtain ⟨r, hr, hm⟩ := toks_ptxt (gIdx gs) L 0 1 1 HV.out HE.out
      have HR : Hid (toks (ByteArray.mk xs.toArray).data.toList 1 1 = .ok r) := by
        show _ = _
        rw [show (ByteArray.mk xs.toArray).data.toList = xs by simp, HXE.out]
        exact hr
      have HRM := Lib.hid hm
      have HRL : Hid (r.length = L.length) := by have := congrArg List.length hm; simp at this; exact this
      have HF := Lib.hid HBL.out.isF
      have hI : decide ((k : Int) < (L.length : Int)) = false := by simp; omega
      clear hr hm hkL
      go_wp2_with fail
      refine (string_any w2.heap.size (w2.heap.size + 1) xs wr HF.out HBW.out.size).mono ?_
      rintro e w5 ⟨rfl, _, hb5, _⟩
      have HB5 := Lib.hid (HBW.out.trans hb5)
      clear hb5
      go_wp2_with fail
      refine (tokens_any ⟨xs.toArray⟩ w5 (by show xs.toArray.size ≤ _; rw [List.size_toArray]; have := HXL.out; omega) (HP2.out.below HB5.out HP2.out.lt)).mono ?_
      rintro e w6 ⟨hb6, hT⟩
      rw [HR.out] at hT
      obtain ⟨v, rfl, ho⟩ := hT
      obtain ⟨A', cap', hv', hsl', _⟩ := slT_own ho
      rw [HRL.out] at hv'
      subst hv'
      have HS6 := Lib.hid hsl'
      have HB6 := Lib.hid (HB5.out.trans (hb6.mono HB5.out.size))
      clear hb6 hsl' ho
      go_wp2_with fail
      refine (same_true A' (some ⟨b, off, none⟩) cap' cap L.length r L _ HRL.out (by unfold maxLen; omega) (HS6.out.below ((Below.refl _ _).alloc (Nat.le_refl _) _)) (HSL.out.below (HB6.out.alloc HB6.out.size _)) HRM.out).mono ?_
      rintro e w7 ⟨rfl, q, rfl⟩
      have HFIN := Lib.hid (HB2.out.trans ((HB6.out.alloc HB6.out.size (.cells #[.int .i64 0, .int .i64 0] 23)).mono HB2.out.size))
      go_wp2
      go_ret
      exact ⟨rfl, below_drewN HFIN.out q⟩
end Go.Proofs.YthbcfcbonmphfaaDoor
