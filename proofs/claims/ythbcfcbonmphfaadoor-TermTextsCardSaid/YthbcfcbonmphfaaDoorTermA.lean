/- Terms in memory; the iterator over the nodes of a term. -/
import Derived.RangeFuncNested
import Derived.RangeFuncBound
import Derived.RangeFuncCalls
import Derived.RangeFuncLeaves
import Derived.Shelf.Abstract
import Derived.Shelf.RegionOpen
import Derived.WalkKit
import Derived.OwnWalkIn
import Derived.TacticsInMore
import Derived.LoopNIn
import Derived.LoopIn
import Derived.Test.YthbcfcbonmphfaaDoorLexH
import Derived.IntWalk
import Derived.Test.YthbcfcbonmphfaaDoorTermS
namespace Go.Proofs.YthbcfcbonmphfaaDoor
set_option maxRecDepth 100000
open Go.RowKit Go.Shelf
attribute [local go_sem] Oper.semAt_some

/-- The parts of a term in memory, in blocks below n₀, from the address of its slice on. -/
inductive TRep (n₀ : Nat) (w : World) : Tm → Option Addr → Prop
  | mk (nm st : ByteArray) (ks : List Tm) (A : Option Addr) (b off : Nat) (al : Nat → Option Addr) (cs : Nat → Nat)
    (hA : 0 < ks.length → A = some ⟨b, off, none⟩ ∧ b < n₀)
    (h0 : ∀ i k, ks[i]? = some k → w.cell? ⟨b, off + i * 3, none⟩ = some (.string k.nm))
    (h1 : ∀ i k, ks[i]? = some k → w.cell? ⟨b, off + i * 3 + 1, none⟩ = some (.string k.st))
    (h2 : ∀ i k, ks[i]? = some k → w.cell? ⟨b, off + i * 3 + 2, none⟩ = some (.slice (al i) k.ks.length (cs i)))
    (hr : ∀ i k, ks[i]? = some k → TRep n₀ w k (al i)) : TRep n₀ w (.mk nm st ks) A
/-- A term as a value. -/
def TV (t : Tm) (A : Option Addr) (c : Nat) : Value := .agg #[.string t.nm, .string t.st, .slice A t.ks.length c]

theorem TRep.later {n₀ : Nat} {w w' : World} (hb : Below n₀ w w') {t : Tm} {A : Option Addr} (h : TRep n₀ w t A) : TRep n₀ w' t A := by
  induction h with
  | mk nm st ks A b off al cs hA h0 h1 h2 hr ih =>
    have hp : ∀ {i k}, ks[i]? = some k → b < n₀ := fun {i k} hi => (hA (by have := (List.getElem?_eq_some_iff.1 hi).1; omega)).2
    exact .mk nm st ks A b off al cs hA (fun i k hi => (hb.cell (p := ⟨b, _, none⟩) (hp hi)).trans (h0 i k hi)) (fun i k hi => (hb.cell (p := ⟨b, _, none⟩) (hp hi)).trans (h1 i k hi)) (fun i k hi => (hb.cell (p := ⟨b, _, none⟩) (hp hi)).trans (h2 i k hi)) ih
theorem TRep.mono {n₀ n₁ : Nat} {w : World} (hn : n₀ ≤ n₁) {t : Tm} {A : Option Addr} (h : TRep n₀ w t A) : TRep n₁ w t A := by
  induction h with
  | mk nm st ks A b off al cs hA h0 h1 h2 hr ih => exact .mk nm st ks A b off al cs (fun h => ⟨(hA h).1, Nat.lt_of_lt_of_le (hA h).2 hn⟩) h0 h1 h2 ih
/-- One part. -/
theorem TRep.kid {n₀ : Nat} {w : World} {t : Tm} {A : Option Addr} (h : TRep n₀ w t A) {i : Nat} {k : Tm} (hi : t.ks[i]? = some k) :
    ∃ b off A' c', A = some ⟨b, off, none⟩ ∧ b < n₀ ∧ w.cell? ⟨b, off + i * 3, none⟩ = some (.string k.nm) ∧ w.cell? ⟨b, off + i * 3 + 1, none⟩ = some (.string k.st) ∧ w.cell? ⟨b, off + i * 3 + 2, none⟩ = some (.slice A' k.ks.length c') ∧ TRep n₀ w k A' := by
  cases h with
  | mk nm st ks A b off al cs hA h0 h1 h2 hr =>
    have hp := hA (by have := (List.getElem?_eq_some_iff.1 hi).1; simp at this; omega)
    exact ⟨b, off, al i, cs i, hp.1, hp.2, h0 i k hi, h1 i k hi, h2 i k hi, hr i k hi⟩
theorem TRep.leaf (n₀ : Nat) (w : World) (t : Tm) (A : Option Addr) (h : t.ks = []) : TRep n₀ w t A := by
  cases t with
  | mk nm st ks =>
    have e : ks = [] := h
    subst e
    exact .mk nm st [] A 0 0 (fun _ => none) (fun _ => 0) (fun h => absurd h (by simp)) (fun i k h => by simp at h) (fun i k h => by simp at h) (fun i k h => by simp at h) (fun i k h => by simp at h)

theorem room_of_none {F : Fence} (hd : F.depth = none) (k : Nat) : F.room k := fun d h => by rw [hd] at h; cases h
theorem RoundIn.anyDepth {F : Fence} (hd : F.depth = none) {m m' : Nat} {P : Program} {l : Nat} {f : FuncId} {tmps : Array Value} {assign body : Code} {w : World} {R : Ending → World → Prop}
    (h : RoundIn F m P l f tmps assign body w R) : RoundIn F m' P l f tmps assign body w R := ⟨h.1, fun c cs _ => h.2 c cs (room_of_none hd _)⟩
theorem YieldAt.anyDepth {F : Fence} (hd : F.depth = none) {m : Nat} (m' : Nat) {P : Program} {l : Nat} {args : Array Value} {W : World} {R : Ending → World → Prop} (h : YieldAt F m P l args W R) : YieldAt F m' P l args W R := by
  obtain ⟨fn, tmps, assign, body, hy, hR⟩ := h
  exact ⟨fn, tmps, assign, body, hy, RoundIn.anyDepth hd hR⟩

theorem blk3 {w : World} {b : Nat} {t : TypeId} {c0 c1 c2 : Value} (h : w.heap[b]? = some (.cells #[c0, c1, c2] t (0, 0))) :
    (w.cell? ⟨b, 0, none⟩ = some c0 ∧ w.cell? ⟨b, 1, none⟩ = some c1 ∧ w.cell? ⟨b, 2, none⟩ = some c2) ∧
    (w.frozen? ⟨b, 0, none⟩ = false ∧ w.frozen? ⟨b, 1, none⟩ = false ∧ w.frozen? ⟨b, 2, none⟩ = false) := by
  refine ⟨⟨cell_of_row w b 0 _ _ (0, 0) h, cell_of_row w b 1 _ _ (0, 0) h, cell_of_row w b 2 _ _ (0, 0) h⟩, ?_, ?_, ?_⟩ <;> simp [World.frozen?, h]
theorem blk1 {w : World} {b : Nat} {t : TypeId} {c0 : Value} (h : w.heap[b]? = some (.cells #[c0] t (0, 0))) : w.cell? ⟨b, 0, none⟩ = some c0 ∧ w.frozen? ⟨b, 0, none⟩ = false :=
  ⟨cell_of_row w b 0 _ _ (0, 0) h, by simp [World.frozen?, h]⟩
/-- What a round keeps: whatever lay below n₀; and the cells laid from n₁ on. -/
structure Kp (n₀ n₁ : Nat) (W W' : World) : Prop where
  below : Below n₀ W W'
  cells : ∀ i o, n₁ ≤ i → W.heap[i]? = some o → o.isCells = true → W'.heap[i]? = some o
theorem Kp.refl (n₀ n₁ : Nat) (W : World) : Kp n₀ n₁ W W := ⟨Below.refl _ _, fun _ _ _ h _ => h⟩
theorem Kp.trans {n₀ n₁ : Nat} {A B C : World} (h : Kp n₀ n₁ A B) (k : Kp n₀ n₁ B C) : Kp n₀ n₁ A C :=
  ⟨h.below.trans k.below, fun i o hi ho hc => k.cells i o hi (h.cells i o hi ho hc) hc⟩
theorem Kp.alloc {n₀ n₁ : Nat} {A B : World} (h : Kp n₀ n₁ A B) (hn : n₀ ≤ B.heap.size) (o : Obj) : Kp n₀ n₁ A (B.alloc o) :=
  ⟨h.below.alloc hn o, fun i o' hi ho hc => (Below.heap_alloc _ _ _ (Array.getElem?_eq_some_iff.1 (h.cells i o' hi ho hc)).1).trans (h.cells i o' hi ho hc)⟩
theorem Kp.put {n₀ n₁ : Nat} {w : World} (hn : n₀ ≤ w.heap.size) (W : World) (l : Nat) (o o' : Obj) (hl : w.heap.size ≤ l) (h : W.heap[l]? = some o) (h1 : o.isCells = false) (h2 : o.isWalk = false) : Kp n₀ n₁ W (W.putObj l o') :=
  ⟨belowK_b hn W l o o' hl h h1 h2, fun i x hi hx hc => by
    have hne : i ≠ l := fun e => by subst e; rw [h] at hx; cases hx; rw [h1] at hc; cases hc
    exact (World.putObj_heap_other hne).trans hx⟩
theorem Kp.of_below {n₀ n₁ : Nat} {A B : World} (hn : n₀ ≤ A.heap.size) (h : Below A.heap.size A B) : Kp n₀ n₁ A B :=
  ⟨h.mono hn, fun i o _ ho _ => (h.block i (Array.getElem?_eq_some_iff.1 ho).1).trans ho⟩
/-- A node that comes: its depth, the term, where its parts lie. -/
structure Nd (n₀ : Nat) (W₀ : World) where
  d : Nat
  t : Tm
  A : Option Addr
  c : Nat
  rep : TRep n₀ W₀ t A
  ok : okT maxLen t
  hd : d < 140737488355328
def Nd.pr {n₀ : Nat} {W₀ : World} (x : Nd n₀ W₀) : Nat × Tm := (x.d, x.t)
def Nd.enc {n₀ : Nat} {W₀ : World} (x : Nd n₀ W₀) : Array Value := #[.int .i64 x.d, TV x.t x.A x.c]

set_option maxRecDepth 100000 in
set_option maxHeartbeats 2000000 in
theorem visit_in (F : Fence) (hd : F.depth = none) (hF : ∀ f, F.fn f) (hro : F.round = none) (l n₀ n₁ N : Nat) (W₀ : World) (J Jx : List (Nd n₀ W₀) → World → Prop)
    (hY : ∀ m pre x W, J pre W → pre.length < N → YieldAt F m Tryd.prog l x.enc W fun e W' =>
      (e = .returned (.bool true) ∧ J (pre ++ [x]) W' ∧ Kp n₀ n₁ W W') ∨ (e = .returned (.bool false) ∧ Jx (pre ++ [x]) W'))
    (B : Nat) (hJ : AbidesFrom B J) (t : Tm) :
    ∀ (n d : Nat) (A : Option Addr) (c : Nat) (pre : List (Nd n₀ W₀)) (W : World), TRep n₀ W₀ t A → Below n₀ W₀ W → n₀ ≤ W.heap.size → n₁ ≤ W.heap.size → okT maxLen t → d + t.depth ≤ 140737488355327 → J pre W → pre.length + t.size ≤ N →
      CallsIn F n Tryd.prog 140 #[TV t A c, .int .i64 d, .func (.yield l) #[] #[]] W fun e W' =>
        (e = .returned (.bool true) ∧ (∃ ys : List (Nd n₀ W₀), ys.map Nd.pr = t.pre d ∧ J (pre ++ ys) W') ∧ Kp n₀ n₁ W W') ∨ (e = .returned (.bool false) ∧ ∃ ys : List (Nd n₀ W₀), ys.map Nd.pr <+: t.pre d ∧ Jx (pre ++ ys) W') := by
  induction t using Tm.ind with
  | h nm st ks ih =>
    intro n d A c pre W hrep hb hn hn1 hok hdp hj hN
    obtain ⟨x, hxp, hxe⟩ : ∃ x : Nd n₀ W₀, x.pr = (d, .mk nm st ks) ∧ x.enc = #[.int .i64 d, .agg #[.string nm, .string st, .slice A ks.length c]] := ⟨⟨d, .mk nm st ks, A, c, hrep, hok, by omega⟩, rfl, rfl⟩
    obtain ⟨fn, tmps, assign, body, hy, hR⟩ := hY (n - 1) pre x _ (hJ pre W _ none hj (World.grownBy_alloc W (.cells #[.string nm, .string st, .slice A ks.length c] 56) none) (fun r e => by cases e)) (by simp [Tm.size] at hN; omega)
    refine callsIn_of_wp Tryd.func140 rfl (hF _) ?_ hro
    simp only [Tryd.ntmps140, List.size_toArray, List.length_cons, List.length_nil, Nat.reduceAdd, Nat.reduceSub, Array.replicate_succ, Array.replicate_zero, List.push_toArray, List.append_toArray, List.nil_append, List.cons_append]
    unfold TV
    dsimp only [Tm.nm_mk, Tm.st_mk, Tm.ks_mk]
    rw [hxe] at hy
    clear hxe
    have hbx := heap_alloc_new W (.cells #[.string nm, .string st, .slice A ks.length c] 56)
    have hlen : ks.length ≤ 9223372036854775807 := by have := hok.len; unfold maxLen at this; simpa using this
    have HIH := Lib.hid ih
    have HOK := Lib.hid hok
    clear ih hok hY
    gi_wp2_with fail
    refine hR.mono ?_
    clear hR hy
    rintro e W1 (⟨rfl, hJ1, hk1⟩ | ⟨rfl, hx1⟩)
    · have hbx1 := hk1.cells _ _ hn1 hbx rfl
      have HK1 := Lib.hid (((Kp.refl n₀ n₁ W).alloc hn (.cells #[.string nm, .string st, .slice A ks.length c] 56)).trans hk1)
      have HJ1 := Lib.hid hJ1
      have HBX := Lib.hid hbx1
      obtain ⟨⟨x0, x1, x2⟩, _⟩ := blk3 hbx1
      clear hbx hk1 hJ1 hbx1
      gi_wp2_with fail
      clear x0 x1 x2
      gi_loopw [16] (fun i wr => ∃ (k : Nat) (ys : List (Nd n₀ W₀)), k ≤ ks.length ∧ i = .int .i64 k ∧ ys.map Nd.pr = pres (d + 1) (ks.take k) ∧ J (pre ++ [x] ++ ys) wr ∧ Kp n₀ n₁ W1 wr) (fun i _ => ks.length - (intOf i).toNat)
      case atStart => exact ⟨0, [], by omega, rfl, by simp [pres], by simpa using HJ1.out, Kp.refl _ _ _⟩
      case round =>
        obtain ⟨k, ys, hk, rfl, hys, hjs, hkr⟩ := hrel
        have HYS := Lib.hid hys
        have HJS := Lib.hid hjs
        have HKR := Lib.hid hkr
        obtain ⟨⟨x0, x1, x2⟩, _⟩ := blk3 (hkr.cells _ _ hn1 HBX.out rfl)
        clear hys hjs hkr
        by_cases hlt : k < ks.length
        · obtain ⟨kk, hkk⟩ : ∃ kk, ks[k]? = some kk := ⟨ks[k]'hlt, List.getElem?_eq_getElem _⟩
          have hmem : kk ∈ ks := List.mem_of_getElem? hkk
          obtain ⟨b, off, A', c', rfl, hbn, y0, y1, y2, hrk⟩ := hrep.kid (i := k) hkk
          have HBW : Hid (Below n₀ W₀ wr) := (hb.trans HK1.out.below).trans HKR.out.below
          replace y0 := (HBW.out.cell (p := ⟨b, _, none⟩) hbn).trans y0
          replace y1 := (HBW.out.cell (p := ⟨b, _, none⟩) hbn).trans y1
          replace y2 := (HBW.out.cell (p := ⟨b, _, none⟩) hbn).trans y2
          have hsz := HKR.out.below.size
          have hsz1 := HK1.out.below.size
          have hdk : kk.depth + 1 ≤ (Tm.mk nm st ks).depth := by
            have := (sizes_get ks k kk hkk).2; simp [Tm.depth]; omega
          have hN' : (pre ++ [x] ++ ys).length + kk.size ≤ N := by
            have h1 := congrArg List.length HYS.out
            rw [List.length_map, pres_length] at h1
            have h2 : sizes (ks.take (k + 1)) ≤ sizes ks := sizes_take ks (k + 1)
            rw [List.take_add_one, hkk] at h2
            simp only [Option.toList, sizes_append, sizes] at h2
            simp only [List.length_append, List.length_cons, List.length_nil]
            simp only [Tm.size] at hN
            omega
          have HC := Lib.hid (HIH.out kk hmem (n - 1) (d + 1) A' c' (pre ++ [x] ++ ys) wr hrk HBW.out (by omega) (by omega) (HOK.out.kid hmem) (by omega) HJS.out hN')
          rw [Int.natCast_succ] at HC
          have hI : (k : Int) < (ks.length : Int) := by omega
          have hI2 : decide ((k : Int) < (ks.length : Int)) = true := by simp; omega
          have hw1 : True → IntKind.i64.wrap ((d : Int) + 1) = ((d + 1 : Nat) : Int) := fun _ => by rw [IntWalk.i64_in _ (by omega)]; omega
          clear hN' hdk hrk
          gi_wp2_with fail
          refine HC.out.mono ?_
          clear HC
          rintro e W2 (⟨rfl, ⟨zs, hzs, hjz⟩, hk2⟩ | ⟨rfl, zs, hzs, hxz⟩)
          · have HK2 := Lib.hid hk2
            have HZS := Lib.hid hzs
            have HJZ := Lib.hid hjz
            obtain ⟨⟨x0, x1, x2⟩, _⟩ := blk3 ((HKR.out.trans hk2).cells _ _ hn1 HBX.out rfl)
            clear hzs hjz hk2
            gi_wp2
            go_roundw
            case rel => exact ⟨k + 1, ys ++ zs, by omega, by go_num, by rw [List.map_append, HYS.out, HZS.out, List.take_add_one, hkk, pres_append]; simp [pres], by rw [← List.append_assoc]; exact HJZ.out, HKR.out.trans HK2.out⟩
            case measure => simp [intOf]; omega
          · gi_wp2_with fail
            go_ret
            exact .inr ⟨rfl, [x] ++ ys ++ zs, by
              obtain ⟨r, hr⟩ := hzs
              refine ⟨r ++ pres (d + 1) (ks.drop (k + 1)), ?_⟩
              rw [List.map_append, List.map_append, HYS.out, Tm.pre, pres_at ks k kk hkk, ← hr]
              simp [hxp], by simpa [List.append_assoc] using hxz⟩
        · have hkL : k = ks.length := by omega
          have hI2 : decide ((k : Int) < (ks.length : Int)) = false := by simp; omega
          gi_wp2_with fail
          go_ret
          exact .inl ⟨rfl, ⟨[x] ++ ys, by rw [List.map_append, HYS.out, hkL, List.take_length]; simp [hxp, Tm.pre], by simpa [List.append_assoc] using HJS.out⟩, HK1.out.trans HKR.out⟩
    · gi_wp2_with fail
      go_ret
      exact .inr ⟨rfl, [x], ⟨pres (d + 1) ks, by simp [Tm.pre, hxp]⟩, hx1⟩
end Go.Proofs.YthbcfcbonmphfaaDoor
