/- term.nodes; a range over the nodes of a term. -/
import Derived.Test.YthbcfcbonmphfaaGreatDoorLexGBundle
import Derived.OwnWalk
import Derived.Deep.Onto
import Derived.Deep.AppendLies
import Derived.RangeFuncNested
import Derived.RangeFuncBound
import Derived.RangeFuncCalls
import Derived.RangeFuncLeaves
import Derived.Shelf.Abstract
import Derived.Shelf.RegionOpen
import Derived.WalkKit
import Derived.OwnWalkIn
import Derived.TacticsInMore
import Derived.LoopNIn
import Derived.LoopIn
import Derived.IntWalk
import Derived.Test.YthbcfcbonmphfaaGreatDoorTermSBundle
/- Walks: Tokens. -/
namespace Go.Proofs.YthbcfcbonmphfaaGreatDoor
set_option maxRecDepth 100000
open Go.RowKit

def tkCells (t : Tk) : List Value := [.int .i64 t.k, .string ⟨t.t.toArray⟩, .int .i64 t.n, .int .i64 t.a, .int .i64 t.b]
def tksCells (l : List Tk) : List Value := l.flatMap tkCells
theorem tksCells_len (l : List Tk) : (tksCells l).length = l.length * 5 := by
  induction l with
  | nil => rfl
  | cons t l ih => simp [tksCells, tkCells] at ih ⊢; omega
theorem tksCells_snoc (l : List Tk) (t : Tk) : tksCells l ++ tkCells t = tksCells (l ++ [t]) := by simp [tksCells]
/-- What Tokens hands back. -/
def TokensPost (s : ByteArray) (w : World) (e : Ending) (w' : World) : Prop :=
  Below w.heap.size w w' ∧ match toks s.data.toList 1 1 with
    | .ok l => ∃ v, e = .returned (.tuple #[v, .agg #[.int .i64 0, .int .i64 0], .int .i64 0]) ∧ w'.ownsRow w.heap.size 130 5 v l.length (tksCells l)
    | .error p => e = .returned (.tuple #[.slice none 0 0, .agg #[.int .i64 p.1, .int .i64 p.2], .int .i64 7])
theorem tokensPost_ok {s : ByteArray} {w w' : World} {e : Ending} {l : List Tk} {v : Value} (h : toks s.data.toList 1 1 = .ok l) (hb : Below w.heap.size w w')
    (he : e = .returned (.tuple #[v, .agg #[.int .i64 0, .int .i64 0], .int .i64 0])) (ho : w'.ownsRow w.heap.size 130 5 v l.length (tksCells l)) : TokensPost s w e w' := by
  unfold TokensPost; rw [h]; exact ⟨hb, v, he, ho⟩
theorem tokensPost_error {s : ByteArray} {w w' : World} {e : Ending} {a b : Int} (h : toks s.data.toList 1 1 = .error (a, b)) (hb : Below w.heap.size w w')
    (he : e = .returned (.tuple #[.slice none 0 0, .agg #[.int .i64 a, .int .i64 b], .int .i64 7])) : TokensPost s w e w' := by
  unfold TokensPost; rw [h]; exact ⟨hb, he⟩
def TInv (s : ByteArray) (w : World) (k : Nat) (v : Value) (wr : World) (acc : List Tk) (s' : ByteArray) (x y : Int) : Prop :=
  wr.ownsRow (w.heap.size + 2) 130 5 v acc.length (tksCells acc) ∧ Rd wr (w.heap.size + 1) s' x y ∧ wr.heap[w.heap.size]? = some (.cells #[.int .i64 0, .int .i64 0] 53 (0, 0)) ∧
    Below w.heap.size w wr ∧ w.heap.size + 2 ≤ wr.heap.size ∧ s'.size + 1 ≤ k ∧ toks s.data.toList 1 1 = joinT acc (toks s'.data.toList x y) ∧
    0 ≤ x ∧ 1 ≤ y ∧ x + s'.size ≤ 1 + s.size ∧ y + s'.size ≤ 1 + s.size ∧ acc.length + s'.size ≤ s.size

theorem Tryz.infoToken : (Tryz.prog.info? 130).map (fun i => (i.zero, i.size, i.bytes)) = some (some (.agg #[.int .i64 0, .string ⟨#[]⟩, .int .i64 0, .int .i64 0, .int .i64 0]), 5, 48) := by kernel_rfl

theorem blk2 {w : World} {b : Nat} {t : TypeId} {c0 c1 : Value} (h : w.heap[b]? = some (.cells #[c0, c1] t (0, 0))) :
    (w.cell? ⟨b, 0, none⟩ = some c0 ∧ w.cell? ⟨b, 1, none⟩ = some c1) ∧ (w.frozen? ⟨b, 0, none⟩ = false ∧ w.frozen? ⟨b, 1, none⟩ = false) := by
  refine ⟨⟨cell_of_row w b 0 _ _ (0, 0) h, cell_of_row w b 1 _ _ (0, 0) h⟩, ?_, ?_⟩ <;> simp [World.frozen?, h]
theorem tok_round {w wr w1 w2 : World} {R A : Obj} (hsz : w.heap.size + 2 ≤ wr.heap.size) (hres : wr.heap[w.heap.size]? = some R) (g1 : wr.grownBy w1 (some (w.heap.size + 1))) (g2 : (w1.alloc A).grownBy w2 (some (w.heap.size + 1))) :
    w2.heap[w.heap.size]? = some R ∧ w2.heap[w1.heap.size]? = some A ∧ wr.grownBy w2 (some (w.heap.size + 1)) ∧ w1.heap.size < w2.heap.size ∧ w.heap.size + 2 ≤ w1.heap.size := by
  have s1 := g1.size
  have s2 := g2.size
  have s3 : w1.heap.size < (w1.alloc A).heap.size := by simp
  have g12 : wr.grownBy w2 (some (w.heap.size + 1)) := only_trans (only_alloc g1 A) g2
  refine ⟨?_, ?_, g12, by omega, by omega⟩
  · rw [g12.block _ (by omega) (by intro e; injection e with e; omega)]; exact hres
  · rw [g2.block _ s3 (by intro e; injection e with e; omega)]; exact heap_alloc_new w1 A

theorem below_of_grown {w w2 w3 : World} {B : Nat} {row : Option Nat} (hb : Below B w w2) (hg : w2.grownBy w3 row) (hB : B ≤ w2.heap.size) (hr : ∀ k, row = some k → B ≤ k) : Below B w w3 := hb.grown hg hB hr
theorem tok_after {w w2 w3 : World} {v : Value} {n : Nat} {xs : List Value} {T S : Obj} (ho : w2.ownsRow (w.heap.size + 2) 130 5 v n xs) (h2 : w.heap.size + 2 ≤ w2.heap.size) (hb : Below w.heap.size w w2) (hg : ((w2.alloc T).alloc S).grownBy w3 v.ownBlock) :
    (∀ b, b < w.heap.size + 2 → w3.heap[b]? = w2.heap[b]?) ∧ w3.heap[w2.heap.size]? = some T ∧ Below w.heap.size w w3 ∧ w2.heap.size < w3.heap.size := by
  have s3 := hg.size
  have e1 : ((w2.alloc T).alloc S).heap.size = w2.heap.size + 2 := by simp
  have hl := ho.lt
  refine ⟨fun b hb => ?_, ?_, ?_, by omega⟩
  · rw [hg.block b (by omega) (by intro e; have := hl b e.symm; omega), Below.heap_alloc _ _ _ (by simp; omega), Below.heap_alloc _ _ _ (by omega)]
  · rw [hg.block w2.heap.size (by omega) (by intro e; have := hl _ e.symm; omega), Below.heap_alloc _ _ _ (by simp)]
    exact heap_alloc_new w2 T
  · exact (((hb.alloc (by omega) T).alloc (by simp; omega) S)).grown hg (by omega) (fun k e => by have := hl k e; omega)
theorem own_ne {w : World} {B : Nat} {e : TypeId} {size n : Nat} {v : Value} {xs : List Value} (h : w.ownsRow (B + 2) e size v n xs) : v.ownBlock = none ∨ v.ownBlock ≠ some (B + 1) := by
  cases hv : v.ownBlock with
  | none => exact .inl rfl
  | some g => refine .inr ?_; intro e; injection e with e; have := h.lt g hv; omega
theorem tokens_end {s : ByteArray} {w3 : World} {B : Nat} {v' : Value} {acc : List Tk} {s' s2 : ByteArray} {x y x2 y2 k n : Int} {t : List UInt8} {len : Nat}
    (hsk : skip s'.data.toList x y = (s2.data.toList, x2, y2)) (htok : tokOf s2.data.toList = some (k, t, n, len)) (hk : k = 5)
    (htk : toks s.data.toList 1 1 = joinT acc (toks s'.data.toList x y))
    (hown : w3.ownsRow (B + 2) 130 5 v' (acc.length + 1) (tksCells acc ++ tkCells ⟨k, t, n, x2, y2⟩)) :
    toks s.data.toList 1 1 = .ok (acc ++ [⟨5, [], 0, x2, y2⟩]) ∧ w3.ownsRow (B + 2) 130 5 v' (acc ++ [(⟨5, [], 0, x2, y2⟩ : Tk)]).length (tksCells (acc ++ [⟨5, [], 0, x2, y2⟩])) := by
  subst hk
  have hl := tokOf_end _ _ _ _ htok
  rw [hl] at htok
  have e : tokOf [] = some (5, [], 0, 0) := rfl
  rw [e] at htok
  simp at htok
  obtain ⟨rfl, rfl, rfl⟩ := htok
  refine ⟨?_, ?_⟩
  · rw [htk, toks_end _ _ _ _ _ _ hsk [] 0 0 (by rw [hl]; rfl)]; rfl
  · rw [← tksCells_snoc]; simpa using hown
theorem tinv_next {s : ByteArray} {w w2 w3 : World} {gk : Nat} {v' : Value} {acc : List Tk} {s' s2 : ByteArray} {x y x2 y2 k n : Int} {t : List UInt8} {len : Nat}
    (hsk : skip s'.data.toList x y = (s2.data.toList, x2, y2)) (htok : tokOf s2.data.toList = some (k, t, n, len)) (hk : k ≠ 5)
    (htk : toks s.data.toList 1 1 = joinT acc (toks s'.data.toList x y))
    (hown : w3.ownsRow (w.heap.size + 2) 130 5 v' (acc.length + 1) (tksCells acc ++ tkCells ⟨k, t, n, x2, y2⟩)) (hrd : Rd w2 (w.heap.size + 1) (s2.extract len s2.size) x2 (y2 + len))
    (hres : w2.heap[w.heap.size]? = some (.cells #[.int .i64 0, .int .i64 0] 53 (0, 0))) (h2 : w.heap.size + 2 ≤ w2.heap.size)
    (h3 : (∀ b, b < w.heap.size + 2 → w3.heap[b]? = w2.heap[b]?)) (hb : Below w.heap.size w w3) (h4 : w2.heap.size < w3.heap.size)
    (d1 : 0 ≤ x2) (d2 : 1 ≤ y2) (d3 : x2 + s2.size ≤ x + s'.size) (d4 : y2 + s2.size ≤ y + s'.size) (d5 : s2.size ≤ s'.size) (bx2 : x + s'.size ≤ 1 + s.size) (by2 : y + s'.size ≤ 1 + s.size) (bl : acc.length + s'.size ≤ s.size) (hgk : s'.size + 1 ≤ gk) :
    TInv s w (s2.size - len + 1) v' w3 (acc ++ [⟨k, t, n, x2, y2⟩]) (s2.extract len s2.size) x2 (y2 + len) ∧ s2.size - len + 1 < gk := by
  have hl := tokOf_len _ _ _ _ _ htok
  rw [size_toList] at hl
  have hl2 := hl.2 hk
  have hl1 := hl.1
  refine ⟨⟨?_, ?_, ?_, hb, by omega, by rw [size_ext]; omega, ?_, d1, by omega, by rw [size_ext]; omega, by rw [size_ext]; omega, by rw [size_ext]; simp; omega⟩, by omega⟩
  · rw [← tksCells_snoc]; simpa using hown
  · exact (h3 _ (by omega)).trans hrd
  · exact (h3 _ (by omega)).trans hres
  · rw [htk, toks_step _ _ _ _ _ _ hsk k t n len hk htok, joinT_join, Lib.extract_to_end]

set_option maxHeartbeats 400000 in
theorem tokens_full (s : ByteArray) (w : World) (h : 65536 < s.size) : Calls Tryz.prog 54 #[.string s] w fun e w' => e = .returned (.tuple #[.slice none 0 0, .agg #[.int .i64 0, .int .i64 0], .int .i64 4]) ∧ Below w.heap.size w w' := by
  have hI : (65536 : Int) < (s.size : Int) := by omega
  clear h
  go_enter Tryz.func54, Tryz.ntmps54
  go_wp2
  exact bodyPost_ret (v := .tuple #[.slice none 0 0, .agg #[.int .i64 0, .int .i64 0], .int .i64 4]) (by simp [results, Tryz.results54, go_sem]) rfl ⟨rfl, (Below.refl _ _).alloc (Nat.le_refl _) _⟩

set_option maxRecDepth 100000 in
set_option maxHeartbeats 1000000 in
theorem tokens_any (s : ByteArray) (w : World) (hs : s.size ≤ 65536) (hp : Pairs w) : Calls Tryz.prog 54 #[.string s] w (TokensPost s w) := by
  have HP := Lib.hid hp
  have hp0 := hp.lt
  have HI : Hid (TInv s w (s.size + 1) (.slice none 0 0) ((w.alloc (.cells #[.int .i64 0, .int .i64 0] 53)).alloc (.cells #[.string s, .int .i64 1, .int .i64 1] 128)) [] s 1 1) := by
    refine ⟨World.ownsRow_nil _ _ _ _, ?_, ?_, ?_, by simp, Nat.le_refl _, (joinT_nil _).symm, by omega, by omega, by omega, by omega, by simp⟩
    · have := heap_alloc_new (w.alloc (.cells #[.int .i64 0, .int .i64 0] 53)) (.cells #[.string s, .int .i64 1, .int .i64 1] 128)
      unfold Rd
      simpa using this
    · exact (Below.heap_alloc _ _ _ (by simp)).trans (heap_alloc_new w _)
    · exact ((Below.refl _ _).alloc (Nat.le_refl _) _).alloc (by simp) _
  have hsI : (s.size : Int) ≤ 65536 := by omega
  obtain ⟨i0, hi, hz0, hz1, hz2⟩ := info_parts Tryz.infoToken
  clear hp
  go_enter Tryz.func54, Tryz.ntmps54
  go_wp2_with fail
  go_loopg [5] (s.size + 1) (fun k v wr => ∃ acc s' x y, TInv s w k v wr acc s' x y)
  case atStart => exact ⟨[], s, 1, 1, HI.out⟩
  case round =>
    clear HI
    obtain ⟨acc, s', x, y, hinv⟩ := hrel
    obtain ⟨hown, hrd, hres, hbw, hsz, hk, htk, bx, by1, bx2, by2, bl⟩ := hinv
    have HO := Lib.hid hown
    have HR := Lib.hid hrd
    have HRES := Lib.hid hres
    have HBW := Lib.hid hbw
    have HTK := Lib.hid htk
    have HPr := Lib.hid (HP.out.below hbw hp0)
    clear hown hrd hres hbw htk
    go_wp2_with (go_at_call 79; refine (skip_any (w.heap.size + 1) s' x y _ (by omega) HR.out (by omega) (by omega) (by omega) (by omega)).mono ?_; rintro e w1 ⟨rfl, hsk⟩; obtain ⟨s2, x2, y2, hr2, hg1, hsk2, d1, d2, d3, d4, d5⟩ := hsk; have c1 := hr2.c1; have c2 := hr2.c2; have HR2 := Lib.hid hr2; have HG1 := Lib.hid hg1; have HSK2 := Lib.hid hsk2; clear hr2 hg1 hsk2)
    have hP1 : Pairs (w1.alloc (.cells #[.int .i64 x2, .int .i64 y2] 53)) := by
      refine (HPr.out.keep fun o => World.cell?_of_block (HG1.out.block _ ?_ ?_)).alloc _
      · have := HPr.out.lt; exact this
      · intro e; injection e with e; have : 1 < w.heap.size := hp0; first | (simp at e; done) | (simp at e; omega) | (dsimp only at e; omega)
    refine (token_any (w.heap.size + 1) s2 x2 y2 _ (by omega) hP1 (HR2.out.alloc _) (by omega) (by omega)).mono ?_
    intro e w2 hT
    obtain ⟨hg2, hT⟩ := hT
    obtain ⟨r1, r2, r3, r4, r5⟩ := tok_round hsz HRES.out HG1.out hg2
    obtain ⟨⟨a0, a1⟩, af0, af1⟩ := blk2 r1
    obtain ⟨⟨p0, p1⟩, pf0, pf1⟩ := blk2 r2
    have HB2 := Lib.hid (HBW.out.grown r3 (by omega) (fun k e => by injection e with e; omega))
    have HG2 := Lib.hid r3
    have HRR := Lib.hid r1
    clear r1 r2 r3 hg2 hP1
    rcases htok : tokOf s2.data.toList with _ | ⟨k, t, n, len⟩
    · rw [htok] at hT
      simp only at hT
      subst hT
      have HF := Lib.hid (toks_bad _ _ _ _ _ _ HSK2.out htok)
      have HT := Lib.hid htok
      clear htok
      unfold tkV
      have hlt0 : w.heap.size < w2.heap.size := by omega
      go_wp2
      go_region
      all_goals
        go_wp2
        refine bodyPost_ret (v := .tuple #[.slice none 0 0, .agg #[.int .i64 x2, .int .i64 y2], .int .i64 7]) (by simp [results, Tryz.results54, go_sem, hlt0, a0, a1, World.size_setCell]) rfl ?_
        refine tokensPost_error (by rw [HTK.out, HF.out]; rfl) ?_ rfl
        exact (((HB2.out.setCell (p := ⟨w.heap.size, 0, none⟩) (Nat.le_refl _) _).setCell (p := ⟨w.heap.size, 1, none⟩) (Nat.le_refl _) _).alloc (by simp; omega) _).drew
    · rw [htok] at hT
      simp only at hT
      obtain ⟨rfl, hr3⟩ := hT
      have HR3 := Lib.hid hr3
      have HT := Lib.hid htok
      have HO2 := Lib.hid (HO.out.kept HG2.out (own_ne HO.out))
      have hmax : acc.length + 1 ≤ maxLen := by unfold maxLen; omega
      clear htok hr3
      unfold tkV
      by_cases hk5 : k = 5
      · have hkb : (k == 5) = true := by rw [hk5]; rfl
        have HK5 := Lib.hid hk5
        clear hk5
        go_wp2_with (at_builtin; refine wpList_append_own _ rfl (.tmp 29) (.tmp 31) 102 rfl (w.heap.size + 2) 130 i0 _ 5 48 Tryz.underlying102 hi hz0 hz1 hz2 rfl (by decide) _ acc.length (tksCells acc) rfl ((HO2.out.alloc _).alloc _) ⟨w2.heap.size + 1, 0, none⟩ 1 1 (tkCells ⟨k, t, n, x2, y2⟩) rfl rfl ?c1 ?c2 hmax ?c4 ?c5 ?_)
        case c1 => exact World.news_of_block (cs := #[.int .i64 k, .string ⟨t.toArray⟩, .int .i64 n, .int .i64 x2, .int .i64 y2]) (t := 130) (fr := (0, 0)) (by have := heap_alloc_new (w2.alloc (.cells #[.int .i64 k, .string ⟨t.toArray⟩, .int .i64 n, .int .i64 x2, .int .i64 y2] 130)) (.cells #[.int .i64 k, .string ⟨t.toArray⟩, .int .i64 n, .int .i64 x2, .int .i64 y2] 130); simpa using this)
        case c2 => simp [tkCells, Value.oneCell']
        case c4 => omega
        case c5 => simp; omega
        intro v' w3 hown3 hg3 _
        obtain ⟨q1, q2, q3, q4⟩ := tok_after HO2.out (by omega) HB2.out hg3
        have hk0 := (blk5 q2).1.1
        obtain ⟨⟨z0, z1⟩, zf0, zf1⟩ := blk2 ((q1 w.heap.size (by omega)).trans HRR.out)
        have HE := Lib.hid (tokens_end HSK2.out HT.out HK5.out HTK.out hown3)
        have HB3 := Lib.hid q3
        clear hown3 hg3 q1 q2 q3
        have hlt0 : w.heap.size < w3.heap.size := by omega
        obtain ⟨E1, E2⟩ := HE.out
        have HE1 := Lib.hid E1
        have HE2 := Lib.hid E2
        clear E1 E2 HE
        go_wp2
        refine bodyPost_ret (v := .tuple #[v', .agg #[.int .i64 0, .int .i64 0], .int .i64 0]) (by simp [results, Tryz.results54, go_sem, z0, z1]) rfl ?_
        refine tokensPost_ok HE1.out ?_ rfl ?_
        · exact (HB3.out.setCell (p := ⟨w.heap.size, 0, none⟩) (Nat.le_refl _) _).setCell (p := ⟨w.heap.size, 1, none⟩) (Nat.le_refl _) _
        · exact ((ownsRow_setCell_below (ownsRow_setCell_below HE2.out (a := ⟨w.heap.size, 0, none⟩) (by simp) _) (a := ⟨w.heap.size, 1, none⟩) (by simp) _).mono (by omega))
      · have hkb : (k == 5) = false := beq_eq_false_iff_ne.2 hk5
        have HK5 := Lib.hid hk5
        clear hk5
        go_wp2_with (at_builtin; refine wpList_append_own _ rfl (.tmp 29) (.tmp 31) 102 rfl (w.heap.size + 2) 130 i0 _ 5 48 Tryz.underlying102 hi hz0 hz1 hz2 rfl (by decide) _ acc.length (tksCells acc) rfl ((HO2.out.alloc _).alloc _) ⟨w2.heap.size + 1, 0, none⟩ 1 1 (tkCells ⟨k, t, n, x2, y2⟩) rfl rfl ?d1 ?d2 hmax ?d4 ?d5 ?_)
        case d1 => exact World.news_of_block (cs := #[.int .i64 k, .string ⟨t.toArray⟩, .int .i64 n, .int .i64 x2, .int .i64 y2]) (t := 130) (fr := (0, 0)) (by have := heap_alloc_new (w2.alloc (.cells #[.int .i64 k, .string ⟨t.toArray⟩, .int .i64 n, .int .i64 x2, .int .i64 y2] 130)) (.cells #[.int .i64 k, .string ⟨t.toArray⟩, .int .i64 n, .int .i64 x2, .int .i64 y2] 130); simpa using this)
        case d2 => simp [tkCells, Value.oneCell']
        case d4 => omega
        case d5 => simp; omega
        intro v' w3 hown3 hg3 _
        obtain ⟨q1, q2, q3, q4⟩ := tok_after HO2.out (by omega) HB2.out hg3
        have hk0 := (blk5 q2).1.1
        have HN := Lib.hid (tinv_next HSK2.out HT.out HK5.out HTK.out hown3 HR3.out HRR.out (by omega) q1 q3 q4 d1 d2 d3 d4 d5 bx2 by2 bl hk)
        clear hown3 hg3 q1 q2 q3
        go_wp2
        go_roundg (s2.size - len + 1)
        case measure => exact HN.out.2
        case rel => exact ⟨_, _, _, _, HN.out.1⟩
end Go.Proofs.YthbcfcbonmphfaaGreatDoor
/- Terms in memory; the iterator over the nodes of a term. -/
namespace Go.Proofs.YthbcfcbonmphfaaGreatDoor
set_option maxRecDepth 100000
open Go.RowKit Go.Shelf
attribute [local go_sem] Oper.semAt_some

/-- The parts of a term in memory, in blocks below n₀, from the address of its slice on. -/
inductive TRep (n₀ : Nat) (w : World) : Tm → Option Addr → Prop
  | mk (nm st : ByteArray) (ks : List Tm) (A : Option Addr) (b off : Nat) (al : Nat → Option Addr) (cs : Nat → Nat)
    (hA : 0 < ks.length → A = some ⟨b, off, none⟩ ∧ b < n₀)
    (h0 : ∀ i k, ks[i]? = some k → w.cell? ⟨b, off + i * 3, none⟩ = some (.string k.nm))
    (h1 : ∀ i k, ks[i]? = some k → w.cell? ⟨b, off + i * 3 + 1, none⟩ = some (.string k.st))
    (h2 : ∀ i k, ks[i]? = some k → w.cell? ⟨b, off + i * 3 + 2, none⟩ = some (.slice (al i) k.ks.length (cs i)))
    (hr : ∀ i k, ks[i]? = some k → TRep n₀ w k (al i)) : TRep n₀ w (.mk nm st ks) A
/-- A term as a value. -/
def TV (t : Tm) (A : Option Addr) (c : Nat) : Value := .agg #[.string t.nm, .string t.st, .slice A t.ks.length c]

theorem TRep.later {n₀ : Nat} {w w' : World} (hb : Below n₀ w w') {t : Tm} {A : Option Addr} (h : TRep n₀ w t A) : TRep n₀ w' t A := by
  induction h with
  | mk nm st ks A b off al cs hA h0 h1 h2 hr ih =>
    have hp : ∀ {i k}, ks[i]? = some k → b < n₀ := fun {i k} hi => (hA (by have := (List.getElem?_eq_some_iff.1 hi).1; omega)).2
    exact .mk nm st ks A b off al cs hA (fun i k hi => (hb.cell (p := ⟨b, _, none⟩) (hp hi)).trans (h0 i k hi)) (fun i k hi => (hb.cell (p := ⟨b, _, none⟩) (hp hi)).trans (h1 i k hi)) (fun i k hi => (hb.cell (p := ⟨b, _, none⟩) (hp hi)).trans (h2 i k hi)) ih
theorem TRep.mono {n₀ n₁ : Nat} {w : World} (hn : n₀ ≤ n₁) {t : Tm} {A : Option Addr} (h : TRep n₀ w t A) : TRep n₁ w t A := by
  induction h with
  | mk nm st ks A b off al cs hA h0 h1 h2 hr ih => exact .mk nm st ks A b off al cs (fun h => ⟨(hA h).1, Nat.lt_of_lt_of_le (hA h).2 hn⟩) h0 h1 h2 ih
/-- One part. -/
theorem TRep.kid {n₀ : Nat} {w : World} {t : Tm} {A : Option Addr} (h : TRep n₀ w t A) {i : Nat} {k : Tm} (hi : t.ks[i]? = some k) :
    ∃ b off A' c', A = some ⟨b, off, none⟩ ∧ b < n₀ ∧ w.cell? ⟨b, off + i * 3, none⟩ = some (.string k.nm) ∧ w.cell? ⟨b, off + i * 3 + 1, none⟩ = some (.string k.st) ∧ w.cell? ⟨b, off + i * 3 + 2, none⟩ = some (.slice A' k.ks.length c') ∧ TRep n₀ w k A' := by
  cases h with
  | mk nm st ks A b off al cs hA h0 h1 h2 hr =>
    have hp := hA (by have := (List.getElem?_eq_some_iff.1 hi).1; simp at this; omega)
    exact ⟨b, off, al i, cs i, hp.1, hp.2, h0 i k hi, h1 i k hi, h2 i k hi, hr i k hi⟩
theorem TRep.leaf (n₀ : Nat) (w : World) (t : Tm) (A : Option Addr) (h : t.ks = []) : TRep n₀ w t A := by
  cases t with
  | mk nm st ks =>
    have e : ks = [] := h
    subst e
    exact .mk nm st [] A 0 0 (fun _ => none) (fun _ => 0) (fun h => absurd h (by simp)) (fun i k h => by simp at h) (fun i k h => by simp at h) (fun i k h => by simp at h) (fun i k h => by simp at h)

theorem room_of_none {F : Fence} (hd : F.depth = none) (k : Nat) : F.room k := fun d h => by rw [hd] at h; cases h
theorem RoundIn.anyDepth {F : Fence} (hd : F.depth = none) {m m' : Nat} {P : Program} {l : Nat} {f : FuncId} {tmps : Array Value} {assign body : Code} {w : World} {R : Ending → World → Prop}
    (h : RoundIn F m P l f tmps assign body w R) : RoundIn F m' P l f tmps assign body w R := ⟨h.1, fun c cs _ => h.2 c cs (room_of_none hd _)⟩
theorem YieldAt.anyDepth {F : Fence} (hd : F.depth = none) {m : Nat} (m' : Nat) {P : Program} {l : Nat} {args : Array Value} {W : World} {R : Ending → World → Prop} (h : YieldAt F m P l args W R) : YieldAt F m' P l args W R := by
  obtain ⟨fn, tmps, assign, body, hy, hR⟩ := h
  exact ⟨fn, tmps, assign, body, hy, RoundIn.anyDepth hd hR⟩

theorem blk3 {w : World} {b : Nat} {t : TypeId} {c0 c1 c2 : Value} (h : w.heap[b]? = some (.cells #[c0, c1, c2] t (0, 0))) :
    (w.cell? ⟨b, 0, none⟩ = some c0 ∧ w.cell? ⟨b, 1, none⟩ = some c1 ∧ w.cell? ⟨b, 2, none⟩ = some c2) ∧
    (w.frozen? ⟨b, 0, none⟩ = false ∧ w.frozen? ⟨b, 1, none⟩ = false ∧ w.frozen? ⟨b, 2, none⟩ = false) := by
  refine ⟨⟨cell_of_row w b 0 _ _ (0, 0) h, cell_of_row w b 1 _ _ (0, 0) h, cell_of_row w b 2 _ _ (0, 0) h⟩, ?_, ?_, ?_⟩ <;> simp [World.frozen?, h]
theorem blk1 {w : World} {b : Nat} {t : TypeId} {c0 : Value} (h : w.heap[b]? = some (.cells #[c0] t (0, 0))) : w.cell? ⟨b, 0, none⟩ = some c0 ∧ w.frozen? ⟨b, 0, none⟩ = false :=
  ⟨cell_of_row w b 0 _ _ (0, 0) h, by simp [World.frozen?, h]⟩
/-- What a round keeps: whatever lay below n₀; and the cells laid from n₁ on. -/
structure Kp (n₀ n₁ : Nat) (W W' : World) : Prop where
  below : Below n₀ W W'
  cells : ∀ i o, n₁ ≤ i → W.heap[i]? = some o → o.isCells = true → W'.heap[i]? = some o
theorem Kp.refl (n₀ n₁ : Nat) (W : World) : Kp n₀ n₁ W W := ⟨Below.refl _ _, fun _ _ _ h _ => h⟩
theorem Kp.trans {n₀ n₁ : Nat} {A B C : World} (h : Kp n₀ n₁ A B) (k : Kp n₀ n₁ B C) : Kp n₀ n₁ A C :=
  ⟨h.below.trans k.below, fun i o hi ho hc => k.cells i o hi (h.cells i o hi ho hc) hc⟩
theorem Kp.alloc {n₀ n₁ : Nat} {A B : World} (h : Kp n₀ n₁ A B) (hn : n₀ ≤ B.heap.size) (o : Obj) : Kp n₀ n₁ A (B.alloc o) :=
  ⟨h.below.alloc hn o, fun i o' hi ho hc => (Below.heap_alloc _ _ _ (Array.getElem?_eq_some_iff.1 (h.cells i o' hi ho hc)).1).trans (h.cells i o' hi ho hc)⟩
theorem Kp.put {n₀ n₁ : Nat} {w : World} (hn : n₀ ≤ w.heap.size) (W : World) (l : Nat) (o o' : Obj) (hl : w.heap.size ≤ l) (h : W.heap[l]? = some o) (h1 : o.isCells = false) (h2 : o.isWalk = false) : Kp n₀ n₁ W (W.putObj l o') :=
  ⟨belowK_b hn W l o o' hl h h1 h2, fun i x hi hx hc => by
    have hne : i ≠ l := fun e => by subst e; rw [h] at hx; cases hx; rw [h1] at hc; cases hc
    exact (World.putObj_heap_other hne).trans hx⟩
theorem Kp.of_below {n₀ n₁ : Nat} {A B : World} (hn : n₀ ≤ A.heap.size) (h : Below A.heap.size A B) : Kp n₀ n₁ A B :=
  ⟨h.mono hn, fun i o _ ho _ => (h.block i (Array.getElem?_eq_some_iff.1 ho).1).trans ho⟩
/-- A node that comes: its depth, the term, where its parts lie. -/
structure Nd (n₀ : Nat) (W₀ : World) where
  d : Nat
  t : Tm
  A : Option Addr
  c : Nat
  rep : TRep n₀ W₀ t A
  ok : okT maxLen t
  hd : d < 140737488355328
def Nd.pr {n₀ : Nat} {W₀ : World} (x : Nd n₀ W₀) : Nat × Tm := (x.d, x.t)
def Nd.enc {n₀ : Nat} {W₀ : World} (x : Nd n₀ W₀) : Array Value := #[.int .i64 x.d, TV x.t x.A x.c]

set_option maxRecDepth 100000 in
set_option maxHeartbeats 2000000 in
theorem visit_in (F : Fence) (hd : F.depth = none) (hF : ∀ f, F.fn f) (hro : F.round = none) (l n₀ n₁ N : Nat) (W₀ : World) (J Jx : List (Nd n₀ W₀) → World → Prop)
    (hY : ∀ m pre x W, J pre W → pre.length < N → YieldAt F m Tryz.prog l x.enc W fun e W' =>
      (e = .returned (.bool true) ∧ J (pre ++ [x]) W' ∧ Kp n₀ n₁ W W') ∨ (e = .returned (.bool false) ∧ Jx (pre ++ [x]) W'))
    (B : Nat) (hJ : AbidesFrom B J) (t : Tm) :
    ∀ (n d : Nat) (A : Option Addr) (c : Nat) (pre : List (Nd n₀ W₀)) (W : World), TRep n₀ W₀ t A → Below n₀ W₀ W → n₀ ≤ W.heap.size → n₁ ≤ W.heap.size → okT maxLen t → d + t.depth ≤ 140737488355327 → J pre W → pre.length + t.size ≤ N →
      CallsIn F n Tryz.prog 64 #[TV t A c, .int .i64 d, .func (.yield l) #[] #[]] W fun e W' =>
        (e = .returned (.bool true) ∧ (∃ ys : List (Nd n₀ W₀), ys.map Nd.pr = t.pre d ∧ J (pre ++ ys) W') ∧ Kp n₀ n₁ W W') ∨ (e = .returned (.bool false) ∧ ∃ ys : List (Nd n₀ W₀), ys.map Nd.pr <+: t.pre d ∧ Jx (pre ++ ys) W') := by
  induction t using Tm.ind with
  | h nm st ks ih =>
    intro n d A c pre W hrep hb hn hn1 hok hdp hj hN
    obtain ⟨x, hxp, hxe⟩ : ∃ x : Nd n₀ W₀, x.pr = (d, .mk nm st ks) ∧ x.enc = #[.int .i64 d, .agg #[.string nm, .string st, .slice A ks.length c]] := ⟨⟨d, .mk nm st ks, A, c, hrep, hok, by omega⟩, rfl, rfl⟩
    obtain ⟨fn, tmps, assign, body, hy, hR⟩ := hY (n - 1) pre x _ (hJ pre W _ none hj (World.grownBy_alloc W (.cells #[.string nm, .string st, .slice A ks.length c] 28) none) (fun r e => by cases e)) (by simp [Tm.size] at hN; omega)
    refine callsIn_of_wp Tryz.func64 rfl (hF _) ?_ hro
    simp only [Tryz.ntmps64, List.size_toArray, List.length_cons, List.length_nil, Nat.reduceAdd, Nat.reduceSub, Array.replicate_succ, Array.replicate_zero, List.push_toArray, List.append_toArray, List.nil_append, List.cons_append]
    unfold TV
    dsimp only [Tm.nm_mk, Tm.st_mk, Tm.ks_mk]
    rw [hxe] at hy
    clear hxe
    have hbx := heap_alloc_new W (.cells #[.string nm, .string st, .slice A ks.length c] 28)
    have hlen : ks.length ≤ 9223372036854775807 := by have := hok.len; unfold maxLen at this; simpa using this
    have HIH := Lib.hid ih
    have HOK := Lib.hid hok
    clear ih hok hY
    gi_wp2_with fail
    refine hR.mono ?_
    clear hR hy
    rintro e W1 (⟨rfl, hJ1, hk1⟩ | ⟨rfl, hx1⟩)
    · have hbx1 := hk1.cells _ _ hn1 hbx rfl
      have HK1 := Lib.hid (((Kp.refl n₀ n₁ W).alloc hn (.cells #[.string nm, .string st, .slice A ks.length c] 28)).trans hk1)
      have HJ1 := Lib.hid hJ1
      have HBX := Lib.hid hbx1
      obtain ⟨⟨x0, x1, x2⟩, _⟩ := blk3 hbx1
      clear hbx hk1 hJ1 hbx1
      gi_wp2_with fail
      clear x0 x1 x2
      gi_loopw [16] (fun i wr => ∃ (k : Nat) (ys : List (Nd n₀ W₀)), k ≤ ks.length ∧ i = .int .i64 k ∧ ys.map Nd.pr = pres (d + 1) (ks.take k) ∧ J (pre ++ [x] ++ ys) wr ∧ Kp n₀ n₁ W1 wr) (fun i _ => ks.length - (intOf i).toNat)
      case atStart => exact ⟨0, [], by omega, rfl, by simp [pres], by simpa using HJ1.out, Kp.refl _ _ _⟩
      case round =>
        obtain ⟨k, ys, hk, rfl, hys, hjs, hkr⟩ := hrel
        have HYS := Lib.hid hys
        have HJS := Lib.hid hjs
        have HKR := Lib.hid hkr
        obtain ⟨⟨x0, x1, x2⟩, _⟩ := blk3 (hkr.cells _ _ hn1 HBX.out rfl)
        clear hys hjs hkr
        by_cases hlt : k < ks.length
        · obtain ⟨kk, hkk⟩ : ∃ kk, ks[k]? = some kk := ⟨ks[k]'hlt, List.getElem?_eq_getElem _⟩
          have hmem : kk ∈ ks := List.mem_of_getElem? hkk
          obtain ⟨b, off, A', c', rfl, hbn, y0, y1, y2, hrk⟩ := hrep.kid (i := k) hkk
          have HBW : Hid (Below n₀ W₀ wr) := (hb.trans HK1.out.below).trans HKR.out.below
          replace y0 := (HBW.out.cell (p := ⟨b, _, none⟩) hbn).trans y0
          replace y1 := (HBW.out.cell (p := ⟨b, _, none⟩) hbn).trans y1
          replace y2 := (HBW.out.cell (p := ⟨b, _, none⟩) hbn).trans y2
          have hsz := HKR.out.below.size
          have hsz1 := HK1.out.below.size
          have hdk : kk.depth + 1 ≤ (Tm.mk nm st ks).depth := by
            have := (sizes_get ks k kk hkk).2; simp [Tm.depth]; omega
          have hN' : (pre ++ [x] ++ ys).length + kk.size ≤ N := by
            have h1 := congrArg List.length HYS.out
            rw [List.length_map, pres_length] at h1
            have h2 : sizes (ks.take (k + 1)) ≤ sizes ks := sizes_take ks (k + 1)
            rw [List.take_add_one, hkk] at h2
            simp only [Option.toList, sizes_append, sizes] at h2
            simp only [List.length_append, List.length_cons, List.length_nil]
            simp only [Tm.size] at hN
            omega
          have HC := Lib.hid (HIH.out kk hmem (n - 1) (d + 1) A' c' (pre ++ [x] ++ ys) wr hrk HBW.out (by omega) (by omega) (HOK.out.kid hmem) (by omega) HJS.out hN')
          rw [Int.natCast_succ] at HC
          have hI : (k : Int) < (ks.length : Int) := by omega
          have hI2 : decide ((k : Int) < (ks.length : Int)) = true := by simp; omega
          have hw1 : True → IntKind.i64.wrap ((d : Int) + 1) = ((d + 1 : Nat) : Int) := fun _ => by rw [IntWalk.i64_in _ (by omega)]; omega
          clear hN' hdk hrk
          gi_wp2_with fail
          refine HC.out.mono ?_
          clear HC
          rintro e W2 (⟨rfl, ⟨zs, hzs, hjz⟩, hk2⟩ | ⟨rfl, zs, hzs, hxz⟩)
          · have HK2 := Lib.hid hk2
            have HZS := Lib.hid hzs
            have HJZ := Lib.hid hjz
            obtain ⟨⟨x0, x1, x2⟩, _⟩ := blk3 ((HKR.out.trans hk2).cells _ _ hn1 HBX.out rfl)
            clear hzs hjz hk2
            gi_wp2
            go_roundw
            case rel => exact ⟨k + 1, ys ++ zs, by omega, by go_num, by rw [List.map_append, HYS.out, HZS.out, List.take_add_one, hkk, pres_append]; simp [pres], by rw [← List.append_assoc]; exact HJZ.out, HKR.out.trans HK2.out⟩
            case measure => simp [intOf]; omega
          · gi_wp2_with fail
            go_ret
            exact .inr ⟨rfl, [x] ++ ys ++ zs, by
              obtain ⟨r, hr⟩ := hzs
              refine ⟨r ++ pres (d + 1) (ks.drop (k + 1)), ?_⟩
              rw [List.map_append, List.map_append, HYS.out, Tm.pre, pres_at ks k kk hkk, ← hr]
              simp [hxp], by simpa [List.append_assoc] using hxz⟩
        · have hkL : k = ks.length := by omega
          have hI2 : decide ((k : Int) < (ks.length : Int)) = false := by simp; omega
          gi_wp2_with fail
          go_ret
          exact .inl ⟨rfl, ⟨[x] ++ ys, by rw [List.map_append, HYS.out, hkL, List.take_length]; simp [hxp, Tm.pre], by simpa [List.append_assoc] using HJS.out⟩, HK1.out.trans HKR.out⟩
    · gi_wp2_with fail
      go_ret
      exact .inr ⟨rfl, [x], ⟨pres (d + 1) ks, by simp [Tm.pre, hxp]⟩, hx1⟩
end Go.Proofs.YthbcfcbonmphfaaGreatDoor
namespace Go.Proofs.YthbcfcbonmphfaaGreatDoor
open Go.RowKit Go.Shelf
set_option maxRecDepth 100000
attribute [local go_sem] Oper.semAt_some

theorem wide_fn (f : FuncId) : Fence.wide.fn f := trivial
/-- The cells of a term's box. -/
abbrev tcells (t : Tm) (A : Option Addr) (c : Nat) : Array Value := #[.string t.nm, .string t.st, .slice A t.ks.length c]

set_option maxHeartbeats 1000000 in
theorem nodes_in (F : Fence) (n : Nat) (hF : ∀ f, F.fn f) (hro : F.round = none) (t : Tm) (A : Option Addr) (c : Nat) (w : World) :
    CallsIn F n Tryz.prog 33 #[TV t A c] w fun e w' => e = .returned (.func (.func 63) #[] #[.pointer (some ⟨w.heap.size, 0, none⟩)]) ∧ w' = w.alloc (.cells (tcells t A c) 28) := by
  refine callsIn_of_wp Tryz.func33 rfl (hF _) ?_ hro
  simp only [Tryz.ntmps33, List.size_toArray, List.length_cons, List.length_nil, Nat.reduceAdd, Nat.reduceSub, Array.replicate_succ, Array.replicate_zero, List.push_toArray, List.append_toArray, List.nil_append, List.cons_append]
  unfold TV
  gi_wp2_with fail
  go_ret
  exact ⟨rfl, rfl⟩

set_option maxHeartbeats 1000000 in
theorem nodes_stops (F : Fence) (hd : F.depth = none) (n : Nat) (hF : ∀ f, F.fn f) (hro : F.round = none) (bx n₀ n₁ : Nat) (t : Tm) (A : Option Addr) (c : Nat) (w : World)
    (hbx : w.heap[bx]? = some (.cells (tcells t A c) 28 (0, 0))) (hrep : TRep n₀ w t A) (hn₀ : n₀ ≤ w.heap.size) (hn₁ : n₁ ≤ w.heap.size) (hok : okT maxLen t) (hdp : t.depth ≤ 140737488355326) :
    SeqStopsK F n Tryz.prog 63 #[.pointer (some ⟨bx, 0, none⟩)] (Nd.enc (n₀ := n₀) (W₀ := w)) (Kp n₀ n₁) (fun xs => xs.map Nd.pr = t.pre 1) (fun xs => xs.map Nd.pr <+: t.pre 1) t.size w := by
  intro l J Jx W hW hJ hJx hY h0
  have hdd : ∀ k : Nat, (F.depth.isSome = true → 1 ≤ k) := fun k h => by rw [hd] at h; cases h
  have hsz := hW.size
  have hbW : W.heap[bx]? = some (.cells (tcells t A c) 28 (0, 0)) := (hW.block bx (Array.getElem?_eq_some_iff.1 hbx).1).trans hbx
  have hv := visit_in F hd hF hro l n₀ n₁ t.size w J Jx (fun m pre x W1 hj hl => YieldAt.anyDepth hd m (hY pre x W1 hj hl)) W.heap.size hJ t (n - 1) 1 A c [] W hrep (hW.mono hn₀) (by omega) (by omega) hok (by omega) h0 (by simp)
  obtain ⟨⟨x0, x1, x2⟩, _⟩ := blk3 hbW
  have HV := Lib.hid hv
  clear hv hY hJ hJx hW hbx hbW h0
  refine callsIn_of_wp Tryz.func63 rfl (hF _) ?_ hro
  simp only [Tryz.ntmps63, List.size_toArray, List.length_cons, List.length_nil, Nat.reduceAdd, Nat.reduceSub, Array.replicate_succ, Array.replicate_zero, List.push_toArray, List.append_toArray, List.nil_append, List.cons_append]
  gi_wp2_with fail
  refine HV.out.mono ?_
  clear HV
  rintro e W1 (⟨rfl, ⟨ys, hys, hj⟩, _⟩ | ⟨rfl, ys, hys, hx⟩)
  · gi_wp2_with fail
    go_end0
    exact ⟨⟨_, rfl⟩, .inl ⟨ys, hys, by simpa using hj⟩⟩
  · gi_wp2_with fail
    go_end0
    exact ⟨⟨_, rfl⟩, .inr ⟨ys, hys, by simpa using hx⟩⟩

/-- What a body knows of the box of the node that has come. -/
def NodeBox (n₁ : Nat) {n₀ : Nat} {W₀ : World} (x : Nd n₀ W₀) (B : Nat) (W : World) : Prop := n₁ ≤ B ∧ W.heap[B]? = some (.cells (tcells x.t x.A x.c) 28 (0, 0))
theorem cellsBlock_own {β : Type} (B : Nat) (v : β → Array Value) (t : TypeId) : Own (fun s W => W.heap[B]? = some (.cells (v s) t (0, 0))) := fun s X Y row hs hg hrow =>
  (hg.block B (Array.getElem?_eq_some_iff.1 hs).1 (fun e => by obtain ⟨o, ho, hc⟩ := hrow B e.symm; rw [hs] at ho; cases ho; cases hc)).trans hs
/-- A range over the nodes of a term. -/
theorem wp_nodes {g : Operand} {ps : Array Tmp} {assign body : Code} {Q : Exit → Act → World → Prop} {a : Act} {w : World} (n₀ bx : Nat) (t : Tm) (A : Option Addr) (c : Nat)
    (hg : a.eval g = .func (.func 63) #[] #[.pointer (some ⟨bx, 0, none⟩)]) (hbx : w.heap[bx]? = some (.cells (tcells t A c) 28 (0, 0))) (hrep : TRep n₀ w t A) (hn₀ : n₀ ≤ w.heap.size) (hok : okT maxLen t) (hdp : t.depth ≤ 140737488355326) (hps : 2 = ps.size)
    (I : List (Nd n₀ w) → World → Prop) (Ix : Code → List (Nd n₀ w) → World → Prop) (hI : OwnFrom w.heap.size I) (hIx : ∀ c, OwnFrom w.heap.size (Ix c)) (h0 : I [] w) (Ax : Nd n₀ w → Act → World → Prop) (hAx : ∀ x a', OwnFrom w.heap.size (fun (_ : Unit) W => Ax x a' W))
    (hassign : ∀ (l : Nat) (pre : List (Nd n₀ w)) (x : Nd n₀ w) (W : World) (K : Act → World → Prop), I pre W → (∀ a' W', KeepsFrom w.heap.size W W' → Kp n₀ w.heap.size W W' → I pre W' → Ax x a' W' → K a' W') →
      assign.wpIn (Fence.wide.inRound l) (3 - 1 - 1) Tryz.prog (Exit.then K (fun _ _ _ => False)) { tmps := (ps.zip x.enc).foldl (fun t (p, v) => t.setIfInBounds p v) a.tmps, defers := [] } W)
    (hbody : ∀ (l : Nat) (pre : List (Nd n₀ w)) (x : Nd n₀ w) (a' : Act) (W : World), w.heap.size ≤ l → (∃ r, W.heap[l]? = some (.loop r)) → I pre W → Ax x a' W → pre.length < t.size → body.wpIn (Fence.wide.inRound l) (3 - 1 - 1) Tryz.prog (ownPostG w.heap.size (Kp n₀ w.heap.size) I Ix (pre ++ [x]) W) a' W)
    (hdone : ∀ (D : Nat) (xs : List (Nd n₀ w)) (W : World), w.heap.size ≤ D → xs.map Nd.pr = t.pre 1 → I xs W → W.heap[D]? = some (.deferred (some [])) → Q .normal { a with defers := { target := .collected D, args := #[] } :: a.defers } W)
    (hstop : ∀ (D : Nat) (c : Code) (pre : List (Nd n₀ w)) (W : World), w.heap.size ≤ D → pre.map Nd.pr <+: t.pre 1 → Ix c pre W → W.heap[D]? = some (.deferred (some [])) → c.wpIn Fence.wide 3 Tryz.prog Q { a with defers := { target := .collected D, args := #[] } :: a.defers } W) :
    (Code.rangeFunc g ps assign body).wpIn Fence.wide 3 Tryz.prog Q a w :=
  wpIn_rangeFunc_ownH rfl (by omega) hg trivial (enters_of Tryz.func63 (by kernel_rfl) rfl)
    (nodes_stops Fence.wide rfl (3 - 1) wide_fn rfl bx n₀ w.heap.size t A c w hbx hrep hn₀ (Nat.le_refl _) hok hdp) (fun h k => h.trans k) (fun W l o o' hl h h1 h2 => Kp.put hn₀ W l o o' hl h h1 h2) (Below.refl _ _) (fun _ => hps) I Ix hI hIx h0 Ax hAx hassign hbody hdone hstop
theorem Kp.set {n₀ n₁ : Nat} (W : World) (b : Nat) (v : Value) (h0 : n₀ ≤ b) (h1 : b < n₁) : Kp n₀ n₁ W (W.setCell ⟨b, 0, none⟩ v) :=
  ⟨(Below.refl n₀ W).setCell (p := ⟨b, 0, none⟩) h0 v, fun i o hi ho _ => (Below.heap_setCell _ _ _ i (fun e => by simp at e; omega)).trans ho⟩
theorem belowSet {n₀ : Nat} {w W : World} (h : Below n₀ w W) (b : Nat) (hb : n₀ ≤ b) (v : Value) : Below n₀ w (W.setCell ⟨b, 0, none⟩ v) := h.setCell (p := ⟨b, 0, none⟩) hb v
/-- The mark is taken up at a return. -/
theorem leave_mark {fn : Func} {R : Ending → World → Prop} {tmps : Array Value} {W : World} {D : Nat} (hK : W.heap[D]? = some (.deferred (some []))) (h : LeavesIn Fence.wide 3 Tryz.prog fn tmps R [] .returning (W.putObj D (.deferred none))) :
    bodyPostM Fence.wide 3 Tryz.prog fn R .ret { tmps := tmps, defers := [{ target := .collected D, args := #[] }] } W :=
  ⟨by simp, .inl ⟨_, _, rfl, run_takeDeferred hK, h⟩⟩
theorem keep_deferred {W : World} {D : Nat} (hK : W.heap[D]? = some (.deferred (some []))) (b : Nat) (v : Value) : (W.setCell ⟨b, 0, none⟩ v).heap[D]? = some (.deferred (some [])) :=
  (KeepsOthers.setCell W ⟨b, 0, none⟩ v).same D _ hK rfl
theorem boxed_put {W : World} {B D : Nat} {t : TypeId} {v : Value} (h : Boxed W B t v) (hK : W.heap[D]? = some (.deferred (some []))) : Boxed (W.putObj D (.deferred none)) B t v :=
  h.kept (grownBy_putObj' W D _) (fun e => by
    cases e
    have := (show W.heap[B]? = _ from h).symm.trans hK
    cases this)
theorem below_put {w W : World} {D : Nat} (h : Below w.heap.size w W) (hD : w.heap.size ≤ D) (hK : W.heap[D]? = some (.deferred (some []))) : Below w.heap.size w (W.putObj D (.deferred none)) :=
  h.trans (belowK_b (w := w) (Nat.le_refl _) W D _ _ hD hK rfl rfl)
theorem Kp.grown {n₀ n₁ : Nat} {W W' : World} {b : Nat} (hg : W.grownBy W' (some b)) (h0 : n₀ ≤ b) (h1 : b < n₁) (hs : n₀ ≤ W.heap.size) : Kp n₀ n₁ W W' :=
  ⟨(Below.refl n₀ W).grown hg hs (fun k e => by cases e; exact h0), fun i o hi ho _ => (hg.block i (Array.getElem?_eq_some_iff.1 ho).1 (fun e => by cases e; omega)).trans ho⟩
theorem keepsFrom_below {B : Nat} {W W' : World} (h : Below W.heap.size W W') : KeepsFrom B W W' :=
  ⟨h.size, fun k o _ hk _ => (h.block k (Array.getElem?_eq_some_iff.1 hk).1).trans hk⟩
theorem boxed_below {W W' : World} {B : Nat} {t : TypeId} {v : Value} (h : Boxed W B t v) (hb : Below W.heap.size W W') : Boxed W' B t v := (hb.block B h.lt).trans h
theorem cells_below {W W' : World} {B : Nat} {o : Obj} (h : W.heap[B]? = some o) (hb : Below W.heap.size W W') : W'.heap[B]? = some o := (hb.block B (Array.getElem?_eq_some_iff.1 h).1).trans h
theorem boxed_grown {W W' : World} {B b : Nat} {t : TypeId} {v : Value} (h : Boxed W B t v) (hg : W.grownBy W' (some b)) (hne : B ≠ b) : Boxed W' B t v := h.kept hg (fun e => hne (by simpa using e))
theorem cell_set_other {W : World} {b : Nat} {t : TypeId} {cs : Array Value} (h : W.heap[b]? = some (.cells cs t (0, 0))) (b' : Nat) (v : Value) (hne : b ≠ b') : (W.setCell ⟨b', 0, none⟩ v).heap[b]? = some (.cells cs t (0, 0)) :=
  (Below.heap_setCell _ _ _ b (fun e => hne (by simpa using e))).trans h
end Go.Proofs.YthbcfcbonmphfaaGreatDoor
