/- Walks: Tokens. -/
import Derived.Test.YthbcfcbonmphfaaDoorLexG
import Derived.OwnWalk
import Derived.Deep.Onto
import Derived.Deep.AppendLies
namespace Go.Proofs.YthbcfcbonmphfaaDoor
set_option maxRecDepth 100000
open Go.RowKit

def tkCells (t : Tk) : List Value := [.int .i64 t.k, .string ⟨t.t.toArray⟩, .int .i64 t.n, .int .i64 t.a, .int .i64 t.b]
def tksCells (l : List Tk) : List Value := l.flatMap tkCells
theorem tksCells_len (l : List Tk) : (tksCells l).length = l.length * 5 := by
  induction l with
  | nil => rfl
  | cons t l ih => simp [tksCells, tkCells] at ih ⊢; omega
theorem tksCells_snoc (l : List Tk) (t : Tk) : tksCells l ++ tkCells t = tksCells (l ++ [t]) := by simp [tksCells]
/-- What Tokens hands back. -/
def TokensPost (s : ByteArray) (w : World) (e : Ending) (w' : World) : Prop :=
  Below w.heap.size w w' ∧ match toks s.data.toList 1 1 with
    | .ok l => ∃ v, e = .returned (.tuple #[v, .agg #[.int .i64 0, .int .i64 0], .int .i64 0]) ∧ w'.ownsRow w.heap.size 25 5 v l.length (tksCells l)
    | .error p => e = .returned (.tuple #[.slice none 0 0, .agg #[.int .i64 p.1, .int .i64 p.2], .int .i64 7])
theorem tokensPost_ok {s : ByteArray} {w w' : World} {e : Ending} {l : List Tk} {v : Value} (h : toks s.data.toList 1 1 = .ok l) (hb : Below w.heap.size w w')
    (he : e = .returned (.tuple #[v, .agg #[.int .i64 0, .int .i64 0], .int .i64 0])) (ho : w'.ownsRow w.heap.size 25 5 v l.length (tksCells l)) : TokensPost s w e w' := by
  unfold TokensPost; rw [h]; exact ⟨hb, v, he, ho⟩
theorem tokensPost_error {s : ByteArray} {w w' : World} {e : Ending} {a b : Int} (h : toks s.data.toList 1 1 = .error (a, b)) (hb : Below w.heap.size w w')
    (he : e = .returned (.tuple #[.slice none 0 0, .agg #[.int .i64 a, .int .i64 b], .int .i64 7])) : TokensPost s w e w' := by
  unfold TokensPost; rw [h]; exact ⟨hb, he⟩
def TInv (s : ByteArray) (w : World) (k : Nat) (v : Value) (wr : World) (acc : List Tk) (s' : ByteArray) (x y : Int) : Prop :=
  wr.ownsRow (w.heap.size + 2) 25 5 v acc.length (tksCells acc) ∧ Rd wr (w.heap.size + 1) s' x y ∧ wr.heap[w.heap.size]? = some (.cells #[.int .i64 0, .int .i64 0] 23 (0, 0)) ∧
    Below w.heap.size w wr ∧ w.heap.size + 2 ≤ wr.heap.size ∧ s'.size + 1 ≤ k ∧ toks s.data.toList 1 1 = joinT acc (toks s'.data.toList x y) ∧
    0 ≤ x ∧ 1 ≤ y ∧ x + s'.size ≤ 1 + s.size ∧ y + s'.size ≤ 1 + s.size ∧ acc.length + s'.size ≤ s.size

theorem Tryd.infoToken : (Tryd.prog.info? 25).map (fun i => (i.zero, i.size, i.bytes)) = some (some (.agg #[.int .i64 0, .string ⟨#[]⟩, .int .i64 0, .int .i64 0, .int .i64 0]), 5, 48) := by kernel_rfl

theorem blk2 {w : World} {b : Nat} {t : TypeId} {c0 c1 : Value} (h : w.heap[b]? = some (.cells #[c0, c1] t (0, 0))) :
    (w.cell? ⟨b, 0, none⟩ = some c0 ∧ w.cell? ⟨b, 1, none⟩ = some c1) ∧ (w.frozen? ⟨b, 0, none⟩ = false ∧ w.frozen? ⟨b, 1, none⟩ = false) := by
  refine ⟨⟨cell_of_row w b 0 _ _ (0, 0) h, cell_of_row w b 1 _ _ (0, 0) h⟩, ?_, ?_⟩ <;> simp [World.frozen?, h]
theorem tok_round {w wr w1 w2 : World} {R A : Obj} (hsz : w.heap.size + 2 ≤ wr.heap.size) (hres : wr.heap[w.heap.size]? = some R) (g1 : wr.grownBy w1 (some (w.heap.size + 1))) (g2 : (w1.alloc A).grownBy w2 (some (w.heap.size + 1))) :
    w2.heap[w.heap.size]? = some R ∧ w2.heap[w1.heap.size]? = some A ∧ wr.grownBy w2 (some (w.heap.size + 1)) ∧ w1.heap.size < w2.heap.size ∧ w.heap.size + 2 ≤ w1.heap.size := by
  have s1 := g1.size
  have s2 := g2.size
  have s3 : w1.heap.size < (w1.alloc A).heap.size := by simp
  have g12 : wr.grownBy w2 (some (w.heap.size + 1)) := only_trans (only_alloc g1 A) g2
  refine ⟨?_, ?_, g12, by omega, by omega⟩
  · rw [g12.block _ (by omega) (by intro e; injection e with e; omega)]; exact hres
  · rw [g2.block _ s3 (by intro e; injection e with e; omega)]; exact heap_alloc_new w1 A

theorem below_of_grown {w w2 w3 : World} {B : Nat} {row : Option Nat} (hb : Below B w w2) (hg : w2.grownBy w3 row) (hB : B ≤ w2.heap.size) (hr : ∀ k, row = some k → B ≤ k) : Below B w w3 := hb.grown hg hB hr
theorem tok_after {w w2 w3 : World} {v : Value} {n : Nat} {xs : List Value} {T S : Obj} (ho : w2.ownsRow (w.heap.size + 2) 25 5 v n xs) (h2 : w.heap.size + 2 ≤ w2.heap.size) (hb : Below w.heap.size w w2) (hg : ((w2.alloc T).alloc S).grownBy w3 v.ownBlock) :
    (∀ b, b < w.heap.size + 2 → w3.heap[b]? = w2.heap[b]?) ∧ w3.heap[w2.heap.size]? = some T ∧ Below w.heap.size w w3 ∧ w2.heap.size < w3.heap.size := by
  have s3 := hg.size
  have e1 : ((w2.alloc T).alloc S).heap.size = w2.heap.size + 2 := by simp
  have hl := ho.lt
  refine ⟨fun b hb => ?_, ?_, ?_, by omega⟩
  · rw [hg.block b (by omega) (by intro e; have := hl b e.symm; omega), Below.heap_alloc _ _ _ (by simp; omega), Below.heap_alloc _ _ _ (by omega)]
  · rw [hg.block w2.heap.size (by omega) (by intro e; have := hl _ e.symm; omega), Below.heap_alloc _ _ _ (by simp)]
    exact heap_alloc_new w2 T
  · exact (((hb.alloc (by omega) T).alloc (by simp; omega) S)).grown hg (by omega) (fun k e => by have := hl k e; omega)
theorem own_ne {w : World} {B : Nat} {e : TypeId} {size n : Nat} {v : Value} {xs : List Value} (h : w.ownsRow (B + 2) e size v n xs) : v.ownBlock = none ∨ v.ownBlock ≠ some (B + 1) := by
  cases hv : v.ownBlock with
  | none => exact .inl rfl
  | some g => refine .inr ?_; intro e; injection e with e; have := h.lt g hv; omega
theorem tokens_end {s : ByteArray} {w3 : World} {B : Nat} {v' : Value} {acc : List Tk} {s' s2 : ByteArray} {x y x2 y2 k n : Int} {t : List UInt8} {len : Nat}
    (hsk : skip s'.data.toList x y = (s2.data.toList, x2, y2)) (htok : tokOf s2.data.toList = some (k, t, n, len)) (hk : k = 5)
    (htk : toks s.data.toList 1 1 = joinT acc (toks s'.data.toList x y))
    (hown : w3.ownsRow (B + 2) 25 5 v' (acc.length + 1) (tksCells acc ++ tkCells ⟨k, t, n, x2, y2⟩)) :
    toks s.data.toList 1 1 = .ok (acc ++ [⟨5, [], 0, x2, y2⟩]) ∧ w3.ownsRow (B + 2) 25 5 v' (acc ++ [(⟨5, [], 0, x2, y2⟩ : Tk)]).length (tksCells (acc ++ [⟨5, [], 0, x2, y2⟩])) := by
  subst hk
  have hl := tokOf_end _ _ _ _ htok
  rw [hl] at htok
  have e : tokOf [] = some (5, [], 0, 0) := rfl
  rw [e] at htok
  simp at htok
  obtain ⟨rfl, rfl, rfl⟩ := htok
  refine ⟨?_, ?_⟩
  · rw [htk, toks_end _ _ _ _ _ _ hsk [] 0 0 (by rw [hl]; rfl)]; rfl
  · rw [← tksCells_snoc]; simpa using hown
theorem tinv_next {s : ByteArray} {w w2 w3 : World} {gk : Nat} {v' : Value} {acc : List Tk} {s' s2 : ByteArray} {x y x2 y2 k n : Int} {t : List UInt8} {len : Nat}
    (hsk : skip s'.data.toList x y = (s2.data.toList, x2, y2)) (htok : tokOf s2.data.toList = some (k, t, n, len)) (hk : k ≠ 5)
    (htk : toks s.data.toList 1 1 = joinT acc (toks s'.data.toList x y))
    (hown : w3.ownsRow (w.heap.size + 2) 25 5 v' (acc.length + 1) (tksCells acc ++ tkCells ⟨k, t, n, x2, y2⟩)) (hrd : Rd w2 (w.heap.size + 1) (s2.extract len s2.size) x2 (y2 + len))
    (hres : w2.heap[w.heap.size]? = some (.cells #[.int .i64 0, .int .i64 0] 23 (0, 0))) (h2 : w.heap.size + 2 ≤ w2.heap.size)
    (h3 : (∀ b, b < w.heap.size + 2 → w3.heap[b]? = w2.heap[b]?)) (hb : Below w.heap.size w w3) (h4 : w2.heap.size < w3.heap.size)
    (d1 : 0 ≤ x2) (d2 : 1 ≤ y2) (d3 : x2 + s2.size ≤ x + s'.size) (d4 : y2 + s2.size ≤ y + s'.size) (d5 : s2.size ≤ s'.size) (bx2 : x + s'.size ≤ 1 + s.size) (by2 : y + s'.size ≤ 1 + s.size) (bl : acc.length + s'.size ≤ s.size) (hgk : s'.size + 1 ≤ gk) :
    TInv s w (s2.size - len + 1) v' w3 (acc ++ [⟨k, t, n, x2, y2⟩]) (s2.extract len s2.size) x2 (y2 + len) ∧ s2.size - len + 1 < gk := by
  have hl := tokOf_len _ _ _ _ _ htok
  rw [size_toList] at hl
  have hl2 := hl.2 hk
  have hl1 := hl.1
  refine ⟨⟨?_, ?_, ?_, hb, by omega, by rw [size_ext]; omega, ?_, d1, by omega, by rw [size_ext]; omega, by rw [size_ext]; omega, by rw [size_ext]; simp; omega⟩, by omega⟩
  · rw [← tksCells_snoc]; simpa using hown
  · exact (h3 _ (by omega)).trans hrd
  · exact (h3 _ (by omega)).trans hres
  · rw [htk, toks_step _ _ _ _ _ _ hsk k t n len hk htok, joinT_join, Lib.extract_to_end]

set_option maxHeartbeats 400000 in
theorem tokens_full (s : ByteArray) (w : World) (h : 65536 < s.size) : Calls Tryd.prog 20 #[.string s] w fun e w' => e = .returned (.tuple #[.slice none 0 0, .agg #[.int .i64 0, .int .i64 0], .int .i64 4]) ∧ Below w.heap.size w w' := by
  have hI : (65536 : Int) < (s.size : Int) := by omega
  clear h
  go_enter Tryd.func20, Tryd.ntmps20
  go_wp2
  exact bodyPost_ret (v := .tuple #[.slice none 0 0, .agg #[.int .i64 0, .int .i64 0], .int .i64 4]) (by simp [results, Tryd.results20, go_sem]) rfl ⟨rfl, (Below.refl _ _).alloc (Nat.le_refl _) _⟩

set_option maxRecDepth 100000 in
set_option maxHeartbeats 1000000 in
theorem tokens_any (s : ByteArray) (w : World) (hs : s.size ≤ 65536) (hp : Pairs w) : Calls Tryd.prog 20 #[.string s] w (TokensPost s w) := by
  have HP := Lib.hid hp
  have hp0 := hp.lt
  have HI : Hid (TInv s w (s.size + 1) (.slice none 0 0) ((w.alloc (.cells #[.int .i64 0, .int .i64 0] 23)).alloc (.cells #[.string s, .int .i64 1, .int .i64 1] 101)) [] s 1 1) := by
    refine ⟨World.ownsRow_nil _ _ _ _, ?_, ?_, ?_, by simp, Nat.le_refl _, (joinT_nil _).symm, by omega, by omega, by omega, by omega, by simp⟩
    · have := heap_alloc_new (w.alloc (.cells #[.int .i64 0, .int .i64 0] 23)) (.cells #[.string s, .int .i64 1, .int .i64 1] 101)
      unfold Rd
      simpa using this
    · exact (Below.heap_alloc _ _ _ (by simp)).trans (heap_alloc_new w _)
    · exact ((Below.refl _ _).alloc (Nat.le_refl _) _).alloc (by simp) _
  have hsI : (s.size : Int) ≤ 65536 := by omega
  obtain ⟨i0, hi, hz0, hz1, hz2⟩ := info_parts Tryd.infoToken
  clear hp
  go_enter Tryd.func20, Tryd.ntmps20
  go_wp2_with fail
  go_loopg [5] (s.size + 1) (fun k v wr => ∃ acc s' x y, TInv s w k v wr acc s' x y)
  case atStart => exact ⟨[], s, 1, 1, HI.out⟩
  case round =>
    clear HI
    obtain ⟨acc, s', x, y, hinv⟩ := hrel
    obtain ⟨hown, hrd, hres, hbw, hsz, hk, htk, bx, by1, bx2, by2, bl⟩ := hinv
    have HO := Lib.hid hown
    have HR := Lib.hid hrd
    have HRES := Lib.hid hres
    have HBW := Lib.hid hbw
    have HTK := Lib.hid htk
    have HPr := Lib.hid (HP.out.below hbw hp0)
    clear hown hrd hres hbw htk
    go_wp2_with (go_at_call 62; refine (skip_any (w.heap.size + 1) s' x y _ (by omega) HR.out (by omega) (by omega) (by omega) (by omega)).mono ?_; rintro e w1 ⟨rfl, hsk⟩; obtain ⟨s2, x2, y2, hr2, hg1, hsk2, d1, d2, d3, d4, d5⟩ := hsk; have c1 := hr2.c1; have c2 := hr2.c2; have HR2 := Lib.hid hr2; have HG1 := Lib.hid hg1; have HSK2 := Lib.hid hsk2; clear hr2 hg1 hsk2)
    have hP1 : Pairs (w1.alloc (.cells #[.int .i64 x2, .int .i64 y2] 23)) := by
      refine (HPr.out.keep fun o => World.cell?_of_block (HG1.out.block _ ?_ ?_)).alloc _
      · have := HPr.out.lt; exact this
      · intro e; injection e with e; have : 0 < w.heap.size := hp0; simp at e
    refine (token_any (w.heap.size + 1) s2 x2 y2 _ (by omega) hP1 (HR2.out.alloc _) (by omega) (by omega)).mono ?_
    intro e w2 hT
    obtain ⟨hg2, hT⟩ := hT
    obtain ⟨r1, r2, r3, r4, r5⟩ := tok_round hsz HRES.out HG1.out hg2
    obtain ⟨⟨a0, a1⟩, af0, af1⟩ := blk2 r1
    obtain ⟨⟨p0, p1⟩, pf0, pf1⟩ := blk2 r2
    have HB2 := Lib.hid (HBW.out.grown r3 (by omega) (fun k e => by injection e with e; omega))
    have HG2 := Lib.hid r3
    have HRR := Lib.hid r1
    clear r1 r2 r3 hg2 hP1
    rcases htok : tokOf s2.data.toList with _ | ⟨k, t, n, len⟩
    · rw [htok] at hT
      simp only at hT
      subst hT
      have HF := Lib.hid (toks_bad _ _ _ _ _ _ HSK2.out htok)
      have HT := Lib.hid htok
      clear htok
      unfold tkV
      have hlt0 : w.heap.size < w2.heap.size := by omega
      go_wp2
      go_region
      all_goals
        go_wp2
        refine bodyPost_ret (v := .tuple #[.slice none 0 0, .agg #[.int .i64 x2, .int .i64 y2], .int .i64 7]) (by simp [results, Tryd.results20, go_sem, hlt0, a0, a1, World.size_setCell]) rfl ?_
        refine tokensPost_error (by rw [HTK.out, HF.out]; rfl) ?_ rfl
        exact (((HB2.out.setCell (p := ⟨w.heap.size, 0, none⟩) (Nat.le_refl _) _).setCell (p := ⟨w.heap.size, 1, none⟩) (Nat.le_refl _) _).alloc (by simp; omega) _).drew
    · rw [htok] at hT
      simp only at hT
      obtain ⟨rfl, hr3⟩ := hT
      have HR3 := Lib.hid hr3
      have HT := Lib.hid htok
      have HO2 := Lib.hid (HO.out.kept HG2.out (own_ne HO.out))
      have hmax : acc.length + 1 ≤ maxLen := by unfold maxLen; omega
      clear htok hr3
      unfold tkV
      by_cases hk5 : k = 5
      · have hkb : (k == 5) = true := by rw [hk5]; rfl
        have HK5 := Lib.hid hk5
        clear hk5
        go_wp2_with (at_builtin; refine wpList_append_own _ rfl (.tmp 29) (.tmp 31) 30 rfl (w.heap.size + 2) 25 i0 _ 5 48 Tryd.underlying30 hi hz0 hz1 hz2 rfl (by decide) _ acc.length (tksCells acc) rfl ((HO2.out.alloc _).alloc _) ⟨w2.heap.size + 1, 0, none⟩ 1 1 (tkCells ⟨k, t, n, x2, y2⟩) rfl rfl ?c1 ?c2 hmax ?c4 ?c5 ?_)
        case c1 => exact World.news_of_block (cs := #[.int .i64 k, .string ⟨t.toArray⟩, .int .i64 n, .int .i64 x2, .int .i64 y2]) (t := 25) (fr := (0, 0)) (by have := heap_alloc_new (w2.alloc (.cells #[.int .i64 k, .string ⟨t.toArray⟩, .int .i64 n, .int .i64 x2, .int .i64 y2] 25)) (.cells #[.int .i64 k, .string ⟨t.toArray⟩, .int .i64 n, .int .i64 x2, .int .i64 y2] 25); simpa using this)
        case c2 => simp [tkCells, Value.oneCell']
        case c4 => omega
        case c5 => simp; omega
        intro v' w3 hown3 hg3 _
        obtain ⟨q1, q2, q3, q4⟩ := tok_after HO2.out (by omega) HB2.out hg3
        have hk0 := (blk5 q2).1.1
        obtain ⟨⟨z0, z1⟩, zf0, zf1⟩ := blk2 ((q1 w.heap.size (by omega)).trans HRR.out)
        have HE := Lib.hid (tokens_end HSK2.out HT.out HK5.out HTK.out hown3)
        have HB3 := Lib.hid q3
        clear hown3 hg3 q1 q2 q3
        have hlt0 : w.heap.size < w3.heap.size := by omega
        obtain ⟨E1, E2⟩ := HE.out
        have HE1 := Lib.hid E1
        have HE2 := Lib.hid E2
        clear E1 E2 HE
        go_wp2
        refine bodyPost_ret (v := .tuple #[v', .agg #[.int .i64 0, .int .i64 0], .int .i64 0]) (by simp [results, Tryd.results20, go_sem, z0, z1]) rfl ?_
        refine tokensPost_ok HE1.out ?_ rfl ?_
        · exact (HB3.out.setCell (p := ⟨w.heap.size, 0, none⟩) (Nat.le_refl _) _).setCell (p := ⟨w.heap.size, 1, none⟩) (Nat.le_refl _) _
        · exact ((ownsRow_setCell_below (ownsRow_setCell_below HE2.out (a := ⟨w.heap.size, 0, none⟩) (by simp) _) (a := ⟨w.heap.size, 1, none⟩) (by simp) _).mono (by omega))
      · have hkb : (k == 5) = false := beq_eq_false_iff_ne.2 hk5
        have HK5 := Lib.hid hk5
        clear hk5
        go_wp2_with (at_builtin; refine wpList_append_own _ rfl (.tmp 29) (.tmp 31) 30 rfl (w.heap.size + 2) 25 i0 _ 5 48 Tryd.underlying30 hi hz0 hz1 hz2 rfl (by decide) _ acc.length (tksCells acc) rfl ((HO2.out.alloc _).alloc _) ⟨w2.heap.size + 1, 0, none⟩ 1 1 (tkCells ⟨k, t, n, x2, y2⟩) rfl rfl ?d1 ?d2 hmax ?d4 ?d5 ?_)
        case d1 => exact World.news_of_block (cs := #[.int .i64 k, .string ⟨t.toArray⟩, .int .i64 n, .int .i64 x2, .int .i64 y2]) (t := 25) (fr := (0, 0)) (by have := heap_alloc_new (w2.alloc (.cells #[.int .i64 k, .string ⟨t.toArray⟩, .int .i64 n, .int .i64 x2, .int .i64 y2] 25)) (.cells #[.int .i64 k, .string ⟨t.toArray⟩, .int .i64 n, .int .i64 x2, .int .i64 y2] 25); simpa using this)
        case d2 => simp [tkCells, Value.oneCell']
        case d4 => omega
        case d5 => simp; omega
        intro v' w3 hown3 hg3 _
        obtain ⟨q1, q2, q3, q4⟩ := tok_after HO2.out (by omega) HB2.out hg3
        have hk0 := (blk5 q2).1.1
        have HN := Lib.hid (tinv_next HSK2.out HT.out HK5.out HTK.out hown3 HR3.out HRR.out (by omega) q1 q3 q4 d1 d2 d3 d4 d5 bx2 by2 bl hk)
        clear hown3 hg3 q1 q2 q3
        go_wp2
        go_roundg (s2.size - len + 1)
        case measure => exact HN.out.2
        case rel => exact ⟨_, _, _, _, HN.out.1⟩
end Go.Proofs.YthbcfcbonmphfaaDoor
