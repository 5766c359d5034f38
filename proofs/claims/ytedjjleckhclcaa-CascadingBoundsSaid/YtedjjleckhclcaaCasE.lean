/- Walks: augment. -/
import Derived.Test.YtedjjleckhclcaaCasD
namespace Go.Proofs.Ytedjjleckhclcaa
open Go.RowKit
set_option maxRecDepth 100000

/-- A slice of ints, as a value. -/
def IntsV (P : Nat → Prop) (w : World) (v : Value) (L : List Int) : Prop :=
  ∃ A c, v = .slice A L.length c ∧ L.length ≤ c ∧ c ≤ maxLen ∧ (A = none → c = 0) ∧ IntsAt P w A L
theorem intsV_own {P : Nat → Prop} {w : World} {B : Nat} {e : TypeId} {v : Value} {L : List Int} (h : w.ownsRow B e 1 v L.length (L.map (Value.int .i64))) (hP : ∀ b, B ≤ b → b < w.heap.size → P b) : IntsV P w v L := by
  rcases h.2 with ⟨rfl, h0⟩ | ⟨g, cap, cur, rfl, hb, hg, hle, hm, hs, hx⟩
  · exact ⟨none, 0, by rw [h0], by omega, by unfold maxLen; omega, fun _ => rfl, fun hl => by omega⟩
  · exact ⟨some ⟨g, 0, none⟩, cap, rfl, hle, hm, (fun e => by cases e), intsAt_own h hP⟩
theorem IntsV.keep {P : Nat → Prop} {w w' : World} {v : Value} {L : List Int} (h : IntsV P w v L) (hk : ∀ b o, P b → w'.cell? ⟨b, o, none⟩ = w.cell? ⟨b, o, none⟩) : IntsV P w' v L := by
  obtain ⟨A, c, rfl, h1, h2, h3, h4⟩ := h
  exact ⟨A, c, rfl, h1, h2, h3, h4.keep hk⟩
theorem IntsV.more {P Q : Nat → Prop} {w : World} {v : Value} {L : List Int} (h : IntsV P w v L) (hk : ∀ b, P b → Q b) : IntsV Q w v L := by
  obtain ⟨A, c, rfl, h1, h2, h3, h4⟩ := h
  exact ⟨A, c, rfl, h1, h2, h3, h4.more hk⟩

theorem Try.infoInt : (Try.prog.info? 3).map (fun i => (i.zero, i.size, i.bytes)) = some (some (.int .i64 0), 1, 8) := by kernel_rfl

/-- How many were taken, before each element and after the last one. -/
def tks (m : List CE) : List Int := (List.range (m.length + 1)).map fun k => (cnt m k : Int)
def tkp (m : List CE) (k : Nat) : List Int := (List.range k).map fun j => (cnt m j : Int)
theorem tkp_snoc (m : List CE) (k : Nat) : tkp m (k + 1) = tkp m k ++ [(cnt m k : Int)] := by simp [tkp, List.range_succ]
theorem tkp_len (m : List CE) (k : Nat) : (tkp m k).length = k := by simp [tkp]
theorem tks_len (m : List CE) : (tks m).length = m.length + 1 := by simp [tks]
theorem tks_get {m : List CE} {k : Nat} (h : k ≤ m.length) : (tks m)[k]? = some (cnt m k : Int) := by
  unfold tks
  rw [List.getElem?_map, List.getElem?_range (by omega)]
  rfl
theorem cnt_snoc {m : List CE} {k : Nat} {e : CE} (h : m[k]? = some e) : cnt m (k + 1) = cnt m k + if e.2 then 1 else 0 := by
  unfold cnt
  rw [List.take_add_one, h, List.countP_append, Option.toList_some, List.countP_singleton]
def vals (L : List Int) : List Value := L.map (Value.int .i64)
theorem vals_snoc (L : List Int) (x : Int) : vals (L ++ [x]) = vals L ++ [.int .i64 x] := by simp [vals]

/-- What the last loop of augment keeps. -/
structure AInv (w w3 : World) (Lb : Nat) (m : List CE) (k : Nat) (Ak At : Option Addr) (ck ct : Nat) (wr : World) : Prop where
  same : ∀ b, b < w3.heap.size → b ≠ Lb → wr.heap[b]? = w3.heap[b]?
  size : w3.heap.size ≤ wr.heap.size
  box : wr.heap[Lb]? = some (.cells #[.slice Ak k ck, .slice At k ct] 51 (0, 0))
  keys : wr.ownsRow w3.heap.size 3 1 (.slice Ak k ck) k (vals ((m.map Prod.fst).take k))
  taken : wr.ownsRow w3.heap.size 3 1 (.slice At k ct) k (vals (tkp m k))
  apart : ∀ g, (Value.slice Ak k ck).ownBlock = some g → (Value.slice At k ct).ownBlock ≠ some g
  below : Below w.heap.size w wr

/-- The blocks behind an append of one number to a row of the call's own. -/
theorem app_same {w1 w2 : World} {v : Value} {o : Obj} {n B size : Nat} {e : TypeId} {xs : List Value} (ho : w1.ownsRow B e size v n xs) (hg : (w1.alloc o).grownBy w2 v.ownBlock) :
    (∀ b, b < B → b < w1.heap.size → w2.heap[b]? = w1.heap[b]?) ∧ (∀ b, b < w1.heap.size → v.ownBlock ≠ some b → w2.heap[b]? = w1.heap[b]?) ∧ w1.heap.size < w2.heap.size := by
  have hs := hg.size
  simp only [World.size_alloc] at hs
  have key : ∀ b, b < w1.heap.size → v.ownBlock ≠ some b → w2.heap[b]? = w1.heap[b]? := fun b hb hne =>
    (hg.block b (by simp; omega) (fun e => hne e.symm)).trans (Below.heap_alloc _ _ _ hb)
  exact ⟨fun b hb hb' => key b hb' (fun e => by have := (ho.lt b e).1; omega), key, by omega⟩
theorem app_below {w0 w1 w2 : World} {v : Value} {o : Obj} {n B B0 size : Nat} {e : TypeId} {xs : List Value} (h : Below B0 w0 w1) (ho : w1.ownsRow B e size v n xs) (hB : B0 ≤ B) (hs : B0 ≤ w1.heap.size) (hg : (w1.alloc o).grownBy w2 v.ownBlock) : Below B0 w0 w2 :=
  (h.alloc hs o).grown hg (by simp; omega) (fun k e => by have := (ho.lt k e).1; omega)
theorem own_same {w w' : World} {B n size : Nat} {e : TypeId} {v : Value} {xs : List Value} (h : w.ownsRow B e size v n xs) (hk : ∀ b, v.ownBlock = some b → w'.heap[b]? = w.heap[b]?) : w'.ownsRow B e size v n xs := by
  refine ⟨h.1, ?_⟩
  rcases h.2 with h0 | ⟨g, cap, cur, rfl, hb, hg, hr⟩
  · exact .inl h0
  · exact .inr ⟨g, cap, cur, rfl, hb, (hk g rfl).trans hg, hr⟩
theorem setCell_other {w : World} {b b' : Nat} {i : Nat} {v : Value} (h : b ≠ b') : (w.setCell ⟨b', i, none⟩ v).heap[b]? = w.heap[b]? := Below.heap_setCell _ _ _ _ (by simpa using h)
theorem setCell_at {w : World} {b : Nat} {i : Nat} {v : Value} {cs : Array Value} {t : TypeId} (h : w.heap[b]? = some (.cells cs t (0, 0))) : (w.setCell ⟨b, i, none⟩ v).heap[b]? = some (.cells (cs.setIfInBounds i v) t (0, 0)) := by
  simp [World.setCell, Array.getElem?_modify, h]

/-- The first append of a round: to the keys. -/
theorem aug_one {w w3 wr W3 : World} {Lb k ck ct gg cap : Nat} {m : List CE} {Ak At : Option Addr} {x : CE} {ob oc : Obj} (h : AInv w w3 Lb m k Ak At ck ct wr) (hL : Lb < w3.heap.size) (hw : w.heap.size ≤ w3.heap.size)
    (_ho : W3.ownsRow w3.heap.size 3 1 (.slice (some ⟨gg, 0, none⟩) (k + 1) cap) (k + 1) (vals ((m.map Prod.fst).take k) ++ [.int .i64 x.1])) (hg : ((wr.alloc ob).alloc oc).grownBy W3 (Value.slice Ak k ck).ownBlock)
    (hat : (Value.slice Ak k ck).ownBlock = some gg ∨ gg = wr.heap.size + 2) :
    (W3.heap[Lb]? = some (.cells #[.slice Ak k ck, .slice At k ct] 51 (0, 0)) ∧ W3.heap[wr.heap.size]? = some ob ∧ (∀ b, b < w3.heap.size → b ≠ Lb → W3.heap[b]? = w3.heap[b]?) ∧ wr.heap.size < W3.heap.size ∧
      W3.ownsRow w3.heap.size 3 1 (.slice At k ct) k (vals (tkp m k)) ∧ (∀ g, (Value.slice (some ⟨gg, 0, none⟩) (k + 1) cap).ownBlock = some g → (Value.slice At k ct).ownBlock ≠ some g)) ∧ Below w.heap.size w W3 := by
  have hs := h.size
  have hk' : (wr.alloc ob).ownsRow w3.heap.size 3 1 (.slice Ak k ck) k (vals ((m.map Prod.fst).take k)) := h.keys.alloc ob
  obtain ⟨s1, s2, s3⟩ := app_same hk' hg
  simp only [World.size_alloc] at s1 s2 s3
  have hne : (Value.slice Ak k ck).ownBlock ≠ some wr.heap.size := fun e => by have := (h.keys.lt _ e).2; omega
  have hlow : ∀ b, b < w3.heap.size → W3.heap[b]? = wr.heap[b]? := fun b hb => (s1 b hb (by omega)).trans (Below.heap_alloc _ _ _ (by omega))
  refine ⟨⟨(hlow Lb hL).trans h.box, (s2 _ (by omega) hne).trans (heap_alloc_new wr ob), fun b hb hb' => (hlow b hb).trans (h.same b hb hb'), by omega, own_same h.taken fun b e => ?_, ?_⟩, ?_⟩
  · have hlt := (h.taken.lt b e).2
    exact (s2 b (by omega) (fun e' => h.apart b e' e)).trans (Below.heap_alloc _ _ _ hlt)
  · intro g e e'
    obtain rfl : gg = g := by simpa [Value.ownBlock] using e
    rcases hat with hat | hat
    · exact h.apart gg hat e'
    · have := (h.taken.lt gg e').2
      omega
  · exact app_below (h.below.alloc h.below.size ob) hk' hw (by simp; have := h.below.size; omega) hg
/-- Behind both appends of a round. -/
theorem aug_two {w w3 wr W3 W4 W6 : World} {Lb k ck ct gg cap g2 cap2 : Nat} {m : List CE} {Ak At : Option Addr} {x : CE} {ob oc : Obj} (hx : m[k]? = some x) (hL : Lb < w3.heap.size) (hw : w.heap.size ≤ Lb) (hs : w3.heap.size ≤ wr.heap.size)
    (h1 : (W3.heap[Lb]? = some (.cells #[.slice Ak k ck, .slice At k ct] 51 (0, 0)) ∧ W3.heap[wr.heap.size]? = some ob ∧ (∀ b, b < w3.heap.size → b ≠ Lb → W3.heap[b]? = w3.heap[b]?) ∧ wr.heap.size < W3.heap.size ∧
      W3.ownsRow w3.heap.size 3 1 (.slice At k ct) k (vals (tkp m k)) ∧ (∀ g, (Value.slice (some ⟨gg, 0, none⟩) (k + 1) cap).ownBlock = some g → (Value.slice At k ct).ownBlock ≠ some g)) ∧ Below w.heap.size w W3)
    (ho1 : W3.ownsRow w3.heap.size 3 1 (.slice (some ⟨gg, 0, none⟩) (k + 1) cap) (k + 1) (vals ((m.map Prod.fst).take k) ++ [.int .i64 x.1]))
    (hW4 : W4 = W3.setCell ⟨Lb, 0, none⟩ (.slice (some ⟨gg, 0, none⟩) (k + 1) cap))
    (ho2 : W6.ownsRow w3.heap.size 3 1 (.slice (some ⟨g2, 0, none⟩) (k + 1) cap2) (k + 1) (vals (tkp m k) ++ [.int .i64 (cnt m k)])) (hg : (W4.alloc oc).grownBy W6 (Value.slice At k ct).ownBlock) (hat : (Value.slice At k ct).ownBlock = some g2 ∨ g2 = W3.heap.size + 1)
    (hne : (Value.slice At k ct).ownBlock ≠ some wr.heap.size) :
    W6.heap[Lb]? = some (.cells #[.slice (some ⟨gg, 0, none⟩) (k + 1) cap, .slice At k ct] 51 (0, 0)) ∧ W6.heap[wr.heap.size]? = some ob ∧
      AInv w w3 Lb m (k + 1) (some ⟨gg, 0, none⟩) (some ⟨g2, 0, none⟩) cap cap2 (W6.setCell ⟨Lb, 1, none⟩ (.slice (some ⟨g2, 0, none⟩) (k + 1) cap2)) := by
  obtain ⟨⟨hb, he, hsame, hs3, ht, hap⟩, hbw⟩ := h1
  have hsz4 : W4.heap.size = W3.heap.size := by rw [hW4]; simp
  have ho : W4.ownsRow w3.heap.size 3 1 (.slice At k ct) k (vals (tkp m k)) := own_same ht fun b e => by
    rw [hW4]; exact setCell_other (by have := (ht.lt b e).1; omega)
  have h14 : ∀ b, b ≠ Lb → W4.heap[b]? = W3.heap[b]? := fun b hb => by rw [hW4]; exact setCell_other hb
  have hb4 : W4.heap[Lb]? = some (.cells #[.slice (some ⟨gg, 0, none⟩) (k + 1) cap, .slice At k ct] 51 (0, 0)) := by rw [hW4]; exact setCell_at hb
  obtain ⟨s1, s2, s3⟩ := app_same ho hg
  have hl6 : ∀ b, b < w3.heap.size → W6.heap[b]? = W4.heap[b]? := fun b hb => s1 b hb (by omega)
  have hb6 := (hl6 Lb hL).trans hb4
  have hgg : (Value.slice At k ct).ownBlock ≠ some gg := hap gg rfl
  have hgl := (ho1.lt gg rfl)
  refine ⟨hb6, (s2 _ (by omega) hne).trans ((h14 _ (by omega)).trans he), ⟨fun b hb hb' => ?_, by simp; omega, setCell_at hb6, ?_, ?_, ?_, ?_⟩⟩
  · exact (setCell_other hb').trans ((hl6 b hb).trans ((h14 b hb').trans (hsame b hb hb')))
  · have : W6.ownsRow w3.heap.size 3 1 (.slice (some ⟨gg, 0, none⟩) (k + 1) cap) (k + 1) (vals ((m.map Prod.fst).take k) ++ [.int .i64 x.1]) := own_same ho1 fun b e => by
      obtain rfl : gg = b := by simpa [Value.ownBlock] using e
      exact (s2 gg (by omega) hgg).trans (h14 gg (by omega))
    rw [List.take_add_one, List.getElem?_map, hx, Option.map_some, Option.toList_some, vals_snoc]
    exact own_same this fun b e => setCell_other (by have := (this.lt b e).1; omega)
  · rw [tkp_snoc, vals_snoc]
    exact own_same ho2 fun b e => setCell_other (by have := (ho2.lt b e).1; omega)
  · intro g e e'
    obtain rfl : gg = g := by simpa [Value.ownBlock] using e
    obtain rfl : g2 = gg := by simpa [Value.ownBlock] using e'
    rcases hat with h | h
    · exact hgg h
    · omega
  · refine Below.setCell (app_below (B := w3.heap.size) ?_ ho (by omega) (by omega) hg) (p := ⟨Lb, 1, none⟩) hw _
    rw [hW4]
    exact hbw.setCell (p := ⟨Lb, 0, none⟩) hw _
end Go.Proofs.Ytedjjleckhclcaa
