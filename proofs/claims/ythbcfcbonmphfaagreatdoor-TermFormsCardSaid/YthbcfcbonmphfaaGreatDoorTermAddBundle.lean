/- Fields in memory: what the reference's add reads and makes, and its appends as steps. -/
import Derived.Deep.AppendLies
import Derived.Deep.RegionLaw
import Derived.BigQuiet
import Derived.Deep.QuietTactic
import Derived.Deep.DeepCutAuto
import Derived.Deep.CutBlock
import Derived.IntWalk
import Derived.Test.YthbcfcbonmphfaaGreatDoorJoinSBundle
import Derived.Test.YthbcfcbonmphfaaGreatDoorTermGBundle
namespace Go.Proofs.YthbcfcbonmphfaaGreatDoor
open Go.RowKit Go.Shelf
set_option maxRecDepth 100000
attribute [local go_sem] Oper.semAt_some

def fC (g : FF) : List Value := [.string g.1, .string g.2]
/-- A slice of fields in memory. -/
def FLv (w : World) (v : Value) (l : List FF) : Prop :=
  ∃ A c, v = .slice A l.length c ∧ l.length ≤ c ∧ c ≤ maxLen ∧ (0 < l.length → ∃ b off, A = some ⟨b, off, none⟩ ∧ b < w.heap.size ∧ ∀ (i : Nat) (g : FF), l[i]? = some g → w.cell? ⟨b, off + i * 2, none⟩ = some (.string g.1) ∧ w.cell? ⟨b, off + i * 2 + 1, none⟩ = some (.string g.2))
theorem FLv.below {w w' : World} {v : Value} {l : List FF} (h : FLv w v l) (hb : Below w.heap.size w w') : FLv w' v l := by
  obtain ⟨A, c, h1, h2, h3, h4⟩ := h
  have hs := hb.size
  refine ⟨A, c, h1, h2, h3, fun hl => ?_⟩
  obtain ⟨b, off, h5, h6, h7⟩ := h4 hl
  exact ⟨b, off, h5, by omega, fun i g hg => ⟨(hb.cell (p := ⟨b, _, none⟩) h6).trans (h7 i g hg).1, (hb.cell (p := ⟨b, _, none⟩) h6).trans (h7 i g hg).2⟩⟩
theorem insF_at : ∀ (k : Nat) (l : List FF) (f : FF), k ≤ l.length → (∀ j g, j < k → l[j]? = some g → bcmp g.1 f.1 = -1) → (insF l f).1 = l.take k ++ (insF (l.drop k) f).1 ∧ (insF l f).2 = (insF (l.drop k) f).2
  | 0, l, f, _, _ => by simp
  | k + 1, [], f, h, _ => by simp at h
  | k + 1, g :: l, f, h, hl => by
    have h0 := hl 0 g (by omega) rfl
    have ih := insF_at k l f (by simpa using h) (fun j x hj hx => hl (j + 1) x (by omega) (by simpa using hx))
    rw [insF, if_pos h0]
    simp only [List.take_succ_cons, List.drop_succ_cons, List.cons_append]
    exact ⟨by rw [ih.1], ih.2⟩
theorem less_true {a b : ByteArray} (h : bcmp a b = -1) : Op.bytesLess a.toList b.toList = true := by
  rw [cb_less, Lib.toList_data, Lib.toList_data]; exact decide_eq_true h
theorem less_false {a b : ByteArray} (h : bcmp a b ≠ -1) : Op.bytesLess a.toList b.toList = false := by
  rw [cb_less, Lib.toList_data, Lib.toList_data]; exact decide_eq_false h

/-! ### cells of fields -/
def fcs (l : List FF) : List Value := l.flatMap fC
theorem fcs_append (l r : List FF) : fcs (l ++ r) = fcs l ++ fcs r := by simp [fcs]
theorem fcs_length : ∀ l : List FF, (fcs l).length = l.length * 2
  | [] => rfl
  | g :: l => by
    have := fcs_length l
    show (fC g ++ fcs l).length = _
    simp only [List.length_append, fC, List.length_cons, List.length_nil, this]
    omega
theorem fcs_at : ∀ (l : List FF) (i : Nat) (g : FF), l[i]? = some g → (fcs l)[i * 2]? = some (.string g.1) ∧ (fcs l)[i * 2 + 1]? = some (.string g.2)
  | [], i, g, h => by simp at h
  | x :: l, 0, g, h => by
    simp at h
    subst h
    exact ⟨rfl, rfl⟩
  | x :: l, i + 1, g, h => by
    have ih := fcs_at l i g (by simpa using h)
    have e : fcs (x :: l) = .string x.1 :: .string x.2 :: fcs l := rfl
    rw [e, show (i + 1) * 2 = i * 2 + 1 + 1 by omega]
    simpa using ih
theorem fcs_get : ∀ (l : List FF) (j : Nat) (u : Value), (fcs l)[j]? = some u → ∃ i g, l[i]? = some g ∧ ((j = i * 2 ∧ u = .string g.1) ∨ (j = i * 2 + 1 ∧ u = .string g.2))
  | [], j, u, h => by simp [fcs] at h
  | x :: l, 0, u, h => by
    have e : fcs (x :: l) = .string x.1 :: .string x.2 :: fcs l := rfl
    rw [e] at h
    simp at h
    exact ⟨0, x, rfl, .inl ⟨rfl, h.symm⟩⟩
  | x :: l, 1, u, h => by
    have e : fcs (x :: l) = .string x.1 :: .string x.2 :: fcs l := rfl
    rw [e] at h
    simp at h
    exact ⟨0, x, rfl, .inr ⟨rfl, h.symm⟩⟩
  | x :: l, j + 2, u, h => by
    have e : fcs (x :: l) = .string x.1 :: .string x.2 :: fcs l := rfl
    rw [e] at h
    obtain ⟨i, g, hg, hh⟩ := fcs_get l j u (by simpa using h)
    refine ⟨i + 1, g, by simpa using hg, ?_⟩
    rcases hh with ⟨rfl, hh⟩ | ⟨rfl, hh⟩
    · exact .inl ⟨by omega, hh⟩
    · exact .inr ⟨by omega, hh⟩
theorem fcs_one (l : List FF) : ∀ u ∈ fcs l, u.oneCell' = true := by
  intro u hu
  obtain ⟨j, hj⟩ := List.getElem?_of_mem hu
  obtain ⟨i, g, _, h⟩ := fcs_get l j u hj
  rcases h with ⟨_, rfl⟩ | ⟨_, rfl⟩ <;> rfl
theorem flv_own {w : World} {base : Nat} {v : Value} {l : List FF} (h : w.ownsRow base 45 2 v l.length (fcs l)) : FLv w v l := by
  rcases h.2 with ⟨rfl, h0⟩ | ⟨g, cap, cur, rfl, hb, hg, hn, hcap, hsz, htk⟩
  · exact ⟨none, 0, by rw [h0], by omega, by simp [maxLen], fun hl => by omega⟩
  · refine ⟨some ⟨g, 0, none⟩, cap, rfl, hn, hcap, fun _ => ⟨g, 0, rfl, ?_, fun i x hx => ?_⟩⟩
    · rcases Nat.lt_or_ge g w.heap.size with hlt | hge
      · exact hlt
      · rw [Array.getElem?_eq_none hge] at hg; cases hg
    · have hi : i < l.length := (List.getElem?_eq_some_iff.1 hx).1
      obtain ⟨h1, h2⟩ := fcs_at l i x hx
      rw [Nat.zero_add]
      exact ⟨(h.cellAt (i * 2) (by omega)).trans h1, (h.cellAt (i * 2 + 1) (by omega)).trans h2⟩

/-! ### where add stands -/
def St (w : World) (f : FF) (V : World) : Prop := Below w.heap.size w V ∧ V.heap[w.heap.size]? = some (.cells #[.string f.1, .string f.2] 45 (0, 0))
theorem St.lt {w V : World} {f : FF} (h : St w f V) : w.heap.size < V.heap.size := by
  rcases Nat.lt_or_ge w.heap.size V.heap.size with hlt | hge
  · exact hlt
  · have := h.2; rw [Array.getElem?_eq_none hge] at this; cases this
theorem St.drewN {w V : World} {f : FF} (h : St w f V) (n : Nat) : St w f (V.drewN n) := ⟨below_drewN h.1 n, h.2⟩
theorem St.alloc {w V : World} {f : FF} (h : St w f V) (o : Obj) : St w f (V.alloc o) :=
  ⟨h.1.alloc (by have := h.lt; omega) o, (heap_alloc_old V o (h := h.lt)).trans h.2⟩
theorem St.grown {w V V' : World} {f : FF} (h : St w f V) {g : Nat} (hg : V.grownBy V' (some g)) (hlt : w.heap.size < g) : St w f V' :=
  ⟨h.1.grown hg (by have := h.lt; omega) (fun k e => by cases e; omega), (hg.block _ h.lt (fun e => by cases e; omega)).trans h.2⟩
theorem Tryz.infoField : (Tryz.prog.info? 45).map (fun i => (i.zero, i.size, i.bytes)) = some (some (.agg #[.string ⟨#[]⟩, .string ⟨#[]⟩]), 2, 32) := by kernel_rfl
theorem flv_news {w V : World} {A : Option Addr} {l : List FF} {c : Nat} (h : FLv w (.slice A l.length c) l) (hb : Below w.heap.size w V) (i : Nat) (hi : i < l.length) :
    ∃ b off, A = some ⟨b, off, none⟩ ∧ b < w.heap.size ∧ (∀ k, ∀ j u, (fcs (l.take k))[j]? = some u → V.cell? ((⟨b, off, none⟩ : Addr).add j) = some u) ∧ (∀ j u, (fcs (l.drop i))[j]? = some u → V.cell? ((⟨b, off + i * 2, none⟩ : Addr).add j) = some u) := by
  obtain ⟨A', c', h1, h2, h3, h4⟩ := h
  injection h1 with h1 _ h1c
  subst h1
  obtain ⟨b, off, h5, h6, h7⟩ := h4 (by omega)
  have had : ∀ (x : Nat) (j : Nat), (⟨b, x, none⟩ : Addr).add j = ⟨b, x + j, none⟩ := fun x j => by unfold Addr.add; split <;> simp_all
  refine ⟨b, off, h5, h6, fun k j u hu => ?_, fun j u hu => ?_⟩
  · obtain ⟨n, g, hg, hh⟩ := fcs_get _ j u hu
    have hgl : l[n]? = some g := by
      rw [List.getElem?_take] at hg
      split at hg
      · exact hg
      · cases hg
    rw [had]
    rcases hh with ⟨rfl, rfl⟩ | ⟨rfl, rfl⟩
    · exact (hb.cell (p := ⟨b, _, none⟩) h6).trans (h7 n g hgl).1
    · exact (hb.cell (p := ⟨b, _, none⟩) h6).trans (h7 n g hgl).2
  · obtain ⟨n, g, hg, hh⟩ := fcs_get _ j u hu
    have hgl : l[i + n]? = some g := by rw [List.getElem?_drop] at hg; exact hg
    rw [had]
    rcases hh with ⟨rfl, rfl⟩ | ⟨rfl, rfl⟩
    · rw [show off + i * 2 + n * 2 = off + (i + n) * 2 by omega]
      exact (hb.cell (p := ⟨b, _, none⟩) h6).trans (h7 (i + n) g hgl).1
    · rw [show off + i * 2 + (n * 2 + 1) = off + (i + n) * 2 + 1 by omega]
      exact (hb.cell (p := ⟨b, _, none⟩) h6).trans (h7 (i + n) g hgl).2

/-! ### the appends -/
/-- An append of nothing. -/
theorem wp_append_zero {P : Program} {o : Oper} {a : Act} {w : World} {K : Act → World → Prop} {Q : Exit → Act → World → Prop} (s x : Operand) (t : TypeId)
    (ho : o.op = .call { callee := .builtin .append, args := #[s, x], argTypes := #[t, t] }) (e : TypeId) (i : TypeInfo) (ht : P.underlying t = some (.slice e)) (hi : P.info? e = some i)
    (base : Option Addr) (n cap : Nat) (hle : n ≤ cap) (A : Option Addr) (c : Nat) (hs : a.eval s = .slice base n cap) (hx : a.eval x = .slice A 0 c) (hK : K (a.put o.dst (.slice base n cap)) w) :
    o.wp P a w K Q := by
  have hrun : (Builtin.append_ #[t, t] o.type #[.slice base n cap, .slice A 0 c]).run P w = .ok (.slice base n cap) w := by
    cases base <;> cases A <;> simp [Builtin.append_, run_underlying ht, sizeOf, typeInfo, hi, Builtin.lenOf, Builtin.firstCells, loadCells, loadCellsFrom, storeCells, hle]
  unfold Oper.wp
  simp [execOp, ho, resolve, invoke, builtin, hs, hx, hrun, Result.andThen]
  exact hK
/-- An append of fields to a row of the call's own, which is there. -/
theorem wp_append_fs {o : Oper} {a : Act} {V : World} {K : Act → World → Prop} {Q : Exit → Act → World → Prop} (s x : Operand)
    (ho : o.op = .call { callee := .builtin .append, args := #[s, x], argTypes := #[38, 38] })
    {w : World} {f : FF} (hst : St w f V) {g n cap : Nat} {l : List FF} (hn : l.length = n) (hs : a.eval s = .slice (some ⟨g, 0, none⟩) n cap) (hcap : n ≤ cap) (hown : V.ownsRow (w.heap.size + 1) 45 2 (.slice (some ⟨g, 0, none⟩) n cap) n (fcs l)) (hg : w.heap.size < g) (hgV : g < V.heap.size)
    {A : Option Addr} {m c : Nat} {r : List FF} (hm : r.length = m) (hx : a.eval x = .slice A m c) (hnews : 0 < m → ∃ ad, A = some ad ∧ ∀ j u, (fcs r)[j]? = some u → V.cell? (ad.add j) = some u) (hl : n + m ≤ 200001)
    (h : ∀ g' cap' V', V.grownBy V' (some g) → Hid (St w f V') → w.heap.size < g' → g' < V'.heap.size → n + m ≤ cap' → Hid (V'.ownsRow (w.heap.size + 1) 45 2 (.slice (some ⟨g', 0, none⟩) (n + m) cap') (n + m) (fcs (l ++ r))) → K (a.put o.dst (.slice (some ⟨g', 0, none⟩) (n + m) cap')) V') :
    o.wp Tryz.prog a V K Q := by
  obtain ⟨i0, hi, hz0, hz1, hz2⟩ := info_parts Tryz.infoField
  rcases Nat.eq_zero_or_pos m with h0 | h0
  · subst h0
    have hr : r = [] := List.eq_nil_of_length_eq_zero hm
    subst hr
    refine wp_append_zero s x 38 ho 45 i0 Tryz.underlying38 hi _ n cap hcap A c hs hx ?_
    rw [List.append_nil] at h
    exact h g cap V (World.grownBy.refl V _) (Lib.hid hst) hg hgV hcap (Lib.hid hown)
  · obtain ⟨ad, rfl, hn'⟩ := hnews h0
    refine wp_append_lies V s x 38 ho (w.heap.size + 1) 45 i0 _ 2 32 Tryz.underlying38 hi hz0 hz1 hz2 rfl (by decide) _ n (fcs l) hs hown ad m c (fcs r) hx ((fcs_length r).trans (by rw [hm])) hn' (fcs_one r) h0 (by simp only [maxLen]; omega) (by omega) (by have := hst.lt; omega) _ rfl ?_
    intro g' cap' V' h1 h2 h3 h4
    have hlt : w.heap.size < g' := by
      rcases h3 with h3 | h3
      · have : g = g' := by simpa [Value.ownBlock] using h3
        omega
      · have := hst.lt; omega
    have hcap' : n + m ≤ cap' := by
      rcases h1.2 with ⟨h5, _⟩ | ⟨_, _, _, h5, _, _, h6, _⟩
      · cases h5
      · injection h5 with _ _ h7; omega
    refine h g' cap' V' h2 (Lib.hid (hst.grown h2 hg)) hlt h4 hcap' (Lib.hid ?_)
    rw [fcs_append]; exact h1
theorem step_append_fs {ops : Array Oper} {o : Oper} {a : Act} {V : World} {K : Act → World → Prop} {Q : Exit → Act → World → Prop} {E : Prop} (hgd : o.guard = none) (s x : Operand)
    (ho : o.op = .call { callee := .builtin .append, args := #[s, x], argTypes := #[38, 38] })
    (w : World) (f : FF) (hst : St w f V) (g n cap : Nat) (l : List FF) (hn : l.length = n) (hs : a.eval s = .slice (some ⟨g, 0, none⟩) n cap) (hcap : n ≤ cap) (hown : V.ownsRow (w.heap.size + 1) 45 2 (.slice (some ⟨g, 0, none⟩) n cap) n (fcs l)) (hg : w.heap.size < g) (hgV : g < V.heap.size)
    (A : Option Addr) (m c : Nat) (r : List FF) (hm : r.length = m) (hx : a.eval x = .slice A m c) (hnews : 0 < m → ∃ ad, A = some ad ∧ ∀ j u, (fcs r)[j]? = some u → V.cell? (ad.add j) = some u) (hl : n + m ≤ 200001)
    (h : ∀ g' cap' V', V.grownBy V' (some g) → Hid (St w f V') → w.heap.size < g' → g' < V'.heap.size → n + m ≤ cap' → Hid (V'.ownsRow (w.heap.size + 1) 45 2 (.slice (some ⟨g', 0, none⟩) (n + m) cap') (n + m) (fcs (l ++ r))) → K (a.put o.dst (.slice (some ⟨g', 0, none⟩) (n + m) cap')) V') :
    if Region.wanted o (yielded ops a.tmps) = true then Oper.wp Tryz.prog o a V K Q else E := by
  have hw : Region.wanted o (yielded ops a.tmps) = true := by simp [Region.wanted, hgd]
  rw [if_pos hw]
  exact wp_append_fs s x ho hst hn hs hcap hown hg hgV hm hx hnews hl h
theorem wpList_append_fs {ops : Array Oper} {rest : List Oper} {o : Oper} {a : Act} {V : World} {Q : Exit → Act → World → Prop} (hgd : o.guard = none) (s x : Operand)
    (ho : o.op = .call { callee := .builtin .append, args := #[s, x], argTypes := #[38, 38] })
    (w : World) (f : FF) (hst : St w f V) (g n cap : Nat) (l : List FF) (hn : l.length = n) (hs : a.eval s = .slice (some ⟨g, 0, none⟩) n cap) (hcap : n ≤ cap) (hown : V.ownsRow (w.heap.size + 1) 45 2 (.slice (some ⟨g, 0, none⟩) n cap) n (fcs l)) (hg : w.heap.size < g) (hgV : g < V.heap.size)
    (A : Option Addr) (m c : Nat) (r : List FF) (hm : r.length = m) (hx : a.eval x = .slice A m c) (hnews : 0 < m → ∃ ad, A = some ad ∧ ∀ j u, (fcs r)[j]? = some u → V.cell? (ad.add j) = some u) (hl : n + m ≤ 200001)
    (h : ∀ g' cap' V', V.grownBy V' (some g) → Hid (St w f V') → w.heap.size < g' → g' < V'.heap.size → n + m ≤ cap' → Hid (V'.ownsRow (w.heap.size + 1) 45 2 (.slice (some ⟨g', 0, none⟩) (n + m) cap') (n + m) (fcs (l ++ r))) → wpList Tryz.prog ops Q rest (a.put o.dst (.slice (some ⟨g', 0, none⟩) (n + m) cap')) V') :
    wpList Tryz.prog ops Q (o :: rest) a V :=
  wpList_plain hgd fun _ hK => wp_append_fs s x ho hst hn hs hcap hown hg hgV hm hx hnews hl fun g' cap' V' h1 h2 h3 h4 h5 h6 => hK _ _ (h g' cap' V' h1 h2 h3 h4 h5 h6)
/-- The first append, of l[:k] to the empty slice. -/
theorem step_first {ops : Array Oper} {o : Oper} {a : Act} {V : World} {K : Act → World → Prop} {Q : Exit → Act → World → Prop} {E : Prop} (hgd : o.guard = none) (s x : Operand)
    (ho : o.op = .call { callee := .builtin .append, args := #[s, x], argTypes := #[38, 38] })
    (w : World) (f : FF) (hst : St w f V) (g : Nat) (hs : a.eval s = .slice (some ⟨g, 0, none⟩) 0 0) (hgV : V.heap[g]? = some (.cells #[] 45 (0, 0))) (hg : w.heap.size < g)
    (l : List FF) (A : Option Addr) (c cl k : Nat) (hL : FLv w (.slice A l.length cl) l) (hk : k ≤ l.length) (hx : a.eval x = .slice A k c) (hl : l.length ≤ 100000)
    (h : ∀ g' cap' V', V.grownBy V' (some g) → Hid (St w f V') → w.heap.size < g' → g' < V'.heap.size → k ≤ cap' → Hid (V'.ownsRow (w.heap.size + 1) 45 2 (.slice (some ⟨g', 0, none⟩) k cap') k (fcs (l.take k))) → K (a.put o.dst (.slice (some ⟨g', 0, none⟩) k cap')) V') :
    if Region.wanted o (yielded ops a.tmps) = true then Oper.wp Tryz.prog o a V K Q else E := by
  have hlt : g < V.heap.size := by
    rcases Nat.lt_or_ge g V.heap.size with hlt | hge
    · exact hlt
    · rw [Array.getElem?_eq_none hge] at hgV; cases hgV
  have hm : (l.take k).length = k := by rw [List.length_take]; omega
  refine step_append_fs hgd s x ho w f hst g 0 0 [] rfl hs (Nat.le_refl _) ⟨rfl, .inr ⟨g, 0, #[], rfl, by omega, hgV, Nat.le_refl _, by simp [maxLen], rfl, rfl⟩⟩ hg hlt A k c (l.take k) hm hx (fun h0 => ?_) (by simp; omega) ?_
  · obtain ⟨b, off, hA, _, hc, _⟩ := flv_news hL hst.1 0 (by omega)
    exact ⟨_, hA, hc k⟩
  · simpa using h
end Go.Proofs.YthbcfcbonmphfaaGreatDoor

/- The reference's add. -/
namespace Go.Proofs.YthbcfcbonmphfaaGreatDoor
open Go.RowKit Go.Shelf
set_option maxRecDepth 100000
attribute [local go_sem] Oper.semAt_some

def AddPost (l : List FF) (f : FF) (w : World) (e : Ending) (w' : World) : Prop :=
  (∃ v', e = .returned (.tuple #[v', .bool (insF l f).2]) ∧ ((insF l f).2 = true → FLv w' v' (insF l f).1)) ∧ Below w.heap.size w w'

theorem drop_news {w V : World} {b off c k : Nat} {l : List FF} (h : FLv w (.slice (some ⟨b, off, none⟩) l.length c) l) (hb : Below w.heap.size w V) (hk : k < l.length) :
    ∃ ad, some (⟨b, off + k * 2, none⟩ : Addr) = some ad ∧ ∀ j u, (fcs (l.drop k))[j]? = some u → V.cell? (ad.add j) = some u := by
  obtain ⟨b', off', he, _, _, hd⟩ := flv_news h hb k hk
  injection he with he
  injection he with h1 h2 _
  subst h1 h2
  exact ⟨_, rfl, hd⟩
theorem add_end {w W : World} {f : FF} {g n cap k : Nat} {l : List FF} (hk : k ≤ l.length) (hn : n = k + 1 + (l.length - k)) (hres : insF l f = (l.take k ++ f :: l.drop k, true)) (hst : St w f W)
    (hown : W.ownsRow (w.heap.size + 1) 45 2 (.slice (some ⟨g, 0, none⟩) n cap) n (fcs (l.take k ++ f :: l.drop k))) :
    AddPost l f w (.returned (.tuple #[.slice (some ⟨g, 0, none⟩) n cap, .bool true])) W := by
  refine ⟨⟨_, by rw [hres], fun _ => ?_⟩, hst.1⟩
  rw [hres]
  have hlen : (l.take k ++ f :: l.drop k).length = n := by
    rw [List.length_append, List.length_take, List.length_cons, List.length_drop]; omega
  rw [← hlen] at hown ⊢
  exact flv_own hown

set_option maxHeartbeats 4000000 in
theorem add_any (l : List FF) (f : FF) (v : Value) (w : World) (hv : FLv w v l) (hlen : l.length ≤ 100000) :
    Calls Tryz.prog 74 #[v, .agg #[.string f.1, .string f.2]] w (AddPost l f w) := by
  have HV := Lib.hid hv
  obtain ⟨A, c, rfl, hc1, hc2, hcell⟩ := hv
  have HCELL := Lib.hid hcell
  have hB0 := (Below.refl w.heap.size w).alloc (Nat.le_refl _) (.cells #[.string f.1, .string f.2] 45)
  have HB0 := Lib.hid hB0
  have hbx := heap_alloc_new w (.cells #[.string f.1, .string f.2] 45)
  have HBX := Lib.hid hbx
  clear hcell hB0 hbx
  go_enter Tryz.func74, Tryz.ntmps74
  go_wp2_with fail
  generalize (w.alloc (.cells #[.string f.1, .string f.2] 45)) = W at HB0 HBX ⊢
  go_loopw [6] (fun y wr => ∃ k q : Nat, y = .int .i64 k ∧ k ≤ l.length ∧ (∀ j g, j < k → l[j]? = some g → bcmp g.1 f.1 = -1) ∧ wr = W.drewN q) (fun y _ => l.length - (intOf y).toNat)
  case atStart => exact ⟨0, 0, rfl, Nat.zero_le _, fun j g h => absurd h (by omega), rfl⟩
  case round =>
    obtain ⟨k, q, rfl, hk, hless, rfl⟩ := hrel
    have HLESS := Lib.hid hless
    obtain ⟨⟨f0, f1⟩, _⟩ := blk2 HBX.out
    clear hless
    by_cases hlt : k < l.length
    · obtain ⟨g, hg⟩ : ∃ g, l[k]? = some g := ⟨l[k]'hlt, List.getElem?_eq_getElem _⟩
      obtain ⟨b, off, rfl, hb, hc⟩ := HCELL.out (by omega)
      obtain ⟨g0, g1⟩ := hc k g hg
      replace g0 := (HB0.out.cell (p := ⟨b, _, none⟩) hb).trans g0
      replace g1 := (HB0.out.cell (p := ⟨b, _, none⟩) hb).trans g1
      have HG := Lib.hid hg
      have hI : decide ((k : Int) < (l.length : Int)) = true := decide_eq_true (by omega)
      have hI2 : (k : Int) < (l.length : Int) := by omega
      clear hc hg
      by_cases hl : bcmp g.1 f.1 = -1
      · have hlb := less_true hl
        have HL := Lib.hid hl
        clear hl
        go_wp2_with fail
        go_quiet (fail)
        go_wp2
        go_roundw
        case rel =>
          refine ⟨k + 1, q + nq, by go_num, by omega, fun j x hj hx => ?_, rfl⟩
          by_cases hjk : j = k
          · rw [hjk, HG.out] at hx
            injection hx with hx
            rw [← hx]; exact HL.out
          · exact HLESS.out j x (by omega) hx
        case measure => simp [intOf]; omega
      · have hlb := less_false hl
        have HL := Lib.hid hl
        have HAT := Lib.hid (insF_at k l f (by omega) HLESS.out)
        have hd : l.drop k = g :: l.drop (k + 1) := by
          obtain ⟨h1, e1⟩ := List.getElem?_eq_some_iff.1 HG.out
          rw [List.drop_eq_getElem_cons h1, e1]
        have HD := Lib.hid hd
        clear hl hd
        by_cases he : g.1 = f.1
        · have heb := str_eq_true he
          have HE := Lib.hid he
          have hte : (g.2.toList == f.2.toList) = decide (g.2 = f.2) := by
            by_cases h : g.2 = f.2
            · rw [str_eq_true h, decide_eq_true h]
            · rw [str_eq_false h, decide_eq_false h]
          clear he
          have hres : insF l f = (l, decide (g.2 = f.2)) := by
            have h1 := HAT.out
            rw [HD.out, insF, if_neg HL.out, if_pos HE.out] at h1
            refine Prod.ext ?_ h1.2
            rw [h1.1, ← HD.out, List.take_append_drop]
          have HRES := Lib.hid hres
          clear hres
          go_wp2_with fail
          go_quiet (fail)
          go_wp2
          go_quiet (fail)
          go_wp2
          go_quiet (fail)
          go_wp2
          go_ret2
          exact ⟨⟨.slice (some ⟨b, off, none⟩) l.length c, by rw [HRES.out]; rfl, fun _ => by rw [HRES.out]; exact HV.out.below (below_drewN (below_drewN (below_drewN (below_drewN HB0.out _) _) _) _)⟩, below_drewN (below_drewN (below_drewN (below_drewN HB0.out _) _) _) _⟩
        · have heb := str_eq_false he
          have HE := Lib.hid he
          clear he
          go_wp2_with fail
          go_quiet (fail)
          go_wp2
          go_quiet (fail)
          go_wp2
          have hkc : k ≤ c := by omega
          have hck : ¬ c = k := by omega
          clear g0 g1
          generalize hW : W.drewN _ = W6 at ⊢
          have hst6 : St w f W6 := by rw [← hW]; exact (St.drewN ⟨HB0.out, HBX.out⟩ _)
          have HST := Lib.hid hst6
          clear hW f0 f1
          obtain ⟨⟨f0, f1⟩, _⟩ := blk2 hst6.2
          have hlt6 := hst6.lt
          have hres : insF l f = (l.take k ++ f :: l.drop k, true) := by
            have h1 := HAT.out
            rw [HD.out, insF, if_neg HL.out, if_neg HE.out] at h1
            rw [HD.out]
            exact Prod.ext h1.1 h1.2
          have HA := Lib.hid hres
          have H1 : Hid ((l.take k ++ [f]).length = k + 1) := Lib.hid (by rw [List.length_append, List.length_take, List.length_singleton]; omega)
          have H2 : Hid ((l.drop k).length = l.length - k) := Lib.hid List.length_drop
          have H5 : Hid (k + 1 + (l.length - k) ≤ 200001) := Lib.hid (by omega)
          clear hres
          have fa0 : ∀ n o, ((W6.drewN n).alloc o).cell? ⟨w.heap.size, 0, none⟩ = some (.string f.1) := fun n o => (blk2 ((hst6.drewN n).alloc o).2).1.1
          have fa1 : ∀ n o, ((W6.drewN n).alloc o).cell? ⟨w.heap.size, 1, none⟩ = some (.string f.2) := fun n o => (blk2 ((hst6.drewN n).alloc o).2).1.2
          clear hst6
          go_region_law (
            first
            | (refine step_first rfl (.tmp 47) (.tmp 50) rfl w f ?_ W6.heap.size ?_ ?_ ?_ l (some ⟨b, off, none⟩) c c k HV.out hk ?_ hlen ?_
               · first | exact (HST.out.drewN _).alloc _ | exact ((HST.out.drewN _).alloc _).alloc _
               · rfl
               · first | exact heap_alloc_new _ _ | exact heap_alloc2_old _ _ _ | exact heap_alloc2_new _ _ _
               · exact hlt6
               · rfl
               intro g1 cap1 W7 hgr HST2 hg1 hg1lt hcap1 HOWN
               obtain ⟨⟨f2, f3⟩, _⟩ := blk2 HST2.out.2
               have hlt7 := HST2.out.lt)
            | (refine step_first rfl (.tmp 47) (.tmp 50) rfl w f ?_ (W6.heap.size + 1) ?_ ?_ ?_ l (some ⟨b, off, none⟩) c c k HV.out hk ?_ hlen ?_
               · first | exact (HST.out.drewN _).alloc _ | exact ((HST.out.drewN _).alloc _).alloc _
               · rfl
               · first | exact heap_alloc_new _ _ | exact heap_alloc2_old _ _ _ | exact heap_alloc2_new _ _ _
               · omega
               · rfl
               intro g1 cap1 W7 hgr HST2 hg1 hg1lt hcap1 HOWN
               obtain ⟨⟨f2, f3⟩, _⟩ := blk2 HST2.out.2
               have hlt7 := HST2.out.lt)
            | (refine step_append_fs rfl (.tmp 51) (.tmp 53) rfl w f ?_ g1 k cap1 (l.take k) ?_ ?_ hcap1 ?_ hg1 ?_ (some ⟨W7.heap.size, 0, none⟩) 1 1 [f] rfl ?_ ?_ (by omega) ?_
               · exact HST2.out.alloc _
               · rw [List.length_take]; omega
               · rfl
               · exact HOWN.out.alloc _
               · rw [World.size_alloc]; omega
               · rfl
               · intro _
                 refine ⟨_, rfl, World.news_of_block (t := 45) (fr := (0, 0)) ?_⟩
                 exact heap_alloc_new _ _
               intro g2 cap2 W8 hgr2 HST3 hg2 hg2lt hcap2 HOWN2
               clear hgr2)
            | (refine step_append_fs rfl (.tmp 51) (.tmp 53) rfl w f ?_ g1 k cap1 (l.take k) ?_ ?_ hcap1 ?_ hg1 ?_ (some ⟨W6.heap.size, 0, none⟩) 1 1 [f] rfl ?_ ?_ (by omega) ?_
               · exact HST2.out
               · rw [List.length_take]; omega
               · rfl
               · exact HOWN.out
               · exact hg1lt
               · rfl
               · intro _
                 refine ⟨_, rfl, World.news_of_block (t := 45) (fr := (0, 0)) ?_⟩
                 refine (hgr.block _ (by first | (simp; done) | (simp; omega)) (by first | (simp; done) | (simp; omega))).trans ?_; exact heap_alloc2_old _ _ _
               intro g2 cap2 W8 hgr2 HST3 hg2 hg2lt hcap2 HOWN2
               clear hgr2)
            | (refine step_append_fs rfl (.tmp 51) (.tmp 53) rfl w f ?_ g1 k cap1 (l.take k) ?_ ?_ hcap1 ?_ hg1 ?_ (some ⟨(W6.heap.size + 1), 0, none⟩) 1 1 [f] rfl ?_ ?_ (by omega) ?_
               · exact HST2.out
               · rw [List.length_take]; omega
               · rfl
               · exact HOWN.out
               · exact hg1lt
               · rfl
               · intro _
                 refine ⟨_, rfl, World.news_of_block (t := 45) (fr := (0, 0)) ?_⟩
                 refine (hgr.block _ (by first | (simp; done) | (simp; omega)) (by first | (simp; done) | (simp; omega))).trans ?_; exact heap_alloc2_new _ _ _
               intro g2 cap2 W8 hgr2 HST3 hg2 hg2lt hcap2 HOWN2
               clear hgr2)
            )
          all_goals
            clear fa0 fa1
            go_wp2_with (at_builtin; go_loud (refine wpList_append_fs rfl (.tmp 55) (.tmp 58) rfl w f HST3.out g2 (k + 1) cap2 (l.take k ++ [f]) H1.out rfl hcap2 HOWN2.out hg2 hg2lt _ (l.length - k) _ (l.drop k) H2.out rfl (fun _ => drop_news HV.out HST3.out.1 hlt) H5.out ?_))
            all_goals
              intro g3 cap3 W9 hgr3 HST4 hg3 hg3lt hcap3 HOWN3
              clear hgr3
              go_wp2
              go_ret2
              exact add_end hk rfl HA.out HST4.out HOWN3.out
    · have hI : decide ((k : Int) < (l.length : Int)) = false := decide_eq_false (by omega)
      go_wp2_with fail
      go_quiet (fail)
      go_wp2
      go_quiet (fail)
      go_wp2
      have hkc : k ≤ c := by omega
      generalize hW : W.drewN _ = W6 at ⊢
      have hst6 : St w f W6 := by rw [← hW]; exact (St.drewN ⟨HB0.out, HBX.out⟩ _)
      have HST := Lib.hid hst6
      clear hW f0 f1
      obtain ⟨⟨f0, f1⟩, _⟩ := blk2 hst6.2
      have hlt6 := hst6.lt
      have hres : insF l f = (l.take k ++ f :: l.drop k, true) := by
        have hd : l.drop k = [] := List.drop_eq_nil_of_le (by omega)
        have h1 := insF_at k l f hk HLESS.out
        rw [hd, insF] at h1
        rw [hd]
        exact Prod.ext h1.1 h1.2
      have HA := Lib.hid hres
      have H1 : Hid ((l.take k ++ [f]).length = k + 1) := Lib.hid (by rw [List.length_append, List.length_take, List.length_singleton]; omega)
      have H2 : Hid ((l.drop k).length = l.length - k) := Lib.hid List.length_drop
      have HZ : Hid (¬ 0 < l.length - k) := Lib.hid (by omega)
      have H5 : Hid (k + 1 + (l.length - k) ≤ 200001) := Lib.hid (by omega)
      clear hres
      have fa0 : ∀ n o, ((W6.drewN n).alloc o).cell? ⟨w.heap.size, 0, none⟩ = some (.string f.1) := fun n o => (blk2 ((hst6.drewN n).alloc o).2).1.1
      have fa1 : ∀ n o, ((W6.drewN n).alloc o).cell? ⟨w.heap.size, 1, none⟩ = some (.string f.2) := fun n o => (blk2 ((hst6.drewN n).alloc o).2).1.2
      clear hst6
      go_region_law (
        first
        | (refine step_first rfl (.tmp 47) (.tmp 50) rfl w f ?_ W6.heap.size ?_ ?_ ?_ l A c c k HV.out hk ?_ hlen ?_
           · first | exact (HST.out.drewN _).alloc _ | exact ((HST.out.drewN _).alloc _).alloc _
           · rfl
           · first | exact heap_alloc_new _ _ | exact heap_alloc2_old _ _ _ | exact heap_alloc2_new _ _ _
           · exact hlt6
           · rfl
           intro g1 cap1 W7 hgr HST2 hg1 hg1lt hcap1 HOWN
           obtain ⟨⟨f2, f3⟩, _⟩ := blk2 HST2.out.2
           have hlt7 := HST2.out.lt)
        | (refine step_first rfl (.tmp 47) (.tmp 50) rfl w f ?_ (W6.heap.size + 1) ?_ ?_ ?_ l A c c k HV.out hk ?_ hlen ?_
           · first | exact (HST.out.drewN _).alloc _ | exact ((HST.out.drewN _).alloc _).alloc _
           · rfl
           · first | exact heap_alloc_new _ _ | exact heap_alloc2_old _ _ _ | exact heap_alloc2_new _ _ _
           · omega
           · rfl
           intro g1 cap1 W7 hgr HST2 hg1 hg1lt hcap1 HOWN
           obtain ⟨⟨f2, f3⟩, _⟩ := blk2 HST2.out.2
           have hlt7 := HST2.out.lt)
        | (refine step_append_fs rfl (.tmp 51) (.tmp 53) rfl w f ?_ g1 k cap1 (l.take k) ?_ ?_ hcap1 ?_ hg1 ?_ (some ⟨W7.heap.size, 0, none⟩) 1 1 [f] rfl ?_ ?_ (by omega) ?_
           · exact HST2.out.alloc _
           · rw [List.length_take]; omega
           · rfl
           · exact HOWN.out.alloc _
           · rw [World.size_alloc]; omega
           · rfl
           · intro _
             refine ⟨_, rfl, World.news_of_block (t := 45) (fr := (0, 0)) ?_⟩
             exact heap_alloc_new _ _
           intro g2 cap2 W8 hgr2 HST3 hg2 hg2lt hcap2 HOWN2
           clear hgr2)
        | (refine step_append_fs rfl (.tmp 51) (.tmp 53) rfl w f ?_ g1 k cap1 (l.take k) ?_ ?_ hcap1 ?_ hg1 ?_ (some ⟨W6.heap.size, 0, none⟩) 1 1 [f] rfl ?_ ?_ (by omega) ?_
           · exact HST2.out
           · rw [List.length_take]; omega
           · rfl
           · exact HOWN.out
           · exact hg1lt
           · rfl
           · intro _
             refine ⟨_, rfl, World.news_of_block (t := 45) (fr := (0, 0)) ?_⟩
             refine (hgr.block _ (by first | (simp; done) | (simp; omega)) (by first | (simp; done) | (simp; omega))).trans ?_; exact heap_alloc2_old _ _ _
           intro g2 cap2 W8 hgr2 HST3 hg2 hg2lt hcap2 HOWN2
           clear hgr2)
        | (refine step_append_fs rfl (.tmp 51) (.tmp 53) rfl w f ?_ g1 k cap1 (l.take k) ?_ ?_ hcap1 ?_ hg1 ?_ (some ⟨(W6.heap.size + 1), 0, none⟩) 1 1 [f] rfl ?_ ?_ (by omega) ?_
           · exact HST2.out
           · rw [List.length_take]; omega
           · rfl
           · exact HOWN.out
           · exact hg1lt
           · rfl
           · intro _
             refine ⟨_, rfl, World.news_of_block (t := 45) (fr := (0, 0)) ?_⟩
             refine (hgr.block _ (by first | (simp; done) | (simp; omega)) (by first | (simp; done) | (simp; omega))).trans ?_; exact heap_alloc2_new _ _ _
           intro g2 cap2 W8 hgr2 HST3 hg2 hg2lt hcap2 HOWN2
           clear hgr2)
        )
      all_goals
        clear fa0 fa1
        go_wp2_with (at_builtin; go_loud (refine wpList_append_fs rfl (.tmp 55) (.tmp 58) rfl w f HST3.out g2 (k + 1) cap2 (l.take k ++ [f]) H1.out rfl hcap2 HOWN2.out hg2 hg2lt _ (l.length - k) _ (l.drop k) H2.out rfl (fun h => absurd h HZ.out) H5.out ?_))
        all_goals
          intro g3 cap3 W9 hgr3 HST4 hg3 hg3lt hcap3 HOWN3
          clear hgr3
          go_wp2
          go_ret2
          exact add_end hk rfl HA.out HST4.out HOWN3.out
end Go.Proofs.YthbcfcbonmphfaaGreatDoor
