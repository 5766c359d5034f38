/- An index of versions in memory: enter, New. -/
import Derived.BigRegion
import Derived.Deep.RegionLaw
import Derived.Test.YthnlcbeibhhjpaaVtF
namespace Go.Proofs.Ythnlcbeibhhjpaa
open Go.RowKit
set_option maxRecDepth 100000
theorem Try.infoVer : (Try.prog.info? 69).map (fun i => (i.zero, i.size, i.bytes)) = some (some (.agg #[.int .i64 0, .int .i64 0, .int .i64 0]), 3, 24) := by kernel_rfl
def vsC (Vs : List Vn) : List Value := Vs.flatMap fun v => [.int .i64 v.1, .int .i64 v.2.1, .int .i64 v.2.2]
theorem vsC_snoc (Vs : List Vn) (v : Vn) : vsC (Vs ++ [v]) = vsC Vs ++ [.int .i64 v.1, .int .i64 v.2.1, .int .i64 v.2.2] := by simp [vsC]
theorem vsC_at : ∀ (Vs : List Vn) (i : Nat) (v : Vn), Vs[i]? = some v → (vsC Vs)[i * 3]? = some (.int .i64 v.1) ∧ (vsC Vs)[i * 3 + 1]? = some (.int .i64 v.2.1) ∧ (vsC Vs)[i * 3 + 2]? = some (.int .i64 v.2.2)
  | [], i, v, h => by simp at h
  | u :: Vs, 0, v, h => by
    have : u = v := by simpa using h
    subst this
    exact ⟨rfl, rfl, rfl⟩
  | u :: Vs, i + 1, v, h => by
    obtain ⟨h1, h2, h3⟩ := vsC_at Vs i v (by simpa using h)
    have e : vsC (u :: Vs) = .int .i64 u.1 :: .int .i64 u.2.1 :: .int .i64 u.2.2 :: vsC Vs := rfl
    refine ⟨?_, ?_, ?_⟩
    · rw [e, show (i + 1) * 3 = i * 3 + 1 + 1 + 1 by omega]; simpa using h1
    · rw [e, show (i + 1) * 3 + 1 = i * 3 + 1 + 1 + 1 + 1 by omega]; simpa using h2
    · rw [e, show (i + 1) * 3 + 2 = i * 3 + 2 + 1 + 1 + 1 by omega]; simpa using h3
/-- An index in memory: its box, its table, its tour. -/
structure IxR (B x tl : Nat) (G : Option Addr) (cap nv k : Nat) (mv : Int) (E : List El) (Vs : List Vn) (W : World) : Prop where
  box : W.heap[x]? = some (.cells #[.slice G nv cap, .pointer (some ⟨tl, 0, none⟩)] 67 (0, 0))
  row : W.ownsRow B 69 3 (.slice G nv cap) nv (vsC Vs)
  tour : OSt B tl k mv E W
  hB : B ≤ x
/-- Every block of another type than those of an index is as it was. -/
def Kv (w w' : World) : Prop := ∀ (b : Nat) (cs : Array Value) (t : TypeId) (fr : Nat × Nat), w.heap[b]? = some (.cells cs t fr) → t ∉ [80, 84, 78] → t ≠ 67 → t ≠ 69 → w'.heap[b]? = some (.cells cs t fr)
theorem Kv.refl (w : World) : Kv w w := fun _ _ _ _ h _ _ _ => h
theorem Kv.trans {w w' w'' : World} (h : Kv w w') (h' : Kv w' w'') : Kv w w'' := fun b cs t fr hb h1 h2 h3 => h' b cs t fr (h b cs t fr hb h1 h2 h3) h1 h2 h3
theorem Kv.kp {w w' w'' : World} (h : Kv w w') (h' : Kp w' w'') : Kv w w'' := fun b cs t fr hb h1 h2 h3 => h' b cs t fr (h b cs t fr hb h1 h2 h3) h1
theorem Kv.alloc {w w' : World} (h : Kv w w') (o : Obj) : Kv w (w'.alloc o) := fun b cs t fr hb h1 h2 h3 => bdOld (h b cs t fr hb h1 h2 h3)
theorem Kv.drewN {w w' : World} (h : Kv w w') (n : Nat) : Kv w (w'.drewN n) := fun b cs t fr hb h1 h2 h3 => h b cs t fr hb h1 h2 h3
theorem Kv.below {w w' w'' : World} (h : Kv w w') (hb : Below w'.heap.size w' w'') : Kv w w'' := fun b cs t fr hx h1 h2 h3 => bdAt (h b cs t fr hx h1 h2 h3) hb
theorem ownsRow_kp {B n : Nat} {e : TypeId} {size : Nat} {v : Value} {xs : List Value} {w w' : World} (h : w.ownsRow B e size v n xs) (he : e ∉ [80, 84, 78]) (hk : Kp w w') : w'.ownsRow B e size v n xs := by
  refine ⟨h.1, ?_⟩
  rcases h.2 with hn | ⟨g, cp, cur, hv, h1, hgg, rest⟩
  · exact .inl hn
  · exact .inr ⟨g, cp, cur, hv, h1, hk g _ _ _ hgg he, rest⟩
theorem IxR.below {B x tl : Nat} {G : Option Addr} {cap nv k : Nat} {mv : Int} {E : List El} {Vs : List Vn} {W W' : World} (h : IxR B x tl G cap nv k mv E Vs W) (hb : Below W.heap.size W W') : IxR B x tl G cap nv k mv E Vs W' :=
  ⟨bdAt h.box hb, ownsRow_heap h.row fun b hx => hb.block b (h.row.lt b hx).2, h.tour.below hb, h.hB⟩
theorem IxR.drewN {B x tl : Nat} {G : Option Addr} {cap nv k : Nat} {mv : Int} {E : List El} {Vs : List Vn} {W : World} (h : IxR B x tl G cap nv k mv E Vs W) (n : Nat) : IxR B x tl G cap nv k mv E Vs (W.drewN n) := ⟨h.box, h.row, h.tour.drewN n, h.hB⟩
/-- An order list is kept where all blocks of its types are. -/
theorem OSt.typed {B x made : Nat} {mv : Int} {E : List El} {W W' : World} (h : OSt B x made mv E W) (hk : ∀ (b : Nat) (cs : Array Value) (t : TypeId), W.heap[b]? = some (.cells cs t (0, 0)) → t ∈ [80, 84, 78] → W'.heap[b]? = some (.cells cs t (0, 0))) : OSt B x made mv E W' := by
  obtain ⟨⟨G, cap, h1⟩, h2, h3, h4, h5⟩ := h
  refine ⟨⟨G, cap, ⟨hk _ _ _ h1.box (by decide), ⟨h1.row.1, ?_⟩, ⟨fun j e hj => hk _ _ _ (h1.chain.el j e hj) (by decide), h1.chain.nums⟩, h1.low⟩⟩, h2, h3, h4, h5⟩
  rcases h1.row.2 with hn | ⟨g, cp, cur, hv, hb, hh, rest⟩
  · exact Or.inl hn
  · exact Or.inr ⟨g, cp, cur, hv, hb, hk _ _ _ hh (by decide), rest⟩
/-- A block of another type is not that of a row. -/
theorem row_not {B n : Nat} {e : TypeId} {size : Nat} {v : Value} {xs : List Value} {w : World} (h : w.ownsRow B e size v n xs) {b : Nat} {cs : Array Value} {t : TypeId} {fr : Nat × Nat} (hb : w.heap[b]? = some (.cells cs t fr)) (ht : t ≠ e) : some b ≠ v.ownBlock := fun hv => by
  rcases h.2 with ⟨hv', _⟩ | ⟨g, cp, cur, hv', _, hh, _⟩
  · rw [hv'] at hv; cases hv
  · rw [hv'] at hv
    have hg : b = g := by simpa [Value.ownBlock] using hv
    rw [hg, hh] at hb
    have := Option.some.inj hb
    injection this with _ h3
    exact ht h3.symm
/-- What enter leaves. -/
def EntQ (B x tl nv kk : Nat) (E : List El) (Vs : List Vn) (v : Vn) (w : World) (er : Ending) (w' : World) : Prop :=
  er = .returned (.tuple #[]) ∧ (∃ G' cap' mv' E', IxR B x tl G' cap' (nv + 1) (2 * nv + 2) mv' E' (Vs ++ [v]) w' ∧ ords E' = insE (insE (ords E) kk ((2 * nv : Nat) : Int)) (kk + 1) ((2 * nv + 1 : Nat) : Int)) ∧ Below B w w' ∧ Kv w w'
theorem ords_insert (E : List El) (k n : Nat) (l : Int) (a : Nat) : ords (insE (sprE E k) k ⟨n, l, a⟩) = insE (ords E) k (n : Int) := by
  have h := sprE_num E k
  unfold ords
  rw [insE_map, show (fun e : El => (e.num : Int)) = (fun n : Nat => (n : Int)) ∘ El.num from rfl, ← List.map_map, ← List.map_map, h]
set_option maxHeartbeats 16000000 in
theorem enter_any (B x tl cap nv kk : Nat) (G : Option Addr) (mv : Int) (E : List El) (Vs : List Vn) (v : Vn) (aft : Int) (w : World) (h : IxR B x tl G cap nv (2 * nv) mv E Vs w) (hl : Vs.length = nv) (hn : nv ≤ 900) (hk : PosK E aft kk) :
    Calls Try.prog 43 #[.pointer (some ⟨x, 0, none⟩), .agg #[.int .i64 v.1, .int .i64 v.2.1, .int .i64 v.2.2], .int .i64 aft] w (EntQ B x tl nv kk E Vs v w) := by
  obtain ⟨a, b, c⟩ := v
  dsimp only
  have hb0 : Below w.heap.size w (w.alloc (.cells #[.int .i64 a, .int .i64 b, .int .i64 c] 69)) := (Below.refl _ _).alloc (Nat.le_refl _) _
  have H0 := Lib.hid (h.below hb0)
  have HI1 := Lib.hid (ol_insert_yes B tl (2 * nv) kk mv E aft _ (h.tour.below hb0) (by omega) hk)
  have hkl := hk.le
  have HBx := Lib.hid h.hB
  have hxl : x < w.heap.size := bdLt h.box
  have hBx := h.hB
  obtain ⟨⟨b0, b1⟩, _, _⟩ := bk2 (h.below hb0).box
  obtain ⟨i1, hi1, hy0, hy1, hy2⟩ := info_parts Try.infoVer
  clear h hb0
  go_enter Try.func43, Try.ntmps43
  go_wp2_with fail
  refine HI1.out.mono ?_
  rintro er w1 ⟨rfl, ⟨a1, ho1⟩, hb1, hk1⟩
  have hx1 := hk1 _ _ _ _ H0.out.box (by decide)
  have hv1 := hk1 _ _ _ _ (bdNew w (.cells #[.int .i64 a, .int .i64 b, .int .i64 c] 69)) (by decide)
  have HR1 := Lib.hid (ownsRow_kp H0.out.row (by decide) hk1)
  have HB1 := Lib.hid hb1
  have HK1 := Lib.hid hk1
  have hkl1 : kk ≤ (sprE E kk).length := by rw [sprE_len]; exact hkl
  have hpk2 : PosK (insE (sprE E kk) kk ⟨2 * nv, newL (sprE E kk) kk, a1⟩) ((2 * nv : Nat) : Int) (kk + 1) := Or.inr ⟨kk, ⟨2 * nv, newL (sprE E kk) kk, a1⟩, by rw [insE_get _ _ hkl1, if_neg (by omega), if_pos rfl], rfl, rfl⟩
  have HI2 := Lib.hid (ol_insert_yes B tl (2 * nv + 1) (kk + 1) _ _ ((2 * nv : Nat) : Int) w1 ho1 (by omega) hpk2)
  have HX1 := Lib.hid hx1
  have HV1 := Lib.hid hv1
  clear b0 b1 hpk2 hb1 hk1 ho1 HI1
  obtain ⟨⟨b0, b1⟩, _, _⟩ := bk2 hx1
  clear hx1 hv1
  go_wp2_with fail
  refine HI2.out.mono ?_
  rintro er w2 ⟨rfl, ⟨a2, ho2⟩, hb2, hk2⟩
  have hx2 := hk2 _ _ _ _ HX1.out (by decide)
  have hv2 := hk2 _ _ _ _ HV1.out (by decide)
  have HR2 := Lib.hid (ownsRow_kp HR1.out (by decide) hk2)
  have HO2 := Lib.hid ho2
  have HB2 : Hid (Below B w w2) := Lib.hid ((((Below.refl _ _).alloc (by omega) _).trans HB1.out).trans hb2)
  have HK2 : Hid (Kv w w2) := Lib.hid ((((Kv.refl w).alloc _).kp HK1.out).kp hk2)
  have HOE : Hid (ords (insE (sprE (insE (sprE E kk) kk ⟨2 * nv, newL (sprE E kk) kk, a1⟩) (kk + 1)) (kk + 1) ⟨2 * nv + 1, newL (sprE (insE (sprE E kk) kk ⟨2 * nv, newL (sprE E kk) kk, a1⟩) (kk + 1)) (kk + 1), a2⟩) = insE (insE (ords E) kk ((2 * nv : Nat) : Int)) (kk + 1) ((2 * nv + 1 : Nat) : Int)) := Lib.hid (by rw [ords_insert, ords_insert])
  generalize insE (sprE (insE (sprE E kk) kk ⟨2 * nv, newL (sprE E kk) kk, a1⟩) (kk + 1)) (kk + 1) ⟨2 * nv + 1, newL (sprE (insE (sprE E kk) kk ⟨2 * nv, newL (sprE E kk) kk, a1⟩) (kk + 1)) (kk + 1), a2⟩ = E2 at HO2 HOE
  generalize sprM (sprM mv E kk) (insE (sprE E kk) kk ⟨2 * nv, newL (sprE E kk) kk, a1⟩) (kk + 1) = mv2 at HO2
  have hz2 := HB2.out.size
  have HX2 := Lib.hid hx2
  have hxl2 := bdLt hx2
  have hvl2 := bdLt hv2
  clear b0 b1 ho2 hb2 hk2 HI2
  obtain ⟨⟨b0, b1⟩, q0, q1⟩ := bk2 hx2
  obtain ⟨⟨v0, v1, v2⟩, _, _, _⟩ := bk3 hv2
  have own : ∀ g, (Value.slice G nv cap).ownBlock = some g → g ≠ x := fun g e he => by
    obtain ⟨cs, hc⟩ : ∃ cs, w2.heap[g]? = some (.cells cs 69 (0, 0)) := by
      rcases HR2.out.2 with ⟨hv, _⟩ | ⟨g', cp, cur, hv, _, hh, _⟩
      · rw [hv] at e; cases e
      · rw [hv] at e
        have : g' = g := by simpa [Value.ownBlock] using e
        exact ⟨cur, this ▸ hh⟩
    rw [he, hx2] at hc
    have := Option.some.inj hc
    injection this with _ h3
    exact absurd h3 (by decide)
  have HKeep := Lib.hid (fun (W W' : World) (hg : W.grownBy W' (Value.slice G nv cap).ownBlock) (hW : W.heap[x]? = w2.heap[x]?) (hs : w2.heap.size ≤ W.heap.size) =>
    (show W'.cell? ⟨x, 0, none⟩ = some (.slice G nv cap) ∧ W'.frozen? ⟨x, 0, none⟩ = false from by
      have h1 : W'.heap[x]? = w2.heap[x]? := (hg.block _ (by omega) (fun e => own x e.symm rfl)).trans hW
      exact ⟨(World.cell?_of_block h1).trans (bk2 HX2.out).1.1, by rw [← (bk2 HX2.out).2.1]; unfold World.frozen?; simp only [h1]⟩))
  have a0 : (w2.alloc (.cells #[.int .i64 a, .int .i64 b, .int .i64 c] 69)).drew.cell? ⟨x, 0, none⟩ = some (.slice G nv cap) := (World.cell?_of_block (show (w2.alloc (.cells #[.int .i64 a, .int .i64 b, .int .i64 c] 69)).drew.heap[x]? = w2.heap[x]? from Below.heap_alloc _ _ _ hxl2)).trans b0
  have OWN := Lib.hid own
  clear hx2 hv2 own
  go_wp2_with fail
  go_region_law (refine step_append_lies _ (by rfl) (.tmp 27) (.tmp 29) 64 (by rfl) B 69 i1 _ 3 24 Try.underlying64 hi1 hy0 hy1 hy2 rfl (by decide) (.slice G nv cap) nv (vsC Vs) (by rfl) (HR2.out.alloc _) ⟨w2.heap.size, 0, none⟩ 1 1 [.int .i64 a, .int .i64 b, .int .i64 c] (by rfl) rfl (World.news_of_block (cs := #[.int .i64 a, .int .i64 b, .int .i64 c]) (t := 69) (fr := (0, 0)) (heap_alloc_new w2 (.cells #[.int .i64 a, .int .i64 b, .int .i64 c] 69))) (by simp [Value.oneCell']) (by decide) (by unfold maxLen; omega) (by omega) (by simp; omega) (w2.heap.size + 1) (by simp) ?_; intro g5 cap5 w5 ho5 hg5 hat5 hlt5; obtain ⟨q0', qf0'⟩ := HKeep.out _ _ hg5 (Below.heap_alloc _ _ _ hxl2) (by simp))
  all_goals
    have hs5 := hg5.size
    simp at hs5
    have hfar : ∀ (b' : Nat) (cs : Array Value) (t : TypeId) (fr : Nat × Nat), w2.heap[b']? = some (.cells cs t fr) → t ≠ 69 → w5.heap[b']? = some (.cells cs t fr) := fun b' cs t fr hb ht => by
      rw [hg5.block b' (by have := bdLt hb; simp; omega) (row_not HR2.out hb ht)]
      exact bdOld hb
    have hx5 := hfar _ _ _ _ HX2.out (by decide)
    have hnx : ∀ (b' : Nat) (cs : Array Value) (t : TypeId) (fr : Nat × Nat), w2.heap[b']? = some (.cells cs t fr) → t ≠ 67 → b' ≠ x := fun b' cs t fr hb ht e => by
      rw [e, HX2.out] at hb
      have := Option.some.inj hb
      injection this with _ h3
      exact ht h3.symm
    have hfin : IxR B x tl (some ⟨g5, 0, none⟩) cap5 (nv + 1) (2 * nv + 2) mv2 E2 (Vs ++ [(a, b, c)]) (w5.setCell ⟨x, 0, none⟩ (.slice (some ⟨g5, 0, none⟩) (nv + 1) cap5)) := by
      refine ⟨?_, ?_, ?_, HBx.out⟩
      · rw [heap_set w5 x 0 _ hx5]; rfl
      · rw [vsC_snoc]
        refine ownsRow_heap ho5 fun b' hb' => heap_off fun e => ?_
        exact row_not ho5 hx5 (by decide) (e ▸ hb').symm
      · refine OSt.typed HO2.out fun b' cs t hb ht => ?_
        rw [heap_off (hnx b' cs t _ hb (fun e => by rw [e] at ht; exact absurd ht (by decide)))]
        exact hfar b' cs t _ hb (fun e => by rw [e] at ht; exact absurd ht (by decide))
    have hbel : Below B w (w5.setCell ⟨x, 0, none⟩ (.slice (some ⟨g5, 0, none⟩) (nv + 1) cap5)) :=
      (((HB2.out.alloc (by omega) (.cells #[.int .i64 a, .int .i64 b, .int .i64 c] 69)).drew).grown hg5 (by simp; omega) (fun i e => (HR2.out.lt i e).1)).setCell (p := ⟨x, 0, none⟩) HBx.out _
    have hkv : Kv w (w5.setCell ⟨x, 0, none⟩ (.slice (some ⟨g5, 0, none⟩) (nv + 1) cap5)) := fun b' cs t fr hb h1 h2 h3 => by
      have h4 := HK2.out b' cs t fr hb h1 h2 h3
      rw [heap_off (hnx b' cs t fr h4 h2)]
      exact hfar b' cs t fr h4 h3
    have HFIN := Lib.hid hfin
    have HBEL := Lib.hid hbel
    have HKV := Lib.hid hkv
    clear hfin hbel hkv hfar hnx ho5 hg5
    go_end0
    exact ⟨rfl, ⟨_, _, _, E2, HFIN.out, HOE.out⟩, HBEL.out, HKV.out⟩
end Go.Proofs.Ythnlcbeibhhjpaa
