/- The reference's At, Put, Replace. -/
import Derived.Deep.AppendLies
import Derived.Deep.QuietTactic
import Derived.Deep.RegionHeld3
import Derived.BigQuiet
import Derived.StillTailTactics
import Derived.IntWalk
import Derived.Test.YthbcfcbonmphfaaDoorTermRepl
import Derived.Test.YthbcfcbonmphfaaDoorTermVarsW
namespace Go.Proofs.YthbcfcbonmphfaaDoor
open Go.RowKit Go.Shelf
set_option maxRecDepth 100000

/-- Where At of the reference stands. -/
def RAInv (t : Tm) (L : List Int) (n₀ : Nat) (w : World) (k : Nat) (wr : World) : Prop :=
  ∃ (v : Tm) (Av : Option Addr) (cv : Nat), k ≤ L.length ∧ Below w.heap.size w wr ∧ wr.heap[w.heap.size]? = some (.cells (tcells v Av cv) 56 (0, 0)) ∧
    wr.heap[w.heap.size + 1]? = some (.cells #[.string ⟨#[]⟩, .string ⟨#[]⟩, .slice none 0 0] 56 (0, 0)) ∧ subAt t L = subAt v (L.drop k) ∧ TRep n₀ w v Av ∧ okT maxLen v
/-- What At of the reference hands back. -/
def refAtPost (t : Tm) (L : List Int) (n₀ : Nat) (w : World) (e : Ending) (w' : World) : Prop :=
  (match subAt t L with | none => e = .returned (.tuple #[TV0, .bool false]) | some s => ∃ A' c', e = .returned (.tuple #[TV s A' c', .bool true]) ∧ TRep n₀ w s A') ∧ Below w.heap.size w w'
theorem refAt_none {t : Tm} {L : List Int} {n₀ : Nat} {w w' : World} (h : subAt t L = none) (hb : Below w.heap.size w w') : refAtPost t L n₀ w (.returned (.tuple #[TV0, .bool false])) w' := by
  unfold refAtPost; rw [h]; exact ⟨rfl, hb⟩
theorem refAt_some {t s : Tm} {L : List Int} {n₀ : Nat} {w w' : World} {A : Option Addr} {c : Nat} (h : subAt t L = some s) (hr : TRep n₀ w s A) (hb : Below w.heap.size w w') : refAtPost t L n₀ w (.returned (.tuple #[TV s A c, .bool true])) w' := by
  unfold refAtPost; rw [h]; exact ⟨⟨A, c, rfl, hr⟩, hb⟩

set_option maxHeartbeats 4000000 in
theorem refAt_any (t : Tm) (A : Option Addr) (c : Nat) (P : Option Addr) (cp : Nat) (L : List Int) (n₀ : Nat) (w : World) (hrep : TRep n₀ w t A) (hp : SlI n₀ w P L) (hn : n₀ ≤ w.heap.size) (hl : L.length ≤ maxLen) (hok : okT maxLen t) :
    Calls Tryd.prog 38 #[TV t A c, .slice P L.length cp] w (refAtPost t L n₀ w) := by
  have HP := Lib.hid hp
  have H0 : Hid (RAInv t L n₀ w 0 ((w.alloc (.cells (tcells t A c) 56)).alloc (.cells #[.string ⟨#[]⟩, .string ⟨#[]⟩, .slice none 0 0] 56))) := by
    have h1 := heap_alloc_new w (.cells (tcells t A c) 56)
    have h2 := heap_alloc_new (w.alloc (.cells (tcells t A c) 56)) (.cells #[.string ⟨#[]⟩, .string ⟨#[]⟩, .slice none 0 0] 56)
    simp only [World.size_alloc] at h2
    exact ⟨t, A, c, Nat.zero_le _, ((Below.refl _ _).alloc (Nat.le_refl _) _).alloc (by simp) _, (Below.heap_alloc _ _ _ (by simp)).trans h1, h2, rfl, hrep, hok⟩
  unfold maxLen at hl
  clear hp hrep hok
  unfold TV
  go_enter Tryd.func38, Tryd.ntmps38
  go_wp2_with fail
  go_loopw [6] (fun y wr => ∃ k : Nat, y = .int .i64 k ∧ RAInv t L n₀ w k wr) (fun y _ => L.length - (intOf y).toNat)
  case atStart => exact ⟨0, rfl, H0.out⟩
  case round =>
    clear H0
    obtain ⟨k, rfl, v, Av, cv, hk, hbw, hbt, hbr, hsub, hrv, hov⟩ := hrel
    have HBW := Lib.hid hbw
    have HBT := Lib.hid hbt
    have HBR := Lib.hid hbr
    have HSUB := Lib.hid hsub
    have HRV := Lib.hid hrv
    have HOV := Lib.hid hov
    have hlv := hov.len
    unfold maxLen at hlv
    obtain ⟨⟨x0, x1, x2⟩, xf0, xf1, xf2⟩ := blk3 hbt
    obtain ⟨⟨r0, r1, r2⟩, rf0, rf1, rf2⟩ := blk3 hbr
    have hws := hbw.size
    have hltr := (Array.getElem?_eq_some_iff.1 hbr).1
    clear hbw hbt hbr hsub hrv hov
    by_cases hlt : k < L.length
    · obtain ⟨x, hx⟩ : ∃ x, L[k]? = some x := ⟨L[k]'hlt, List.getElem?_eq_getElem _⟩
      obtain ⟨pb, po, rfl, hpb, hc⟩ := HP.out (by omega)
      have y := (HBW.out.cell (p := ⟨pb, po + k, none⟩) (by show pb < _; omega)).trans (hc k x hx)
      have hd : L.drop k = x :: L.drop (k + 1) := by
        obtain ⟨h1, e1⟩ := List.getElem?_eq_some_iff.1 hx
        rw [List.drop_eq_getElem_cons h1, e1]
      have HD := Lib.hid hd
      have hI : (k : Int) < (L.length : Int) := by omega
      clear hc hx hd
      by_cases hneg : x < 0
      · have hb1 : decide (x < 0) = true := decide_eq_true hneg
        have HN := Lib.hid hneg
        clear hneg
        go_wp2_with fail
        go_quiet (fail)
        go_wp2_with fail
        refine bodyPost_ret (v := .tuple #[TV0, .bool false]) (by simp [results, Tryd.results38, go_sem, r0, r1, r2, TV0]) rfl ?_
        exact refAt_none (by rw [HSUB.out, HD.out, subAt, if_pos (.inl HN.out)]) (set3_below (below_drewN HBW.out _) (w.heap.size + 1) 0 _ _ _ (by omega))
      · have hb1 : decide (x < 0) = false := decide_eq_false hneg
        by_cases hge : (v.ks.length : Int) ≤ x
        · have hb2 : decide ((v.ks.length : Int) ≤ x) = true := decide_eq_true hge
          have HG := Lib.hid hge
          clear hge hneg
          go_wp2_with fail
          go_quiet (fail)
          go_wp2_with fail
          refine bodyPost_ret (v := .tuple #[TV0, .bool false]) (by simp [results, Tryd.results38, go_sem, r0, r1, r2, TV0]) rfl ?_
          exact refAt_none (by rw [HSUB.out, HD.out, subAt, if_pos (.inr HG.out)]) (set3_below (below_drewN HBW.out _) (w.heap.size + 1) 0 _ _ _ (by omega))
        · have hb2 : decide ((v.ks.length : Int) ≤ x) = false := decide_eq_false hge
          obtain ⟨n, rfl⟩ : ∃ n : Nat, x = (n : Int) := ⟨x.toNat, by omega⟩
          have hn : n < v.ks.length := by omega
          obtain ⟨kk, hkk⟩ : ∃ kk, v.ks[n]? = some kk := ⟨v.ks[n]'hn, List.getElem?_eq_getElem _⟩
          obtain ⟨tb, tq, A', c', rfl, htb, v0, v1, v2, hrk⟩ := HRV.out.kid (i := n) hkk
          replace v0 := (HBW.out.cell (p := ⟨tb, _, none⟩) (by show tb < _; omega)).trans v0
          replace v1 := (HBW.out.cell (p := ⟨tb, _, none⟩) (by show tb < _; omega)).trans v1
          replace v2 := (HBW.out.cell (p := ⟨tb, _, none⟩) (by show tb < _; omega)).trans v2
          have HRK := Lib.hid hrk
          have HKK := Lib.hid hkk
          have hIn : (n : Int) < (v.ks.length : Int) := by omega
          clear hkk hrk hneg hge
          go_wp2_with fail
          go_quiet (fail)
          go_wp2_with fail
          generalize hW : wr.drewN _ = W2 at ⊢
          have hb2' : Below w.heap.size w W2 := by rw [← hW]; exact below_drewN HBW.out _
          have hbt2 : W2.heap[w.heap.size]? = some (.cells (tcells v (some ⟨tb, tq, none⟩) cv) 56 (0, 0)) := by rw [← hW]; exact HBT.out
          have hbr2 : W2.heap[w.heap.size + 1]? = some (.cells #[.string ⟨#[]⟩, .string ⟨#[]⟩, .slice none 0 0] 56 (0, 0)) := by rw [← hW]; exact HBR.out
          have v0' : W2.cell? ⟨tb, tq + n * 3, none⟩ = some (.string kk.nm) := by rw [← hW]; exact v0
          have v1' : W2.cell? ⟨tb, tq + n * 3 + 1, none⟩ = some (.string kk.st) := by rw [← hW]; exact v1
          have v2' : W2.cell? ⟨tb, tq + n * 3 + 2, none⟩ = some (.slice A' kk.ks.length c') := by rw [← hW]; exact v2
          have y' : W2.cell? ⟨pb, po + k, none⟩ = some (.int .i64 (n : Int)) := by rw [← hW]; exact y
          clear hW x0 x1 x2 xf0 xf1 xf2 r0 r1 r2 rf0 rf1 rf2 v0 v1 v2 y
          obtain ⟨⟨x0, x1, x2⟩, xf0, xf1, xf2⟩ := blk3 hbt2
          have HB2 := Lib.hid hb2'
          have HBT2 := Lib.hid hbt2
          have HBR2 := Lib.hid hbr2
          clear hb2' hbt2 hbr2
          go_still_tail 8, (by kernel_rfl)
          change wpList _ _ _ _ _ W2.drew
          go_wp2_with fail
          go_roundw
          case rel =>
            have hc := put3_cells (w := W2.drew) (o := 0) HBT2.out kk A' c'
            refine ⟨k + 1, by go_num, kk, A', c', by omega, set3_below HB2.out.drew w.heap.size 0 _ _ _ (Nat.le_refl _), hc, (put3_other W2.drew w.heap.size 0 kk A' c' _ (by omega)).trans HBR2.out, ?_, HRK.out, HOV.out.kid (List.mem_of_getElem? HKK.out)⟩
            rw [HSUB.out, HD.out, subAt_at _ HKK.out]
          case measure => simp [intOf]; omega
    · have hkl : k = L.length := by omega
      have HKL := Lib.hid hkl
      have hI : ¬ (k : Int) < (L.length : Int) := by omega
      clear hkl
      go_wp2_with fail
      refine bodyPost_ret (v := .tuple #[TV v Av cv, .bool true]) (by simp [results, Tryd.results38, go_sem, r0, r1, r2, TV]) rfl ?_
      exact refAt_some (by rw [HSUB.out, HKL.out, List.drop_length, subAt]) HRV.out (set3_below HBW.out (w.heap.size + 1) 0 _ _ _ (by omega))

/-! ### Put -/
/-- A part, where its own parts lie. -/
abbrev Kt := Tm × Option Addr × Nat
def ktC (x : Kt) : List Value := [.string x.1.nm, .string x.1.st, .slice x.2.1 x.1.ks.length x.2.2]
def ktcs (l : List Kt) : List Value := l.flatMap ktC
theorem ktcs_cons (x : Kt) (l : List Kt) : ktcs (x :: l) = .string x.1.nm :: .string x.1.st :: .slice x.2.1 x.1.ks.length x.2.2 :: ktcs l := rfl
theorem ktcs_length : ∀ l : List Kt, (ktcs l).length = l.length * 3
  | [] => rfl
  | x :: l => by rw [ktcs_cons]; simp only [List.length_cons, ktcs_length l]; omega
theorem ktcs_at : ∀ (l : List Kt) (i : Nat) (x : Kt), l[i]? = some x → (ktcs l)[i * 3]? = some (.string x.1.nm) ∧ (ktcs l)[i * 3 + 1]? = some (.string x.1.st) ∧ (ktcs l)[i * 3 + 2]? = some (.slice x.2.1 x.1.ks.length x.2.2)
  | [], i, x, h => by simp at h
  | y :: l, 0, x, h => by
    simp at h
    subst h
    exact ⟨rfl, rfl, rfl⟩
  | y :: l, i + 1, x, h => by
    have ih := ktcs_at l i x (by simpa using h)
    rw [ktcs_cons, show (i + 1) * 3 = i * 3 + 1 + 1 + 1 by omega]
    simpa using ih
theorem ktcs_get : ∀ (l : List Kt) (j : Nat) (v : Value), (ktcs l)[j]? = some v → ∃ i x, l[i]? = some x ∧ ((j = i * 3 ∧ v = .string x.1.nm) ∨ (j = i * 3 + 1 ∧ v = .string x.1.st) ∨ (j = i * 3 + 2 ∧ v = .slice x.2.1 x.1.ks.length x.2.2))
  | [], j, v, h => by simp [ktcs] at h
  | x :: l, 0, v, h => by rw [ktcs_cons] at h; simp at h; exact ⟨0, x, rfl, .inl ⟨rfl, h.symm⟩⟩
  | x :: l, 1, v, h => by rw [ktcs_cons] at h; simp at h; exact ⟨0, x, rfl, .inr (.inl ⟨rfl, h.symm⟩)⟩
  | x :: l, 2, v, h => by rw [ktcs_cons] at h; simp at h; exact ⟨0, x, rfl, .inr (.inr ⟨rfl, h.symm⟩)⟩
  | x :: l, j + 3, v, h => by
    rw [ktcs_cons] at h
    obtain ⟨i, y, hy, hh⟩ := ktcs_get l j v (by simpa using h)
    refine ⟨i + 1, y, by simpa using hy, ?_⟩
    rcases hh with ⟨rfl, hh⟩ | ⟨rfl, hh⟩ | ⟨rfl, hh⟩
    · exact .inl ⟨by omega, hh⟩
    · exact .inr (.inl ⟨by omega, hh⟩)
    · exact .inr (.inr ⟨by omega, hh⟩)
theorem ktcs_one (l : List Kt) : ∀ v ∈ ktcs l, v.oneCell' = true := by
  intro v hv
  obtain ⟨j, hj⟩ := List.getElem?_of_mem hv
  obtain ⟨i, x, _, h⟩ := ktcs_get l j v hj
  rcases h with ⟨_, rfl⟩ | ⟨_, rfl⟩ | ⟨_, rfl⟩ <;> rfl
/-- The parts of a term as a list of cells. -/
theorem TRep.kts {n₀ : Nat} {w : World} {t : Tm} {A : Option Addr} (h : TRep n₀ w t A) : ∃ l : List Kt, l.length = t.ks.length ∧ (∀ (i : Nat) (k : Tm), t.ks[i]? = some k → ∃ (Ak : Option Addr) (ck : Nat), l[i]? = some (k, Ak, ck) ∧ TRep n₀ w k Ak) ∧
    (0 < t.ks.length → ∃ b off, A = some ⟨b, off, none⟩ ∧ b < n₀ ∧ ∀ (j : Nat) (v : Value), (ktcs l)[j]? = some v → w.cell? ⟨b, off + j, none⟩ = some v) := by
  cases h with
  | mk nm st ks A b off al cs hA h0 h1 h2 hr =>
    have hg : ∀ i : Nat, (ks.mapIdx (fun i k => ((k, al i, cs i) : Kt)))[i]? = (ks[i]?).map (fun k => (k, al i, cs i)) := fun i => List.getElem?_mapIdx
    refine ⟨ks.mapIdx (fun i k => (k, al i, cs i)), by simp, fun i k hi => ⟨al i, cs i, by rw [hg]; dsimp only [Tm.ks_mk] at hi; rw [hi]; rfl, hr i k hi⟩, fun hl => ⟨b, off, (hA hl).1, (hA hl).2, fun j v hj => ?_⟩⟩
    obtain ⟨i, x, hx, hh⟩ := ktcs_get _ j v hj
    rw [hg] at hx
    cases hk : ks[i]? with
    | none => rw [hk] at hx; cases hx
    | some k =>
      rw [hk] at hx
      simp only [Option.map_some, Option.some.injEq] at hx
      subst hx
      rcases hh with ⟨rfl, rfl⟩ | ⟨rfl, rfl⟩ | ⟨rfl, rfl⟩
      · exact h0 i k hk
      · exact h1 i k hk
      · exact h2 i k hk

/-- What Put hands back. -/
def putPost (x : Tm) (n₀ : Nat) (w : World) (e : Ending) (w' : World) : Prop :=
  (∃ A' c', e = .returned (TV x A' c') ∧ TIn (fun i => i < n₀ ∨ (w.heap.size + 3 ≤ i ∧ i < w'.heap.size)) w' x A') ∧ Below w.heap.size w w'
/-- The boxes of Put. -/
structure PW (t u : Tm) (A Au : Option Addr) (c cu R : Nat) (AO : Option Addr) (nO cO : Nat) (w w' : World) : Prop where
  rw : RPW t u A Au c cu w w'
  bo : w'.heap[R]? = some (.cells #[.string t.nm, .string t.st, .slice AO nO cO] 56 (0, 0))
  hR : w.heap.size + 3 ≤ R
theorem PW.next {t u : Tm} {A Au AO : Option Addr} {c cu R nO cO : Nat} {w w1 w2 : World} (h : PW t u A Au c cu R AO nO cO w w1) (hb : Below w1.heap.size w1 w2) : PW t u A Au c cu R AO nO cO w w2 := ⟨h.rw.next hb, cells_below h.bo hb, h.hR⟩
theorem PW.lt {t u : Tm} {A Au AO : Option Addr} {c cu R nO cO : Nat} {w w1 : World} (h : PW t u A Au c cu R AO nO cO w w1) : R < w1.heap.size := (Array.getElem?_eq_some_iff.1 h.bo).1
theorem PW.drew {t u : Tm} {A Au AO : Option Addr} {c cu R nO cO : Nat} {w w1 : World} (h : PW t u A Au c cu R AO nO cO w w1) : PW t u A Au c cu R AO nO cO w w1.drew := ⟨⟨h.rw.below.drew, h.rw.bt, h.rw.bu, h.rw.br⟩, h.bo, h.hR⟩
theorem PW.grown {t u : Tm} {A Au AO : Option Addr} {c cu R nO cO : Nat} {w w1 w2 : World} {g : Nat} (h : PW t u A Au c cu R AO nO cO w w1) (hg : w1.grownBy w2 (some g)) (hlt : R < g) : PW t u A Au c cu R AO nO cO w w2 := by
  have hs := h.lt
  have hR := h.hR
  exact ⟨⟨h.rw.below.grown hg (by omega) (fun k e => by cases e; omega), (hg.block _ (by omega) (fun e => by cases e; omega)).trans h.rw.bt, (hg.block _ (by omega) (fun e => by cases e; omega)).trans h.rw.bu, (hg.block _ (by omega) (fun e => by cases e; omega)).trans h.rw.br⟩, (hg.block _ hs (fun e => by cases e; omega)).trans h.bo, hR⟩
/-- The list of the copy is put into its box. -/
theorem PW.list {t u : Tm} {A Au AO : Option Addr} {c cu R nO cO : Nat} {w w1 : World} (h : PW t u A Au c cu R AO nO cO w w1) (A2 : Option Addr) (n2 c2 : Nat) : PW t u A Au c cu R A2 n2 c2 w (w1.setCell ⟨R, 2, none⟩ (.slice A2 n2 c2)) := by
  have hR := h.hR
  exact ⟨⟨h.rw.below.setCell (p := ⟨R, 2, none⟩) (by show w.heap.size ≤ R; omega) _, (Below.heap_setCell _ _ _ _ (by show w.heap.size ≠ R; omega)).trans h.rw.bt, (Below.heap_setCell _ _ _ _ (by show w.heap.size + 1 ≠ R; omega)).trans h.rw.bu, (Below.heap_setCell _ _ _ _ (by show w.heap.size + 1 + 1 ≠ R; omega)).trans h.rw.br⟩, by
    rw [heap_setCell_same _ _ 2 _ _ _ h.bo]; rfl, hR⟩
theorem PW.start {t u : Tm} {A Au : Option Addr} {c cu : Nat} {w W0 : World} (h : RPW t u A Au c cu w W0) : PW t u A Au c cu W0.heap.size A t.ks.length c w (W0.alloc (.cells #[.string t.nm, .string t.st, .slice A t.ks.length c] 56)) :=
  ⟨h.next ((Below.refl _ _).alloc (Nat.le_refl _) _), heap_alloc_new _ _, h.lt⟩

theorem snd_held {a : Prop} {w w' : World} (h : a ∧ Below w.heap.size w w') : Below w.heap.size w w' := h.2
theorem next_held {a : Prop} {w w1 w2 : World} (h : a ∧ Below w.heap.size w w1) (hb : Below w1.heap.size w1 w2) : Below w.heap.size w w2 := h.2.trans (hb.mono h.2.size)
theorem slI_tail {n₀ : Nat} {w : World} {pb po n : Nat} {is : List Int} (h : SlI n₀ w (some ⟨pb, po, none⟩) ((n : Int) :: is)) : SlI n₀ w (some ⟨pb, po + 1, none⟩) is := fun hl => by
  obtain ⟨b, off, e, hb, hc⟩ := h (by simp)
  injection e with e
  injection e with e1 e2 _
  subst e1 e2
  exact ⟨pb, po + 1, rfl, hb, fun i x hi => by rw [show po + 1 + i = po + (i + 1) by omega]; exact hc (i + 1) x hi⟩
/-- The state behind the store into the copy's list. -/
theorem put_end {t u k y : Tm} {A Au A5 : Option Addr} {c cu R cap n n₀ base g c5 : Nat} {l : List Kt} {w W5 wx W9 : World} (hn : n₀ ≤ w.heap.size) (hgW : R < g)
    (h5 : PW t u A Au c cu R (some ⟨g, 0, none⟩) t.ks.length cap w W5) (ho : W5.ownsRow base 56 3 (.slice (some ⟨g, 0, none⟩) t.ks.length cap) t.ks.length (ktcs l)) (hll : l.length = t.ks.length)
    (hlk : ∀ (i : Nat) (k : Tm), t.ks[i]? = some k → ∃ (Ak : Option Addr) (ck : Nat), l[i]? = some (k, Ak, ck) ∧ TRep n₀ w k Ak) (hk : t.ks[n]? = some k) (hbx : Below W5.drew.heap.size W5.drew wx)
    (hin : TIn (fun i => i < n₀ ∨ W5.drew.heap.size + 3 ≤ i ∧ i < wx.heap.size) wx y A5)
    (h9 : ((wx.setCell ⟨g, n * 3, none⟩ (.string y.nm)).setCell ⟨g, n * 3 + 1, none⟩ (.string y.st)).setCell ⟨g, n * 3 + 2, none⟩ (.slice A5 y.ks.length c5) = W9) :
    Hid (PW t u A Au c cu R (some ⟨g, 0, none⟩) t.ks.length cap w W9) ∧ Hid (TIn (fun i => i < n₀ ∨ w.heap.size + 3 ≤ i ∧ i < W9.heap.size) W9 (.mk t.nm t.st (t.ks.set n y)) (some ⟨g, 0, none⟩)) ∧ Hid (W9.heap.size = wx.heap.size) := by
  have hR := h5.hR
  have hlt5 := h5.lt
  have hg5 : g < W5.heap.size := (ho.lt _ rfl).2
  have hbw : Below W5.heap.size W5 wx := (Below.refl _ _).drew.trans hbx
  have hsx := hbw.size
  have e9 : put3 wx g (n * 3) y A5 c5 = W9 := h9
  have hs9 : W9.heap.size = wx.heap.size := by rw [← e9, put3_size]
  have hnl := (List.getElem?_eq_some_iff.1 hk).1
  have hx5 := h5.next hbw
  have hoth : ∀ i, i ≠ g → W9.heap[i]? = wx.heap[i]? := fun i hi => by rw [← e9]; exact put3_other _ _ _ _ _ _ _ hi
  have hP9 : PW t u A Au c cu R (some ⟨g, 0, none⟩) t.ks.length cap w W9 := ⟨by rw [← e9]; exact hx5.rw.set g (n * 3) y A5 c5 (by omega), (hoth R (by omega)).trans hx5.bo, hR⟩
  have hcur : ∃ cur, wx.heap[g]? = some (.cells cur 56 (0, 0)) := by
    rcases ho.2 with ⟨h', _⟩ | ⟨g', cap', cur, h', _, hg, _⟩
    · simp at h'
    · simp only [Value.slice.injEq, Option.some.injEq, Addr.mk.injEq, and_true, true_and] at h'
      obtain ⟨rfl, rfl⟩ := h'
      exact ⟨cur, cells_below hg hbw⟩
  obtain ⟨cur, hcur⟩ := hcur
  have hox := own_below ho hbw
  have hxl : (ktcs l).length = t.ks.length * 3 := by rw [ktcs_length, hll]
  have hsz : n * 3 + 2 < cur.size := by
    have := hox.cellAt (n * 3 + 2) (by omega)
    rw [cell_of_row _ g _ _ _ (0, 0) hcur, List.getElem?_eq_getElem (by omega)] at this
    exact (Array.getElem?_eq_some_iff.1 this).1
  obtain ⟨p0, p1, p2⟩ := put3_at hcur hsz y A5 c5
  rw [e9] at p0 p1 p2
  have hoff : ∀ j q, j ≠ n → q < 3 → j * 3 + q < (ktcs l).length → W9.cell? ⟨g, j * 3 + q, none⟩ = (ktcs l)[j * 3 + q]? := fun j q hj hq hl => by
    rw [← e9, put3_off hcur (by omega) y A5 c5]
    exact hox.cellAt (j * 3 + q) (by omega)
  have hkids : ∀ k' Ak, TRep n₀ w k' Ak → TIn (fun i => i < n₀ ∨ w.heap.size + 3 ≤ i ∧ i < W9.heap.size) W9 k' Ak := fun k' Ak h => by
    have hb5 := h5.rw.below
    have hs5 := hb5.size
    exact h.tin.keep (fun i hi => (hoth i (by omega)).trans ((hbw.block i (by omega)).trans (hb5.block i (by omega)))) (fun i hi => .inl hi)
  refine ⟨Lib.hid hP9, Lib.hid ?_, Lib.hid hs9⟩
  have hof : ∀ (j : Nat) (k' : Tm), t.ks[j]? = some k' → ∃ (Ak : Option Addr) (ck : Nat), (l[j]?).getD (t, none, 0) = (k', Ak, ck) ∧ TRep n₀ w k' Ak ∧ l[j]? = some (k', Ak, ck) := fun j k' hj => by
    obtain ⟨Ak, ck, h1, h2⟩ := hlk j k' hj
    exact ⟨Ak, ck, by rw [h1]; rfl, h2, h1⟩
  refine .mk t.nm t.st _ (some ⟨g, 0, none⟩) g 0 (fun j => if j = n then A5 else ((l[j]?).getD (t, none, 0)).2.1) (fun j => if j = n then c5 else ((l[j]?).getD (t, none, 0)).2.2) (fun _ => ⟨rfl, .inr ⟨by omega, by omega⟩⟩) (fun j k' hj => ?_) (fun j k' hj => ?_) (fun j k' hj => ?_) (fun j k' hj => ?_)
  · rcases set_get hj with ⟨rfl, rfl⟩ | ⟨hji, hk'⟩
    · rw [Nat.zero_add]; exact p0
    · obtain ⟨Ak, ck, e, _, hl⟩ := hof j k' hk'
      have := (List.getElem?_eq_some_iff.1 hk').1
      rw [Nat.zero_add]
      exact (hoff j 0 hji (by omega) (by omega)).trans (ktcs_at l j _ hl).1
  · rcases set_get hj with ⟨rfl, rfl⟩ | ⟨hji, hk'⟩
    · rw [Nat.zero_add]; exact p1
    · obtain ⟨Ak, ck, e, _, hl⟩ := hof j k' hk'
      have := (List.getElem?_eq_some_iff.1 hk').1
      rw [Nat.zero_add]
      exact (hoff j 1 hji (by omega) (by omega)).trans (ktcs_at l j _ hl).2.1
  · rcases set_get hj with ⟨rfl, rfl⟩ | ⟨hji, hk'⟩
    · rw [Nat.zero_add, if_pos rfl, if_pos rfl]; exact p2
    · obtain ⟨Ak, ck, e, _, hl⟩ := hof j k' hk'
      have := (List.getElem?_eq_some_iff.1 hk').1
      rw [Nat.zero_add, if_neg hji, if_neg hji, e]
      exact (hoff j 2 hji (by omega) (by omega)).trans (ktcs_at l j _ hl).2.2
  · rcases set_get hj with ⟨rfl, rfl⟩ | ⟨hji, hk'⟩
    · rw [if_pos rfl]
      exact hin.keep (fun i hi => hoth i (by
        have hs5 : W5.drew.heap.size = W5.heap.size := rfl
        rcases hi with hi | hi <;> omega)) (fun i hi => by
        have hs5 : W5.drew.heap.size = W5.heap.size := rfl
        have hs5b := h5.rw.below.size
        rcases hi with hi | hi
        · exact .inl hi
        · exact .inr ⟨by omega, by omega⟩)
    · obtain ⟨Ak, ck, e, hr, hl⟩ := hof j k' hk'
      rw [if_neg hji, e]
      exact hkids k' Ak hr
set_option maxHeartbeats 8000000 in
theorem refPut_any : ∀ (L : List Int) (t s u : Tm) (A Au : Option Addr) (c cu : Nat) (P : Option Addr) (cp n₀ : Nat) (w : World), subAt t L = some s → TRep n₀ w t A → TRep n₀ w u Au → SlI n₀ w P L → L.length ≤ cp → cp ≤ maxLen → n₀ ≤ w.heap.size → okT 1000000 t →
    Calls Tryd.prog 81 #[TV t A c, .slice P L.length cp, TV u Au cu] w (putPost (putAt t L u) n₀ w) := by
  intro L
  induction L with
  | nil =>
    intro t s u A Au c cu P cp n₀ w hs hrep hru hp hcp hcm hn hok
    have H0 := Lib.hid (RPW.start t u A Au c cu w)
    have HRU := Lib.hid hru
    clear hs hrep hru hp hok hcp hcm
    rw [putAt]
    unfold TV
    go_enter Tryd.func81, Tryd.ntmps81
    go_upto_region 1 with fail
    generalize (((w.alloc (.cells #[.string t.nm, .string t.st, .slice A t.ks.length c] 56)).alloc (.cells #[.string u.nm, .string u.st, .slice Au u.ks.length cu] 56)).alloc (.cells #[.string ⟨#[]⟩, .string ⟨#[]⟩, .slice none 0 0] 56)) = W0 at H0 ⊢
    obtain ⟨⟨y0, y1, y2⟩, _⟩ := blk3 H0.out.bu
    obtain ⟨⟨r0, r1, r2⟩, rf0, rf1, rf2⟩ := blk3 H0.out.br
    go_wp2_with fail
    refine bodyPost_ret (v := TV u Au cu) (by simp [results, Tryd.results81, go_sem, r0, r1, r2, TV]) rfl ?_
    refine ⟨⟨Au, cu, rfl, ?_⟩, set3_below H0.out.below (w.heap.size + 1 + 1) 0 _ _ _ (by omega)⟩
    exact (HRU.out.tin).keep (fun i h => (set3_heap _ (w.heap.size + 1 + 1) 0 _ _ _ i (by omega)).trans (H0.out.below.block i (by omega))) (fun i h => .inl h)
  | cons x is ih =>
    intro t s u A Au c cu P cp n₀ w hs hrep hru hp hcp hcm hn hok
    obtain ⟨n, k, rfl, hk, hs2⟩ := subAt_cons hs
    have hlt := (List.getElem?_eq_some_iff.1 hk).1
    obtain ⟨l, hll, hlk, hlc⟩ := hrep.kts
    obtain ⟨tb, tq, rfl, htb, hcells⟩ := hlc (by omega)
    have H0 := Lib.hid (RPW.start t u (some ⟨tb, tq, none⟩) Au c cu w)
    have HPUT := Lib.hid (putAt_cons is u hk)
    have HREP := Lib.hid hrep
    have HRU := Lib.hid hru
    have HP := Lib.hid hp
    have HOK := Lib.hid hok
    have HIH := Lib.hid ih
    have HK := Lib.hid hk
    have HLK := Lib.hid hlk
    have HC := Lib.hid hcells
    have HS2 := Lib.hid hs2
    have HLL := Lib.hid hll
    have hlen := hok.len
    have hokt := hok
    clear hs hrep hru hp hok ih hk hlk hcells hs2 hll hlc hokt
    rw [HPUT.out]
    unfold TV
    go_enter Tryd.func81, Tryd.ntmps81
    go_upto_region 1 with fail
    generalize (((w.alloc (.cells #[.string t.nm, .string t.st, .slice (some ⟨tb, tq, none⟩) t.ks.length c] 56)).alloc (.cells #[.string u.nm, .string u.st, .slice Au u.ks.length cu] 56)).alloc (.cells #[.string ⟨#[]⟩, .string ⟨#[]⟩, .slice none 0 0] 56)) = W0 at H0 ⊢
    have hltW0 := H0.out.lt
    obtain ⟨⟨x0, x1, x2⟩, _⟩ := blk3 H0.out.bt
    have hnz : (((((n : Int) :: is).length : Nat) : Int) == 0) = false := beq_eq_false_iff_ne.2 (by simp only [List.length_cons]; omega)
    go_upto_region 4 with fail
    have HP1 := Lib.hid (PW.start H0.out)
    generalize W0.alloc (.cells #[.string t.nm, .string t.st, .slice (some ⟨tb, tq, none⟩) t.ks.length c] 56) = W1 at HP1 ⊢
    have hlt1 := HP1.out.lt
    have hown0 : (W1.alloc (.cells #[] 56)).ownsRow W1.heap.size 56 3 (.slice (some ⟨W1.heap.size, 0, none⟩) 0 0) 0 [] :=
      ⟨rfl, .inr ⟨W1.heap.size, 0, #[], rfl, Nat.le_refl _, heap_alloc_new _ _, Nat.le_refl _, by simp [maxLen], rfl, rfl⟩⟩
    have HOWN0 := Lib.hid hown0
    have HPA := Lib.hid (HP1.out.next ((Below.refl _ _).alloc (Nat.le_refl _) (.cells #[] 56)))
    have hnews : ∀ (j : Nat) (v : Value), (ktcs l)[j]? = some v → (W1.alloc (.cells #[] 56)).cell? ((⟨tb, tq, none⟩ : Addr).add j) = some v := fun j v hj => by
      have had : (⟨tb, tq, none⟩ : Addr).add j = ⟨tb, tq + j, none⟩ := by unfold Addr.add; split <;> simp_all
      rw [had]
      exact (HPA.out.rw.below.cell (p := ⟨tb, _, none⟩) (by show tb < _; omega)).trans (HC.out j v hj)
    have HNEWS := Lib.hid hnews
    obtain ⟨i0, hi, hz0, hz1, hz2⟩ := info_parts Tryd.infoTerm
    clear x0 x1 x2 hown0 hnews
    obtain ⟨⟨x0, x1, x2⟩, _⟩ := blk3 HP1.out.rw.bt
    have hlw1 : w.heap.size < W1.heap.size := by omega
    go_wp2_with (at_builtin; go_loud (refine wpList_append_lies _ rfl (.tmp 13) (.tmp 15) 54 rfl W1.heap.size 56 i0 _ 3 56 Tryd.underlying54 hi hz0 hz1 hz2 rfl (by decide) _ 0 [] rfl HOWN0.out ⟨tb, tq, none⟩ t.ks.length c (ktcs l) rfl ((ktcs_length l).trans (by rw [HLL.out])) HNEWS.out (ktcs_one l) (by omega) (by unfold maxLen; omega) (by omega) (by simp) _ rfl ?_))
    intro g cap W2 hown2 hgr hg hglt
    have hP2 := HPA.out.grown hgr hlt1
    have hgW : W0.heap.size < g := by
      rcases hg with hg | hg
      · have : W1.heap.size = g := by simpa [Value.ownBlock] using hg
        omega
      · omega
    have hP5 := hP2.list (some ⟨g, 0, none⟩) t.ks.length cap
    have hown5 := ownsRow_setCell_below hown2 (a := ⟨W0.heap.size, 2, none⟩) hlt1 (.slice (some ⟨g, 0, none⟩) t.ks.length cap)
    have hgl5 : g < (W2.setCell ⟨W0.heap.size, 2, none⟩ (.slice (some ⟨g, 0, none⟩) t.ks.length cap)).heap.size := by simpa using hglt
    have HP5 := Lib.hid hP5
    have HOWN5 := Lib.hid hown5
    obtain ⟨⟨o0, o1, o2⟩, of0, of1, of2⟩ := blk3 hP2.bo
    clear hP2 hP5 hown2 hown5 hgr hg HOWN0 HPA HNEWS x0 x1 x2 HP1
    go_wp2_with fail
    generalize W2.setCell ⟨W0.heap.size, 2, none⟩ (.slice (some ⟨g, 0, none⟩) t.ks.length cap) = W5 at HP5 HOWN5 hgl5 ⊢
    clear o0 o1 o2 of0 of1 of2 hglt hlt1
    have hB5 := HP5.out.rw.below
    obtain ⟨pb, po, rfl, hpb, hpc⟩ := HP.out (by simp)
    have y0 := (hB5.cell (p := ⟨pb, po + 0, none⟩) (by show pb < _; omega)).trans (hpc 0 n rfl)
    rw [Nat.add_zero] at y0
    obtain ⟨Ak, ck, hlkn, hrk⟩ := HLK.out n k HK.out
    obtain ⟨c0, c1, c2⟩ := ktcs_at l n _ hlkn
    have u0 := (hB5.cell (p := ⟨tb, _, none⟩) (by show tb < _; omega)).trans (HC.out _ _ c0)
    have u1 := (hB5.cell (p := ⟨tb, _, none⟩) (by show tb < _; omega)).trans (HC.out _ _ c1)
    have u2 := (hB5.cell (p := ⟨tb, _, none⟩) (by show tb < _; omega)).trans (HC.out _ _ c2)
    have hcl : n * 3 + 2 < (ktcs l).length := by rw [ktcs_length, HLL.out]; omega
    have g0 := (HOWN5.out.cellAt (n * 3) (by omega)).trans c0
    have g1 := (HOWN5.out.cellAt (n * 3 + 1) (by omega)).trans c1
    have g2 := (HOWN5.out.cellAt (n * 3 + 2) (by omega)).trans c2
    have gf0 := HOWN5.out.frozenAt (n * 3)
    have gf1 := HOWN5.out.frozenAt (n * 3 + 1)
    have gf2 := HOWN5.out.frozenAt (n * 3 + 2)
    obtain ⟨⟨_, _, o2⟩, _⟩ := blk3 HP5.out.bo
    obtain ⟨⟨_, _, x2⟩, _⟩ := blk3 HP5.out.rw.bt
    obtain ⟨⟨w0, w1, w2⟩, _⟩ := blk3 HP5.out.rw.bu
    have hR5 := HP5.out.hR
    have hkeep : ∀ W' : World, (∀ b o, b < W5.heap.size → b ≠ g → W'.cell? ⟨b, o, none⟩ = W5.cell? ⟨b, o, none⟩) → ((W'.cell? ⟨W0.heap.size, 2, none⟩ = some (.slice (some ⟨g, 0, none⟩) t.ks.length cap) ∧ W'.cell? ⟨w.heap.size, 2, none⟩ = some (.slice (some ⟨tb, tq, none⟩) t.ks.length c) ∧ W'.cell? ⟨pb, po, none⟩ = some (.int .i64 (n : Int))) ∧
        (W'.cell? ⟨tb, tq + n * 3, none⟩ = some (.string k.nm) ∧ W'.cell? ⟨tb, tq + n * 3 + 1, none⟩ = some (.string k.st) ∧ W'.cell? ⟨tb, tq + n * 3 + 2, none⟩ = some (.slice Ak k.ks.length ck)) ∧
        (W'.cell? ⟨w.heap.size + 1, 0, none⟩ = some (.string u.nm) ∧ W'.cell? ⟨w.heap.size + 1, 1, none⟩ = some (.string u.st) ∧ W'.cell? ⟨w.heap.size + 1, 2, none⟩ = some (.slice Au u.ks.length cu))) := fun W' hc => by
      have hlt5 := HP5.out.lt
      exact ⟨⟨(hc _ _ (by omega) (by omega)).trans o2, (hc _ _ (by omega) (by omega)).trans x2, (hc _ _ (by omega) (by omega)).trans y0⟩, ⟨(hc _ _ (by omega) (by omega)).trans u0, (hc _ _ (by omega) (by omega)).trans u1, (hc _ _ (by omega) (by omega)).trans u2⟩, ⟨(hc _ _ (by omega) (by omega)).trans w0, (hc _ _ (by omega) (by omega)).trans w1, (hc _ _ (by omega) (by omega)).trans w2⟩⟩
    have hgc : ∀ W', Below W5.heap.size W5 W' → (W'.cell? ⟨g, n * 3, none⟩ = some (.string k.nm) ∧ W'.cell? ⟨g, n * 3 + 1, none⟩ = some (.string k.st) ∧ W'.cell? ⟨g, n * 3 + 2, none⟩ = some (.slice Ak k.ks.length ck)) ∧
        (W'.frozen? ⟨g, n * 3, none⟩ = false ∧ W'.frozen? ⟨g, n * 3 + 1, none⟩ = false ∧ W'.frozen? ⟨g, n * 3 + 2, none⟩ = false) := fun W' hb => by
      have hc : ∀ b o, b < W5.heap.size → W'.cell? ⟨b, o, none⟩ = W5.cell? ⟨b, o, none⟩ := fun b o h => hb.cell (p := ⟨b, o, none⟩) h
      have hf : ∀ b o, b < W5.heap.size → W'.frozen? ⟨b, o, none⟩ = W5.frozen? ⟨b, o, none⟩ := fun b o h => hb.frozen (p := ⟨b, o, none⟩) h
      exact ⟨⟨(hc _ _ (by omega)).trans g0, (hc _ _ (by omega)).trans g1, (hc _ _ (by omega)).trans g2⟩, ⟨(hf _ _ (by omega)).trans gf0, (hf _ _ (by omega)).trans gf1, (hf _ _ (by omega)).trans gf2⟩⟩
    have HG := Lib.hid hgc
    have hk1 := hkeep W5.drew (fun b o _ _ => rfl)
    have hk2 : ∀ W', Below W5.heap.size W5 W' → _ := fun W' hb => hkeep W' (fun b o h _ => hb.cell (p := ⟨b, o, none⟩) h)
    have hk3 : ∀ W', Below W5.heap.size W5 W' → ∀ v0 v1 v2, _ := fun W' hb v0 v1 v2 => hkeep (((W'.setCell ⟨g, n * 3, none⟩ v0).setCell ⟨g, n * 3 + 1, none⟩ v1).setCell ⟨g, n * 3 + 2, none⟩ v2) (fun b o h hne => (World.cell?_of_block (set3_heap W' g (n * 3) v0 v1 v2 b hne)).trans (hb.cell (p := ⟨b, o, none⟩) h))
    have HK1 := Lib.hid hk1
    have HK2 := Lib.hid hk2
    have HK3 := Lib.hid hk3
    have hb0 : Below w.heap.size w W5 := hB5
    have hlt5 := HP5.out.lt
    have hcall : ∀ W', Below W5.heap.size W5 W' → ∀ P' cp', (P' = some ⟨pb, po + 1, none⟩ ∨ is.length = 0) → is.length ≤ cp' → cp' ≤ maxLen → Calls Tryd.prog 81 #[TV k Ak ck, .slice P' is.length cp', TV u Au cu] W' (putPost (putAt k is u) n₀ W') := fun W' hb P' cp' hP' hc1 hc2 => by
      have hbw : Below n₀ w W' := (hb0.mono hn).trans (hb.mono (by have := hb0.size; omega))
      refine HIH.out k s u Ak Au ck cu P' cp' n₀ W' HS2.out (hrk.later hbw) (HRU.out.later hbw) ?_ hc1 hc2 (by have := hb0.size; have := hb.size; omega) (HOK.out.kid (List.mem_of_getElem? HK.out))
      rcases hP' with rfl | h0
      · exact (slI_tail HP.out).later hbw
      · intro hl; omega
    have HCALL := Lib.hid hcall
    unfold TV at HCALL
    have hIn : (n : Int) < (t.ks.length : Int) := by omega
    clear hk1 hk2 hk3 hkeep hgc hcall c0 c1 c2 hlkn hpc hB5 hb0 y0 u0 u1 u2 g0 g1 g2 gf0 gf1 gf2 o2 x2 w0 w1 w2
    by_cases hc1 : cp = 1
    · subst hc1
      simp only [List.length_cons] at hcp
      have h0 : is.length = 0 := by omega
      have H0L := Lib.hid h0
      clear h0
      have hcpJ : (is.length : Int) + 1 ≤ 1 := by omega
      have hcpK : (1 : Int) ≤ (is.length : Int) + 1 := by omega
      have hq1 : is.length ≤ 0 := by omega
      have hq2 : 0 ≤ maxLen := Nat.zero_le _
      have hc0 := HCALL.out W5.drew (Below.refl _ _).drew (some ⟨pb, po, none⟩) 0 (.inr H0L.out) hq1 hq2
      rw [H0L.out] at hc0
      have HC0 := Lib.hid hc0
      clear hc0
      go_region_held3 (fun w' => ((w'.cell? ⟨W0.heap.size, 2, none⟩ = some (.slice (some ⟨g, 0, none⟩) t.ks.length cap) ∧ w'.cell? ⟨w.heap.size, 2, none⟩ = some (.slice (some ⟨tb, tq, none⟩) t.ks.length c) ∧ w'.cell? ⟨pb, po, none⟩ = some (.int .i64 (n : Int))) ∧
        (w'.cell? ⟨tb, tq + n * 3, none⟩ = some (.string k.nm) ∧ w'.cell? ⟨tb, tq + n * 3 + 1, none⟩ = some (.string k.st) ∧ w'.cell? ⟨tb, tq + n * 3 + 2, none⟩ = some (.slice Ak k.ks.length ck)) ∧
        (w'.cell? ⟨w.heap.size + 1, 0, none⟩ = some (.string u.nm) ∧ w'.cell? ⟨w.heap.size + 1, 1, none⟩ = some (.string u.st) ∧ w'.cell? ⟨w.heap.size + 1, 2, none⟩ = some (.slice Au u.ks.length cu))))
        (first | exact HK1.out | assumption | exact HK2.out _ ((Below.refl _ _).drew.trans hbx) | exact HK3.out _ ((Below.refl _ _).drew.trans hbx) _ _ _)
        (first
          | (go_at_call 81; refine HC0.out.mono ?_; rintro e wx ⟨⟨A5, c5, rfl, hin⟩, hbx⟩; obtain ⟨⟨g0, g1, g2⟩, gf0, gf1, gf2⟩ := HG.out wx ((Below.refl _ _).drew.trans hbx); have HIN := Lib.hid hin; clear hin; unfold TV))
      generalize hWx : ((wx.setCell ⟨g, n * 3, none⟩ (.string (putAt k is u).nm)).setCell ⟨g, n * 3 + 1, none⟩ (.string (putAt k is u).st)).setCell ⟨g, n * 3 + 2, none⟩ (.slice A5 (putAt k is u).ks.length c5) = W9 at ⊢
      obtain ⟨HP9, HIN9, HB9⟩ := put_end (c5 := c5) hn hgW HP5.out HOWN5.out HLL.out HLK.out HK.out hbx HIN.out hWx
      clear hWx g0 g1 g2 gf0 gf1 gf2
      rename_i hHeld
      clear hHeld
      obtain ⟨⟨o0, o1, o2⟩, _⟩ := blk3 HP9.out.bo
      obtain ⟨⟨r0, r1, r2⟩, rf0, rf1, rf2⟩ := blk3 HP9.out.rw.br
      go_wp2_with fail
      refine bodyPost_ret (v := TV (.mk t.nm t.st (t.ks.set n (putAt k is u))) (some ⟨g, 0, none⟩) cap) (by simp [results, Tryd.results81, go_sem, r0, r1, r2, TV]) rfl ?_
      refine ⟨⟨_, cap, rfl, ?_⟩, set3_below HP9.out.rw.below (w.heap.size + 1 + 1) 0 _ _ _ (by omega)⟩
      exact HIN9.out.keep (fun i h => set3_heap _ (w.heap.size + 1 + 1) 0 _ _ _ i (by rcases h with h | h <;> omega)) (fun i h => by
        rcases h with h | h
        · exact .inl h
        · exact .inr ⟨h.1, by simp; omega⟩)
    · have hcp1 : 1 ≤ cp := by simp only [List.length_cons] at hcp; omega
      have hcp2 : 1 < cp := by omega
      simp only [List.length_cons] at hcp
      have hcpI : (1 : Int) ≤ (cp : Int) := by omega
      have hcpJ : (is.length : Int) + 1 ≤ (cp : Int) := by omega
      have hcpK : (1 : Int) ≤ (is.length : Int) + 1 := by omega
      have hq1 : is.length ≤ cp - 1 := by omega
      have hq2 : cp - 1 ≤ maxLen := by omega
      go_region_held3 (fun w' => ((w'.cell? ⟨W0.heap.size, 2, none⟩ = some (.slice (some ⟨g, 0, none⟩) t.ks.length cap) ∧ w'.cell? ⟨w.heap.size, 2, none⟩ = some (.slice (some ⟨tb, tq, none⟩) t.ks.length c) ∧ w'.cell? ⟨pb, po, none⟩ = some (.int .i64 (n : Int))) ∧
        (w'.cell? ⟨tb, tq + n * 3, none⟩ = some (.string k.nm) ∧ w'.cell? ⟨tb, tq + n * 3 + 1, none⟩ = some (.string k.st) ∧ w'.cell? ⟨tb, tq + n * 3 + 2, none⟩ = some (.slice Ak k.ks.length ck)) ∧
        (w'.cell? ⟨w.heap.size + 1, 0, none⟩ = some (.string u.nm) ∧ w'.cell? ⟨w.heap.size + 1, 1, none⟩ = some (.string u.st) ∧ w'.cell? ⟨w.heap.size + 1, 2, none⟩ = some (.slice Au u.ks.length cu))))
        (first | exact HK1.out | assumption | exact HK2.out _ ((Below.refl _ _).drew.trans hbx) | exact HK3.out _ ((Below.refl _ _).drew.trans hbx) _ _ _)
        (first
          | (go_at_call 81; refine (HCALL.out W5.drew (Below.refl _ _).drew (some ⟨pb, po + 1, none⟩) (cp - 1) (.inl rfl) hq1 hq2).mono ?_; rintro e wx ⟨⟨A5, c5, rfl, hin⟩, hbx⟩; obtain ⟨⟨g0, g1, g2⟩, gf0, gf1, gf2⟩ := HG.out wx ((Below.refl _ _).drew.trans hbx); have HIN := Lib.hid hin; clear hin; unfold TV))
      generalize hWx : ((wx.setCell ⟨g, n * 3, none⟩ (.string (putAt k is u).nm)).setCell ⟨g, n * 3 + 1, none⟩ (.string (putAt k is u).st)).setCell ⟨g, n * 3 + 2, none⟩ (.slice A5 (putAt k is u).ks.length c5) = W9 at ⊢
      obtain ⟨HP9, HIN9, HB9⟩ := put_end (c5 := c5) hn hgW HP5.out HOWN5.out HLL.out HLK.out HK.out hbx HIN.out hWx
      clear hWx g0 g1 g2 gf0 gf1 gf2
      rename_i hHeld
      clear hHeld
      obtain ⟨⟨o0, o1, o2⟩, _⟩ := blk3 HP9.out.bo
      obtain ⟨⟨r0, r1, r2⟩, rf0, rf1, rf2⟩ := blk3 HP9.out.rw.br
      go_wp2_with fail
      refine bodyPost_ret (v := TV (.mk t.nm t.st (t.ks.set n (putAt k is u))) (some ⟨g, 0, none⟩) cap) (by simp [results, Tryd.results81, go_sem, r0, r1, r2, TV]) rfl ?_
      refine ⟨⟨_, cap, rfl, ?_⟩, set3_below HP9.out.rw.below (w.heap.size + 1 + 1) 0 _ _ _ (by omega)⟩
      exact HIN9.out.keep (fun i h => set3_heap _ (w.heap.size + 1 + 1) 0 _ _ _ i (by rcases h with h | h <;> omega)) (fun i h => by
        rcases h with h | h
        · exact .inl h
        · exact .inr ⟨h.1, by simp; omega⟩)

set_option maxHeartbeats 8000000 in
theorem refReplace_any (t u : Tm) (A Au : Option Addr) (c cu : Nat) (P : Option Addr) (cp : Nat) (L : List Int) (w : World) (hrep : TRep w.heap.size w t A) (hru : TRep w.heap.size w u Au) (hp : SlI w.heap.size w P L) (hcp : L.length ≤ cp) (hcm : cp ≤ maxLen) (hok : okT 1000000 t) (hou : okT 1000000 u) :
    Calls Tryd.prog 34 #[TV t A c, .slice P L.length cp, TV u Au cu] w (replPost t L u w) := by
  have HREP := Lib.hid hrep
  have HRU := Lib.hid hru
  have HP := Lib.hid hp
  have HOK := Lib.hid hok
  have HOU := Lib.hid hou
  have HOM := Lib.hid (hok.mono (m' := maxLen) (by unfold maxLen; omega))
  have HOUM := Lib.hid (hou.mono (m' := maxLen) (by unfold maxLen; omega))
  have HCP := Lib.hid hcp
  have HCM := Lib.hid hcm
  have H0 := Lib.hid (RPW.start t u A Au c cu w)
  clear hrep hru hp hok hou hcp hcm
  generalize hvt : formed t = vt
  have HVT := Lib.hid hvt
  have HF1 := Lib.hid (fun (W : World) (h : RPW t u A Au c cu w W) => formed_any t A c W.heap.size W ((HREP.out.later h.below).mono h.below.size) (Nat.le_refl _) HOM.out)
  have HF2 := Lib.hid (fun (W : World) (h : RPW t u A Au c cu w W) => formed_any u Au cu W.heap.size W ((HRU.out.later h.below).mono h.below.size) (Nat.le_refl _) HOUM.out)
  rw [hvt] at HF1
  clear hvt
  unfold TV at HF1 HF2 ⊢
  go_enter Tryd.func34, Tryd.ntmps34
  go_wp2_with fail
  refine (HF1.out _ H0.out).mono ?_
  rintro e w1 ⟨rfl, hb1⟩
  have H1 := Lib.hid (H0.out.next hb1)
  obtain ⟨⟨x0, x1, x2⟩, _⟩ := blk3 H1.out.bt
  obtain ⟨⟨y0, y1, y2⟩, _⟩ := blk3 H1.out.bu
  obtain ⟨⟨r0, r1, r2⟩, _⟩ := blk3 H1.out.br
  clear hb1 H0 HF1
  cases vt
  · go_wp2_with fail
    refine bodyPost_ret (v := .tuple #[TV0, .int .i64 1]) (by simp [results, Tryd.results34, go_sem, r0, r1, r2, TV0]) rfl ?_
    exact replPost_bad (repl_arg (fun h => by rw [HVT.out] at h; exact absurd h.1 (by decide))) (by decide) (set3_below H1.out.below (w.heap.size + 1 + 1) 0 _ _ _ (by omega))
  · generalize hvu : formed u = vu at HF2
    have HVU := Lib.hid hvu
    clear hvu
    go_wp2_with fail
    refine (HF2.out _ H1.out).mono ?_
    rintro e w2 ⟨rfl, hb2⟩
    have H2 := Lib.hid (H1.out.next hb2)
    clear hb2 x0 x1 x2 y0 y1 y2 r0 r1 r2 HF2
    obtain ⟨⟨x0, x1, x2⟩, _⟩ := blk3 H2.out.bt
    obtain ⟨⟨r0, r1, r2⟩, _⟩ := blk3 H2.out.br
    cases vu
    · go_wp2_with fail
      refine bodyPost_ret (v := .tuple #[TV0, .int .i64 1]) (by simp [results, Tryd.results34, go_sem, r0, r1, r2, TV0]) rfl ?_
      exact replPost_bad (repl_arg (fun h => by rw [HVU.out] at h; exact absurd h.2 (by decide))) (by decide) (set3_below H2.out.below (w.heap.size + 1 + 1) 0 _ _ _ (by omega))
    · have hcp := HCP.out
      have hcm := HCM.out
      have HAT := Lib.hid (refAt_any t A c P cp L w.heap.size w2 (HREP.out.later H2.out.below) (HP.out.later H2.out.below) H2.out.below.size (by omega) HOM.out)
      clear hcp hcm
      unfold TV at HAT
      go_wp2_with fail
      refine HAT.out.mono ?_
      rintro e w3 ⟨hat, hb3⟩
      have H3 := Lib.hid (H2.out.next hb3)
      clear hb3 x0 x1 x2 r0 r1 r2 HAT
      cases hsub : subAt t L with
      | none =>
        rw [hsub] at hat
        simp only at hat
        subst hat
        have HSU := Lib.hid hsub
        clear hsub
        have H4 := Lib.hid (H3.out.next ((Below.refl _ _).alloc (Nat.le_refl _) (.cells #[.string ⟨#[]⟩, .string ⟨#[]⟩, .slice none 0 0] 56)))
        unfold TV0
        go_upto_region 4 with fail
        generalize w3.alloc (.cells #[.string ⟨#[]⟩, .string ⟨#[]⟩, .slice none 0 0] 56) = W4 at H4 ⊢
        obtain ⟨⟨r0, r1, r2⟩, rf0, rf1, rf2⟩ := blk3 H4.out.br
        go_wp2_with fail
        refine bodyPost_ret (v := .tuple #[TV0, .int .i64 2]) (by simp [results, Tryd.results34, go_sem, r0, r1, r2, TV0]) rfl ?_
        exact replPost_bad (repl_range ⟨HVT.out, HVU.out⟩ HSU.out) (by decide) (set3_below H4.out.below (w.heap.size + 1 + 1) 0 _ _ _ (by omega))
      | some s =>
        rw [hsub] at hat
        simp only at hat
        obtain ⟨As, cs, rfl, _⟩ := hat
        have HSU := Lib.hid hsub
        clear hsub
        have H4 := Lib.hid (H3.out.next ((Below.refl _ _).alloc (Nat.le_refl _) (.cells (tcells s As cs) 56)))
        unfold TV
        go_upto_region 4 with fail
        generalize w3.alloc (.cells (tcells s As cs) 56) = W4 at H4 ⊢
        obtain ⟨⟨x0, x1, x2⟩, _⟩ := blk3 H4.out.bt
        obtain ⟨⟨y0, y1, y2⟩, _⟩ := blk3 H4.out.bu
        have HC := Lib.hid (refPut_any L t s u A Au c cu P cp w.heap.size W4 HSU.out (HREP.out.later H4.out.below) (HRU.out.later H4.out.below) (HP.out.later H4.out.below) HCP.out HCM.out H4.out.below.size HOK.out)
        unfold TV at HC
        go_wp2_with fail
        refine HC.out.mono ?_
        rintro e w5 ⟨⟨AX, cX, rfl, hin⟩, hb5⟩
        have hs4 := H4.out.lt
        have hs5 := hb5.size
        have H5 := Lib.hid (H4.out.next hb5)
        have hbA : Below w5.heap.size w5 (w5.alloc (.cells (tcells (putAt t L u) AX cX) 56)) := (Below.refl _ _).alloc (Nat.le_refl _) _
        have H6 := Lib.hid (H5.out.next hbA)
        have HX := Lib.hid (heap_alloc_new w5 (.cells (tcells (putAt t L u) AX cX) 56))
        have HIN := Lib.hid (hin.keep (Q := fun i => i < w.heap.size ∨ w.heap.size + 3 ≤ i ∧ i < (w5.alloc (.cells (tcells (putAt t L u) AX cX) 56)).heap.size) (fun i h => hbA.block i (by rcases h with h | h <;> omega)) (fun i h => by
          rcases h with h | h
          · exact .inl h
          · exact .inr ⟨by omega, by simp; omega⟩))
        have hs6 := hbA.size
        clear hin hb5 hbA x0 x1 x2 y0 y1 y2 HC
        unfold TV
        go_upto_region 7 with fail
        generalize w5.alloc (.cells (tcells (putAt t L u) AX cX) 56) = W6 at H6 HX HIN hs6 ⊢
        obtain ⟨⟨x0, x1, x2⟩, _⟩ := blk3 HX.out
        have hlt6 := H6.out.lt
        have HOX := Lib.hid (putAt_ok L t u HOM.out HOUM.out)
        have HRX := Lib.hid (HIN.out.rep (n := W6.heap.size) (fun i h => by rcases h with h | h <;> omega))
        have HS := Lib.hid (small_formed (putAt t L u))
        have HNM := Lib.hid (nmd_all (putAt_nmd L t u (formed_nmd HVT.out) (formed_nmd HVU.out)) 1)
        have HSM := Lib.hid (Small_any (putAt t L u) AX cX W6.heap.size 1 1000 W6 HRX.out (Nat.le_refl _) HOX.out (by omega) (by omega) (by omega))
        unfold TV at HSM
        have HFX := Lib.hid (formed_put (L := L) (show formed t = true ∧ formed u = true from ⟨HVT.out, HVU.out⟩))
        go_wp2_with fail
        refine HSM.out.mono ?_
        rintro e w7 ⟨rfl, hb7⟩
        have H7 := Lib.hid (H6.out.next hb7)
        have HX7 := Lib.hid (cells_below HX.out hb7)
        have hs7 := hb7.size
        have HIN7 := Lib.hid (HIN.out.keep (Q := fun i => i < w.heap.size ∨ w.heap.size + 3 ≤ i ∧ i < W6.heap.size) (fun i h => hb7.block i (by rcases h with h | h <;> omega)) (fun i h => h))
        clear hb7 x0 x1 x2 HSM
        obtain ⟨⟨r0, r1, r2⟩, rf0, rf1, rf2⟩ := blk3 H7.out.br
        obtain ⟨⟨x0, x1, x2⟩, _⟩ := blk3 HX7.out
        by_cases hneg : small (putAt t L u) 1 1000 < 0
        · have hnb : decide (small (putAt t L u) 1 1000 < 0) = true := decide_eq_true hneg
          have hvf : fitsL ((putAt t L u).pre 1) = false := by
            have h := HS.out
            rw [hnb, HNM.out, Bool.and_true] at h
            cases hf : fitsL ((putAt t L u).pre 1) with
            | false => rfl
            | true => rw [hf] at h; cases h
          have HVF := Lib.hid hvf
          clear hvf
          go_wp2_with fail
          refine bodyPost_ret (v := .tuple #[TV0, .int .i64 4]) (by simp [results, Tryd.results34, go_sem, r0, r1, r2, TV0]) rfl ?_
          exact replPost_bad (repl_full ⟨HVT.out, HVU.out⟩ HSU.out HVF.out) (by decide) (set3_below H7.out.below (w.heap.size + 1 + 1) 0 _ _ _ (by omega))
        · have hnb : decide (small (putAt t L u) 1 1000 < 0) = false := decide_eq_false hneg
          have hvf : fitsL ((putAt t L u).pre 1) = true := by
            have h := HS.out
            rw [hnb, HNM.out, Bool.and_true] at h
            cases hf : fitsL ((putAt t L u).pre 1) with
            | true => rfl
            | false => rw [hf] at h; cases h
          have HVF := Lib.hid hvf
          have HRX7 := Lib.hid (HIN7.out.rep (n := w7.heap.size) (fun i h => by rcases h with h | h <;> omega))
          have HFC := Lib.hid (formed_any (putAt t L u) AX cX w7.heap.size w7 HRX7.out (Nat.le_refl _) HOX.out)
          rw [HFX.out, hvf, Bool.true_and] at HFC
          clear hvf
          generalize hva : agreeL ((putAt t L u).pre 1) = va at HFC
          have HVA := Lib.hid hva
          clear hva
          unfold TV at HFC
          go_wp2_with fail
          refine HFC.out.mono ?_
          rintro e w8 ⟨rfl, hb8⟩
          have H8 := Lib.hid (H7.out.next hb8)
          have HX8 := Lib.hid (cells_below HX7.out hb8)
          have hs8 := hb8.size
          have HIN8 := Lib.hid (HIN7.out.keep (Q := fun i => i < w.heap.size ∨ w.heap.size + 3 ≤ i ∧ i < W6.heap.size) (fun i h => hb8.block i (by rcases h with h | h <;> omega)) (fun i h => h))
          clear hb8 x0 x1 x2 r0 r1 r2 rf0 rf1 rf2 HFC
          obtain ⟨⟨r0, r1, r2⟩, rf0, rf1, rf2⟩ := blk3 H8.out.br
          obtain ⟨⟨x0, x1, x2⟩, _⟩ := blk3 HX8.out
          cases va
          · go_wp2_with fail
            refine bodyPost_ret (v := .tuple #[TV0, .int .i64 11]) (by simp [results, Tryd.results34, go_sem, r0, r1, r2, TV0]) rfl ?_
            exact replPost_bad (repl_type ⟨HVT.out, HVU.out⟩ HSU.out HVF.out HVA.out) (by decide) (set3_below H8.out.below (w.heap.size + 1 + 1) 0 _ _ _ (by omega))
          · go_wp2_with fail
            refine bodyPost_ret (v := .tuple #[TV (putAt t L u) AX cX, .int .i64 0]) (by simp [results, Tryd.results34, go_sem, r0, r1, r2, TV]) rfl ?_
            refine replPost_ok (repl_ok ⟨HVT.out, HVU.out⟩ HSU.out HVF.out HVA.out) ?_ (set3_below H8.out.below (w.heap.size + 1 + 1) 0 _ _ _ (by omega))
            exact (HIN8.out.keep (Q := fun i => i < w8.heap.size) (fun i h => set3_heap _ (w.heap.size + 1 + 1) 0 _ _ _ i (by rcases h with h | h <;> omega)) (fun i h => by rcases h with h | h <;> omega)).rep (fun i h => by simp; omega)
end Go.Proofs.YthbcfcbonmphfaaDoor
