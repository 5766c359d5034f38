/- find, copied, At. -/
import Derived.Deep.RegionWith
import Derived.OwnWalk
import Derived.Test.YthbcfcbonmphfaaGreatDoorTermDBundle
import Derived.Test.YthbcfcbonmphfaaGreatDoorTermGBundle
namespace Go.Proofs.YthbcfcbonmphfaaGreatDoor
open Go.RowKit Go.Shelf
set_option maxRecDepth 100000

/-- The subterm at a path. -/
def subAt : Tm → List Int → Option Tm
  | t, [] => some t
  | t, i :: is => if i < 0 ∨ (t.ks.length : Int) ≤ i then none else match t.ks[i.toNat]? with | none => none | some k => subAt k is
/-- A slice of integers in memory. -/
def SlI (n₀ : Nat) (w : World) (A : Option Addr) (L : List Int) : Prop :=
  0 < L.length → ∃ b off, A = some ⟨b, off, none⟩ ∧ b < n₀ ∧ ∀ (i : Nat) (x : Int), L[i]? = some x → w.cell? ⟨b, off + i, none⟩ = some (.int .i64 x)
theorem SlI.later {n₀ : Nat} {w w' : World} (hb : Below n₀ w w') {A : Option Addr} {L : List Int} (h : SlI n₀ w A L) : SlI n₀ w' A L := fun hl => by
  obtain ⟨b, off, rfl, hlt, hc⟩ := h hl
  exact ⟨b, off, rfl, hlt, fun i s hi => (hb.cell (p := ⟨b, off + i, none⟩) hlt).trans (hc i s hi)⟩
theorem SlI.mono {n₀ n₁ : Nat} (hn : n₀ ≤ n₁) {w : World} {A : Option Addr} {L : List Int} (h : SlI n₀ w A L) : SlI n₁ w A L := fun hl => by
  obtain ⟨b, off, rfl, hlt, hc⟩ := h hl
  exact ⟨b, off, rfl, by omega, hc⟩
/-- A term at an address. -/
def TAt (n₀ : Nat) (w : World) (b off : Nat) (t : Tm) : Prop :=
  ∃ A c, w.cell? ⟨b, off, none⟩ = some (.string t.nm) ∧ w.cell? ⟨b, off + 1, none⟩ = some (.string t.st) ∧ w.cell? ⟨b, off + 2, none⟩ = some (.slice A t.ks.length c) ∧ TRep n₀ w t A
/-- Where a path leads in memory. -/
def Loc (w : World) : List Int → Nat → Nat → Nat → Nat → Prop
  | [], b0, o0, b, o => b0 = b ∧ o0 = o
  | i :: is, b0, o0, b, o => ∃ b1 o1 n c, w.cell? ⟨b0, o0 + 2, none⟩ = some (.slice (some ⟨b1, o1, none⟩) n c) ∧ Loc w is b1 (o1 + i.toNat * 3) b o
theorem Loc.step {w : World} {n : Nat} {is : List Int} {b0 o0 b1 o1 m c b o : Nat} (h : w.cell? ⟨b0, o0 + 2, none⟩ = some (.slice (some ⟨b1, o1, none⟩) m c)) (h2 : Loc w is b1 (o1 + n * 3) b o) : Loc w ((n : Int) :: is) b0 o0 b o := ⟨b1, o1, m, c, h, h2⟩
def FInv (n₀ : Nat) (w : World) (t : Tm) (L : List Int) (b0 o0 : Nat) (k : Nat) (p : Value) : Prop :=
  ∃ b off u, p = .pointer (some ⟨b, off, none⟩) ∧ k ≤ L.length ∧ TAt n₀ w b off u ∧ subAt t L = subAt u (L.drop k) ∧ okT maxLen u ∧ (∀ b2 o2, Loc w (L.drop k) b off b2 o2 → Loc w L b0 o0 b2 o2)
def findPost (n₀ : Nat) (w : World) (t : Tm) (L : List Int) (b0 o0 : Nat) (e : Ending) (w' : World) : Prop :=
  (match subAt t L with | none => e = .returned (.pointer none) | some u => ∃ b off, e = .returned (.pointer (some ⟨b, off, none⟩)) ∧ TAt n₀ w b off u ∧ okT maxLen u ∧ Loc w L b0 o0 b off) ∧ w' = w

set_option maxHeartbeats 2000000 in
theorem find_any (n₀ : Nat) (w : World) (t : Tm) (b off : Nat) (P : Option Addr) (cp : Nat) (L : List Int) (hl : L.length ≤ maxLen) (ht : TAt n₀ w b off t) (hp : SlI n₀ w P L) (hok : okT maxLen t) :
    Calls Tryz.prog 49 #[.pointer (some ⟨b, off, none⟩), .slice P L.length cp] w (findPost n₀ w t L b off) := by
  have H0 : Hid (FInv n₀ w t L b off 0 (.pointer (some ⟨b, off, none⟩))) := ⟨b, off, t, rfl, Nat.zero_le _, ht, rfl, hok, fun _ _ h => h⟩
  have HP := Lib.hid hp
  unfold maxLen at hl
  clear ht hp hok
  go_enter Tryz.func49, Tryz.ntmps49
  go_wp2_with fail
  go_loopw [9, 0] (fun y p wr => ∃ k : Nat, y = .int .i64 k ∧ FInv n₀ w t L b off k p ∧ wr = w) (fun y _ _ => L.length - (intOf y).toNat)
  case atStart => exact ⟨0, rfl, H0.out, rfl⟩
  case round =>
    clear H0
    obtain ⟨k, rfl, ⟨b', off', u, rfl, hk, ⟨A, c, t0, t1, t2, hrep⟩, hsub, hoku, hloc⟩, rfl⟩ := hrel
    have HSUB := Lib.hid hsub
    have HLOC := Lib.hid hloc
    have HT2 := Lib.hid t2
    clear hloc
    have HREP := Lib.hid hrep
    have HOKU := Lib.hid hoku
    have hlu := hoku.len
    unfold maxLen at hlu
    by_cases hlt : k < L.length
    · obtain ⟨x, hx⟩ : ∃ x, L[k]? = some x := ⟨L[k]'hlt, List.getElem?_eq_getElem _⟩
      obtain ⟨pb, po, rfl, hpb, hc⟩ := HP.out (by omega)
      have y := hc k x hx
      have hd : L.drop k = x :: L.drop (k + 1) := by
        obtain ⟨h1, e1⟩ := List.getElem?_eq_some_iff.1 hx
        rw [List.drop_eq_getElem_cons h1, e1]
      have HD := Lib.hid hd
      have hI : (k : Int) < (L.length : Int) := by omega
      clear hc hx hd hsub hrep hoku
      by_cases hneg : x < 0
      · have hb1 : decide (x < 0) = true := decide_eq_true hneg
        have HN := Lib.hid hneg
        clear hneg
        go_wp2_with fail
        go_ret
        refine ⟨?_, rfl⟩
        rw [HSUB.out, HD.out, subAt, if_pos (.inl HN.out)]; rfl
      · have hb1 : decide (x < 0) = false := decide_eq_false hneg
        by_cases hge : (u.ks.length : Int) ≤ x
        · have hb2 : decide ((u.ks.length : Int) ≤ x) = true := decide_eq_true hge
          have HG := Lib.hid hge
          clear hge hneg
          go_wp2_with fail
          go_ret
          refine ⟨?_, rfl⟩
          rw [HSUB.out, HD.out, subAt, if_pos (.inr HG.out)]; rfl
        · have hb2 : decide ((u.ks.length : Int) ≤ x) = false := decide_eq_false hge
          obtain ⟨n, rfl⟩ : ∃ n : Nat, x = (n : Int) := ⟨x.toNat, by omega⟩
          have hn : n < u.ks.length := by omega
          obtain ⟨kk, hkk⟩ : ∃ kk, u.ks[n]? = some kk := ⟨u.ks[n]'hn, List.getElem?_eq_getElem _⟩
          obtain ⟨tb, to, A', c', rfl, htb, v0, v1, v2, hrk⟩ := HREP.out.kid (i := n) hkk
          have HT : Hid (TAt n₀ wr tb (to + n * 3) kk) := ⟨A', c', v0, v1, v2, hrk⟩
          have HKK := Lib.hid hkk
          have hIn : (n : Int) < (u.ks.length : Int) := by omega
          have HNE := Lib.hid (show ¬ ((n : Int) < 0 ∨ (u.ks.length : Int) ≤ (n : Int)) from fun h => by omega)
          clear hkk hrk hneg hge v0 v1 v2
          go_wp2_with fail
          go_roundw
          case rel =>
            refine ⟨k + 1, by go_num, ⟨tb, to + n * 3, kk, rfl, by omega, HT.out, ?_, HOKU.out.kid (List.mem_of_getElem? HKK.out), fun b2 o2 h2 => HLOC.out b2 o2 (by rw [HD.out]; exact Loc.step HT2.out h2)⟩, by trivial⟩
            rw [HSUB.out, HD.out, subAt, if_neg HNE.out]
            simp only [Int.toNat_natCast, HKK.out]
          case measure => simp [intOf]; omega
    · have hkl : k = L.length := by omega
      have HKL := Lib.hid hkl
      have hI : ¬ (k : Int) < (L.length : Int) := by omega
      have HT : Hid (TAt n₀ wr b' off' u) := ⟨A, c, t0, t1, t2, hrep⟩
      clear hkl hsub hrep hoku t0 t1 t2
      go_wp2_with fail
      go_ret
      have hl2 : Loc wr L b off b' off' := HLOC.out _ _ (by rw [HKL.out, List.drop_length]; exact ⟨rfl, rfl⟩)
      refine ⟨?_, rfl⟩
      rw [HSUB.out, HKL.out, List.drop_length, subAt]
      exact ⟨_, _, rfl, HT.out, HOKU.out, hl2⟩

theorem Tryz.infoTerm : (Tryz.prog.info? 28).map (fun i => (i.zero, i.size, i.bytes)) = some (some (.agg #[.string ⟨#[]⟩, .string ⟨#[]⟩, .slice none 0 0]), 3, 56) := by kernel_rfl
/-- A term whose parts lie in blocks of their own from lo on, below hi. -/
inductive TOwn (w : World) : Nat → Nat → Tm → Option Addr → Prop
  | mk (lo hi : Nat) (nm st : ByteArray) (ks : List Tm) (A : Option Addr) (b : Nat) (ls : Nat → Nat) (al : Nat → Option Addr) (cs : Nat → Nat)
    (hA : 0 < ks.length → A = some ⟨b, 0, none⟩ ∧ lo ≤ b ∧ b < ls 0 ∧ ls ks.length ≤ hi)
    (hb : 0 < ks.length → ∃ cur, w.heap[b]? = some (.cells cur 28 (0, 0)))
    (h0 : ∀ i k, ks[i]? = some k → w.cell? ⟨b, i * 3, none⟩ = some (.string k.nm))
    (h1 : ∀ i k, ks[i]? = some k → w.cell? ⟨b, i * 3 + 1, none⟩ = some (.string k.st))
    (h2 : ∀ i k, ks[i]? = some k → w.cell? ⟨b, i * 3 + 2, none⟩ = some (.slice (al i) k.ks.length (cs i)))
    (hl : ∀ i, i < ks.length → ls i ≤ ls (i + 1))
    (hr : ∀ i k, ks[i]? = some k → TOwn w (ls i) (ls (i + 1)) k (al i)) : TOwn w lo hi (.mk nm st ks) A
theorem TOwn.leaf (w : World) (lo hi : Nat) (t : Tm) (A : Option Addr) (h : t.ks = []) : TOwn w lo hi t A := by
  cases t with
  | mk nm st ks =>
    have e : ks = [] := h
    subst e
    exact .mk lo hi nm st [] A 0 (fun _ => 0) (fun _ => none) (fun _ => 0) (fun h => absurd h (by simp)) (fun h => absurd h (by simp)) (fun i k h => by simp at h) (fun i k h => by simp at h) (fun i k h => by simp at h) (fun i h => absurd h (by simp)) (fun i k h => by simp at h)
theorem TOwn.widen {w : World} {lo hi lo' hi' : Nat} {t : Tm} {A : Option Addr} (h : TOwn w lo hi t A) (h1 : lo' ≤ lo) (h2 : hi ≤ hi') : TOwn w lo' hi' t A := by
  cases h with
  | mk _ _ nm st ks A b ls al cs hA hb c0 c1 c2 hl hr =>
    exact .mk lo' hi' nm st ks A b ls al cs (fun h => ⟨(hA h).1, Nat.le_trans h1 (hA h).2.1, (hA h).2.2.1, Nat.le_trans (hA h).2.2.2 h2⟩) hb c0 c1 c2 hl hr
theorem mono_ls {ls : Nat → Nat} {n : Nat} (hl : ∀ i, i < n → ls i ≤ ls (i + 1)) : ∀ i j, i ≤ j → j ≤ n → ls i ≤ ls j := by
  intro i j hij
  induction hij with
  | refl => intro _; exact Nat.le_refl _
  | step h ih => intro hn; exact Nat.le_trans (ih (by omega)) (hl _ (by omega))
/-- It is a term in memory. -/
theorem TOwn.rep {w : World} {lo hi : Nat} {t : Tm} {A : Option Addr} (h : TOwn w lo hi t A) : TRep hi w t A := by
  induction h with
  | mk lo hi nm st ks A b ls al cs hA hb h0 h1 h2 hl hr ih =>
    refine .mk nm st ks A b 0 al cs (fun h => ?_) (fun i k hi => by rw [show 0 + i * 3 = i * 3 by omega]; exact h0 i k hi) (fun i k hi => by rw [show 0 + i * 3 = i * 3 by omega]; exact h1 i k hi) (fun i k hi => by rw [show 0 + i * 3 = i * 3 by omega]; exact h2 i k hi) (fun i k hi => ?_)
    · obtain ⟨e1, e2, e3, e4⟩ := hA h
      have := mono_ls hl 0 ks.length (Nat.zero_le _) (Nat.le_refl _)
      exact ⟨e1, by omega⟩
    · have hlt := (List.getElem?_eq_some_iff.1 hi).1
      obtain ⟨e1, e2, e3, e4⟩ := hA (by omega)
      have := mono_ls hl (i + 1) ks.length (by omega) (Nat.le_refl _)
      exact (ih i k hi).mono (by omega)
/-- What is written elsewhere leaves it as it is. -/
theorem TOwn.keep {w w' : World} {lo hi : Nat} {t : Tm} {A : Option Addr} (h : TOwn w lo hi t A) (hk : ∀ i, lo ≤ i → i < hi → w'.heap[i]? = w.heap[i]?) : TOwn w' lo hi t A := by
  induction h with
  | mk lo hi nm st ks A b ls al cs hA hb h0 h1 h2 hl hr ih =>
    have hbk : 0 < ks.length → w'.heap[b]? = w.heap[b]? := fun h => by
      obtain ⟨e1, e2, e3, e4⟩ := hA h
      have := mono_ls hl 0 ks.length (Nat.zero_le _) (Nat.le_refl _)
      exact hk b e2 (by omega)
    have hc : ∀ i k o, ks[i]? = some k → w'.cell? ⟨b, o, none⟩ = w.cell? ⟨b, o, none⟩ := fun i k o hi => World.cell?_of_block (hbk (by have := (List.getElem?_eq_some_iff.1 hi).1; omega))
    refine .mk lo hi nm st ks A b ls al cs hA (fun h => by rw [hbk h]; exact hb h) (fun i k hi => (hc i k _ hi).trans (h0 i k hi)) (fun i k hi => (hc i k _ hi).trans (h1 i k hi)) (fun i k hi => (hc i k _ hi).trans (h2 i k hi)) hl (fun i k hi => ih i k hi (fun j h1 h2 => ?_))
    have hlt := (List.getElem?_eq_some_iff.1 hi).1
    obtain ⟨e1, e2, e3, e4⟩ := hA (by omega)
    have m1 := mono_ls hl 0 i (Nat.zero_le _) (by omega)
    have m2 := mono_ls hl (i + 1) ks.length (by omega) (Nat.le_refl _)
    exact hk j (by omega) (by omega)

/-- What copied keeps at the head of its loop, k parts being copied. -/
def CpI (t : Tm) (A : Option Addr) (c : Nat) (w : World) (k : Nat) (wr : World) : Prop :=
  ∃ (xs : List Value) (ls : Nat → Nat) (al : Nat → Option Addr) (cs : Nat → Nat),
    k ≤ t.ks.length ∧ Below w.heap.size w wr ∧
    wr.heap[w.heap.size]? = some (.cells (tcells t A c) 28 (0, 0)) ∧
    wr.heap[w.heap.size + 1]? = some (.cells #[.string ⟨#[]⟩, .string ⟨#[]⟩, .slice none 0 0] 28 (0, 0)) ∧
    wr.heap[w.heap.size + 1 + 1]? = some (.cells #[.string t.nm, .string t.st, .slice (some ⟨w.heap.size + 1 + 1 + 1, 0, none⟩) t.ks.length t.ks.length] 28 (0, 0)) ∧
    wr.ownsRow (w.heap.size + 1 + 1 + 1) 28 3 (.slice (some ⟨w.heap.size + 1 + 1 + 1, 0, none⟩) t.ks.length t.ks.length) t.ks.length xs ∧
    (∀ i kk, i < k → t.ks[i]? = some kk → xs[i * 3]? = some (.string kk.nm) ∧ xs[i * 3 + 1]? = some (.string kk.st) ∧ xs[i * 3 + 2]? = some (.slice (al i) kk.ks.length (cs i)) ∧ TOwn wr (ls i) (ls (i + 1)) kk (al i)) ∧
    (∀ i, i < k → ls i ≤ ls (i + 1)) ∧ w.heap.size + 4 ≤ ls 0 ∧ ls k ≤ wr.heap.size
theorem set3_self {xs : List Value} {k : Nat} {v0 v1 v2 : Value} (h : k * 3 + 2 < xs.length) :
    (((xs.set (k * 3) v0).set (k * 3 + 1) v1).set (k * 3 + 2) v2)[k * 3]? = some v0 ∧ (((xs.set (k * 3) v0).set (k * 3 + 1) v1).set (k * 3 + 2) v2)[k * 3 + 1]? = some v1 ∧ (((xs.set (k * 3) v0).set (k * 3 + 1) v1).set (k * 3 + 2) v2)[k * 3 + 2]? = some v2 := by
  refine ⟨?_, ?_, ?_⟩
  · rw [List.getElem?_set_ne (by omega), List.getElem?_set_ne (by omega), List.getElem?_set_self (by omega)]
  · rw [List.getElem?_set_ne (by omega), List.getElem?_set_self (by rw [List.length_set]; omega)]
  · rw [List.getElem?_set_self (by rw [List.length_set, List.length_set]; omega)]
theorem set3_other {xs : List Value} {k j : Nat} {v0 v1 v2 : Value} (h : j < k * 3 ∨ k * 3 + 2 < j) : (((xs.set (k * 3) v0).set (k * 3 + 1) v1).set (k * 3 + 2) v2)[j]? = xs[j]? := by
  rw [List.getElem?_set_ne (by omega), List.getElem?_set_ne (by omega), List.getElem?_set_ne (by omega)]
theorem set3_heap (w : World) (b o : Nat) (v0 v1 v2 : Value) (i : Nat) (h : i ≠ b) : (((w.setCell ⟨b, o, none⟩ v0).setCell ⟨b, o + 1, none⟩ v1).setCell ⟨b, o + 2, none⟩ v2).heap[i]? = w.heap[i]? :=
  (Below.heap_setCell _ _ _ i h).trans ((Below.heap_setCell _ _ _ i h).trans (Below.heap_setCell _ _ _ i h))
theorem set3_below {n : Nat} {w w' : World} (hb : Below n w w') (b o : Nat) (v0 v1 v2 : Value) (h : n ≤ b) : Below n w (((w'.setCell ⟨b, o, none⟩ v0).setCell ⟨b, o + 1, none⟩ v1).setCell ⟨b, o + 2, none⟩ v2) :=
  ((hb.setCell (p := ⟨b, o, none⟩) h v0).setCell (p := ⟨b, o + 1, none⟩) h v1).setCell (p := ⟨b, o + 2, none⟩) h v2
theorem CpI.step {t : Tm} {A : Option Addr} {c : Nat} {w : World} {k : Nat} {wr w5 : World} {kk : Tm} {A5 : Option Addr} {c5 : Nat} (h : CpI t A c w k wr) (hkk : t.ks[k]? = some kk) (hb5 : Below wr.heap.size wr w5) (ho5 : TOwn w5 wr.heap.size w5.heap.size kk A5) :
    CpI t A c w (k + 1) (((w5.setCell ⟨w.heap.size + 1 + 1 + 1, k * 3, none⟩ (.string kk.nm)).setCell ⟨w.heap.size + 1 + 1 + 1, k * 3 + 1, none⟩ (.string kk.st)).setCell ⟨w.heap.size + 1 + 1 + 1, k * 3 + 2, none⟩ (.slice A5 kk.ks.length c5)) := by
  obtain ⟨xs, ls, al, cs, hk, hbw, hbt, hbr, hbR, hown, hdone, hmono, hls0, hlsk⟩ := h
  have hlt := (List.getElem?_eq_some_iff.1 hkk).1
  have ho := own_below hown hb5
  have hxl := hown.1
  have hl3 : w.heap.size + 1 + 1 + 1 < wr.heap.size := (hown.lt _ rfl).2
  have hs5 := hb5.size
  have s1 := (ho.stored (k * 3) (.string kk.nm)).1
  have s2 := (s1.stored (k * 3 + 1) (.string kk.st)).1
  have s3 := (s2.stored (k * 3 + 2) (.slice A5 kk.ks.length c5)).1
  have hh : ∀ i, i ≠ w.heap.size + 1 + 1 + 1 → (((w5.setCell ⟨w.heap.size + 1 + 1 + 1, k * 3, none⟩ (.string kk.nm)).setCell ⟨w.heap.size + 1 + 1 + 1, k * 3 + 1, none⟩ (.string kk.st)).setCell ⟨w.heap.size + 1 + 1 + 1, k * 3 + 2, none⟩ (.slice A5 kk.ks.length c5)).heap[i]? = w5.heap[i]? := fun i hi => set3_heap _ _ _ _ _ _ i hi
  refine ⟨_, fun i => if i ≤ k then ls i else w5.heap.size, fun i => if i = k then A5 else al i, fun i => if i = k then c5 else cs i, by omega, set3_below (hbw.trans (hb5.mono hbw.size)) _ _ _ _ _ (by omega), (hh _ (by omega)).trans (cells_below hbt hb5), (hh _ (by omega)).trans (cells_below hbr hb5), (hh _ (by omega)).trans (cells_below hbR hb5), s3, ?_, ?_, ?_, ?_⟩
  · intro i kk' hi hk'
    by_cases he : i = k
    · subst he
      rw [hkk] at hk'
      injection hk' with e
      subst e
      have e3 := set3_self (xs := xs) (k := i) (v0 := .string kk.nm) (v1 := .string kk.st) (v2 := .slice A5 kk.ks.length c5) (by omega)
      simp only [if_true, Nat.le_refl, show ¬ i + 1 ≤ i by omega, if_false]
      refine ⟨e3.1, e3.2.1, e3.2.2, ?_⟩
      exact (ho5.keep (fun j h1 h2 => hh j (by omega))).widen hlsk (Nat.le_refl _)
    · obtain ⟨d0, d1, d2, d3⟩ := hdone i kk' (by omega) hk'
      have hm1 := mono_ls (n := k) hmono 0 i (Nat.zero_le _) (by omega)
      have hm2 := mono_ls (n := k) hmono (i + 1) k (by omega) (Nat.le_refl _)
      simp only [if_neg he, show i ≤ k by omega, show i + 1 ≤ k by omega, if_true]
      refine ⟨(set3_other (by omega)).trans d0, (set3_other (by omega)).trans d1, (set3_other (by omega)).trans d2, d3.keep (fun j h1 h2 => ?_)⟩
      exact (hh j (by omega)).trans (hb5.block j (by omega))
  · intro i hi
    by_cases he : i = k
    · subst he
      simp only [Nat.le_refl, if_true, show ¬ i + 1 ≤ i by omega, if_false]
      omega
    · simp only [show i ≤ k by omega, show i + 1 ≤ k by omega, if_true]
      exact hmono i (by omega)
  · simp only [Nat.zero_le, if_true]; exact hls0
  · simp only [show ¬ k + 1 ≤ k by omega, if_false, World.size_setCell]; exact Nat.le_refl _
/-- All parts are copied. -/
theorem CpI.done {t : Tm} {A : Option Addr} {c : Nat} {w wr : World} (h : CpI t A c w t.ks.length wr) (v0 v1 v2 : Value) :
    TOwn (((wr.setCell ⟨w.heap.size + 1, 0, none⟩ v0).setCell ⟨w.heap.size + 1, 1, none⟩ v1).setCell ⟨w.heap.size + 1, 2, none⟩ v2) w.heap.size (((wr.setCell ⟨w.heap.size + 1, 0, none⟩ v0).setCell ⟨w.heap.size + 1, 1, none⟩ v1).setCell ⟨w.heap.size + 1, 2, none⟩ v2).heap.size t (some ⟨w.heap.size + 1 + 1 + 1, 0, none⟩) := by
  obtain ⟨xs, ls, al, cs, hk, hbw, hbt, hbr, hbR, hown, hdone, hmono, hls0, hlsk⟩ := h
  have hxl := hown.1
  have ho := ownsRow_setCell_below (ownsRow_setCell_below (ownsRow_setCell_below hown (a := ⟨w.heap.size + 1, 0, none⟩) (by simp) v0) (a := ⟨w.heap.size + 1, 1, none⟩) (by simp) v1) (a := ⟨w.heap.size + 1, 2, none⟩) (by simp) v2
  have hh : ∀ i, i ≠ w.heap.size + 1 → (((wr.setCell ⟨w.heap.size + 1, 0, none⟩ v0).setCell ⟨w.heap.size + 1, 1, none⟩ v1).setCell ⟨w.heap.size + 1, 2, none⟩ v2).heap[i]? = wr.heap[i]? := fun i hi => set3_heap _ _ 0 _ _ _ i hi
  cases t with
  | mk nm st ks =>
    dsimp only [Tm.ks_mk] at hown hdone hmono hlsk hxl ho ⊢
    refine .mk _ _ nm st ks _ (w.heap.size + 1 + 1 + 1) ls al cs (fun _ => ⟨rfl, by omega, by omega, by simpa using hlsk⟩) (fun _ => ?_) (fun i k hi => ?_) (fun i k hi => ?_) (fun i k hi => ?_) hmono (fun i k hi => ?_)
    · rcases ho.2 with ⟨h', _⟩ | ⟨g', cap', cur, h', _, hg, _⟩
      · simp at h'
      · simp only [Value.slice.injEq, Option.some.injEq, Addr.mk.injEq, and_true, true_and] at h'
        obtain ⟨rfl, rfl⟩ := h'
        exact ⟨cur, hg⟩
    · have hlt := (List.getElem?_eq_some_iff.1 hi).1
      exact (ho.cellAt (i * 3) (by omega)).trans (hdone i k hlt hi).1
    · have hlt := (List.getElem?_eq_some_iff.1 hi).1
      exact (ho.cellAt (i * 3 + 1) (by omega)).trans (hdone i k hlt hi).2.1
    · have hlt := (List.getElem?_eq_some_iff.1 hi).1
      exact (ho.cellAt (i * 3 + 2) (by omega)).trans (hdone i k hlt hi).2.2.1
    · have hlt := (List.getElem?_eq_some_iff.1 hi).1
      have hm1 := mono_ls hmono 0 i (Nat.zero_le _) (by omega)
      exact (hdone i k hlt hi).2.2.2.keep (fun j h1 h2 => hh j (by omega))
/-- What copied hands back. -/
def copyPost (t : Tm) (w : World) (e : Ending) (w' : World) : Prop :=
  (∃ A' c', e = .returned (TV t A' c') ∧ TOwn w' w.heap.size w'.heap.size t A') ∧ Below w.heap.size w w'

set_option maxHeartbeats 4000000 in
theorem termCopied_any (t : Tm) : ∀ (A : Option Addr) (c n₀ : Nat) (w : World), TRep n₀ w t A → n₀ ≤ w.heap.size → okT 1000000 t →
    Calls Tryz.prog 50 #[TV t A c] w (copyPost t w) := by
  induction t using Tm.ind with
  | h nm st ks ih =>
    intro A c n₀ w hrep hn hok
    have hlk := hok.len
    have HIH := Lib.hid ih
    have HREP := Lib.hid hrep
    have HOK := Lib.hid hok
    obtain ⟨i0, hi, hz0, hz1, hz2⟩ := info_parts Tryz.infoTerm
    clear ih hrep hok
    unfold TV
    dsimp only [Tm.nm_mk, Tm.st_mk, Tm.ks_mk] at hlk ⊢
    by_cases h0 : ks.length = 0
    · have hb1 : ((ks.length : Int) == 0) = true := by rw [h0]; rfl
      have hb2 : (ks.length == 0) = true := by rw [h0]; rfl
      have hk0 : ks = [] := List.eq_nil_of_length_eq_zero h0
      have HK0 := Lib.hid hk0
      have H00 := Lib.hid h0
      clear h0 hk0
      go_enter Tryz.func50, Tryz.ntmps50
      go_wp2_with fail
      refine bodyPost_ret (v := .agg #[.string nm, .string st, .slice none 0 0]) (by simp [results, Tryz.results50, go_sem]) rfl ?_
      refine ⟨⟨none, 0, ?_, TOwn.leaf _ _ _ _ _ HK0.out⟩, (((Below.refl _ _).alloc (Nat.le_refl _) _).alloc (by simp) _).alloc (by simp; omega) _⟩
      unfold TV
      dsimp only [Tm.nm_mk, Tm.st_mk, Tm.ks_mk]
      rw [H00.out]
    · have hb1 : ((ks.length : Int) == 0) = false := beq_eq_false_iff_ne.2 (by omega)
      have hb2 : (ks.length == 0) = false := beq_eq_false_iff_ne.2 (by omega)
      go_enter Tryz.func50, Tryz.ntmps50
      go_wp2_with (at_make; refine wpList_make_full _ rfl _ _ 26 rfl (w.heap.size + 1 + 1 + 1) 28 i0 _ 3 Tryz.underlying26 hi hz0 hz1 .i64 .i64 _ _ ks.length rfl rfl rfl rfl (by rw [hz2]; omega) (by unfold maxLen; omega) (by simp) ?_)
      intro w1 ho1 hg1
      have q0 := heap_alloc_new w (.cells (tcells (.mk nm st ks) A c) 28)
      have q1 := heap_alloc_new (w.alloc (.cells (tcells (.mk nm st ks) A c) 28)) (.cells #[.string ⟨#[]⟩, .string ⟨#[]⟩, .slice none 0 0] 28)
      have q2 := heap_alloc_new ((w.alloc (.cells (tcells (.mk nm st ks) A c) 28)).alloc (.cells #[.string ⟨#[]⟩, .string ⟨#[]⟩, .slice none 0 0] 28)) (.cells #[.string nm, .string st, .slice none 0 0] 28)
      simp only [World.size_alloc] at q1 q2
      replace q0 := (hg1.block w.heap.size (by simp; omega) (by simp)).trans ((Below.heap_alloc _ _ _ (by simp; omega)).trans ((Below.heap_alloc _ _ _ (by simp)).trans q0))
      replace q1 := (hg1.block (w.heap.size + 1) (by simp) (by simp)).trans ((Below.heap_alloc _ _ _ (by simp)).trans q1)
      replace q2 := (hg1.block (w.heap.size + 1 + 1) (by simp) (by simp)).trans q2
      have hs1 := (ho1.lt _ rfl).2
      have hB1 : Below w.heap.size w w1 := ((((Below.refl w.heap.size w).alloc (Nat.le_refl _) _).alloc (by simp) _).alloc (by simp; omega) _).grown hg1 (by simp; omega) (fun k e => by cases e)
      have HB1 := Lib.hid hB1
      have HO1 := Lib.hid ho1
      have HQ0 := Lib.hid q0
      have HQ1 := Lib.hid q1
      have HQ2 := Lib.hid q2
      obtain ⟨⟨x0, x1, x2⟩, _⟩ := blk3 q0
      obtain ⟨⟨r0, r1, r2⟩, _, _, rf2⟩ := blk3 q2
      dsimp only [Tm.nm_mk, Tm.st_mk, Tm.ks_mk] at x0 x1 x2
      clear q0 q1 q2 hB1 ho1 hg1
      go_wp2_with fail
      go_loopw [23] (fun y wr => ∃ k : Nat, y = .int .i64 k ∧ CpI (.mk nm st ks) A c w k wr) (fun y _ => ks.length - (intOf y).toNat)
      case atStart =>
        refine ⟨0, rfl, _, fun _ => w.heap.size + 4, fun _ => none, fun _ => 0, Nat.zero_le _, ?_, ?_, ?_, ?_, ownsRow_setCell_below HO1.out (by simp) _, fun i kk h => absurd h (by omega), fun i h => absurd h (by omega), Nat.le_refl _, ?_⟩
        · exact HB1.out.setCell (p := ⟨w.heap.size + 1 + 1, 2, none⟩) (by show w.heap.size ≤ w.heap.size + 1 + 1; omega) _
        · exact (Below.heap_setCell _ _ _ _ (by simp; omega)).trans HQ0.out
        · exact (Below.heap_setCell _ _ _ _ (by simp)).trans HQ1.out
        · exact heap_setCell_same w1 (w.heap.size + 1 + 1) 2 _ _ _ HQ2.out
        · simp; omega
      case round =>
        clear HB1 HO1 HQ0 HQ1 HQ2 hs1
        obtain ⟨k, rfl, hcpi⟩ := hrel
        have HCPI := Lib.hid hcpi
        obtain ⟨xs, ls, al, cs, hk, hbw, hbt, hbr, hbR, hown, hdone, hmono, hls0, hlsk⟩ := hcpi
        dsimp only [Tm.nm_mk, Tm.st_mk, Tm.ks_mk] at hk hbR hown hdone
        have HBW := Lib.hid hbw
        have HBT := Lib.hid hbt
        have HBr := Lib.hid hbr
        have HBR := Lib.hid hbR
        have HOWN := Lib.hid hown
        have HDONE := Lib.hid hdone
        have HMONO := Lib.hid hmono
        have hws := hbw.size
        have hlR := (Array.getElem?_eq_some_iff.1 hbR).1
        have hl3 := (hown.lt _ rfl).2
        have hxl := hown.1
        by_cases hlt : k < ks.length
        · obtain ⟨kk, hkk⟩ : ∃ kk, ks[k]? = some kk := ⟨ks[k]'hlt, List.getElem?_eq_getElem _⟩
          have hmem : kk ∈ ks := List.mem_of_getElem? hkk
          obtain ⟨tb, to, A1, c1, rfl, htb, u0, u1, u2, hrk⟩ := HREP.out.kid (i := k) hkk
          have hbn := hbw.mono hn
          replace u0 := (hbn.cell (p := ⟨tb, _, none⟩) htb).trans u0
          replace u1 := (hbn.cell (p := ⟨tb, _, none⟩) htb).trans u1
          replace u2 := (hbn.cell (p := ⟨tb, _, none⟩) htb).trans u2
          obtain ⟨⟨x0, x1, x2⟩, _⟩ := blk3 hbt
          obtain ⟨⟨r0, r1, r2⟩, _⟩ := blk3 hbR
          dsimp only [Tm.nm_mk, Tm.st_mk, Tm.ks_mk] at x0 x1 x2
          have HC := Lib.hid (HIH.out kk hmem A1 c1 n₀ wr.drew (hrk.later hbn.drew) (by simp; omega) (HOK.out.kid hmem))
          have hfact : ∀ w5 : World, Below wr.drew.heap.size wr.drew w5 → w5.cell? ⟨w.heap.size + 1 + 1, 2, none⟩ = some (.slice (some ⟨w.heap.size + 1 + 1 + 1, 0, none⟩) ks.length ks.length) ∧
              (∃ z0 z1 z2, w5.cell? ⟨w.heap.size + 1 + 1 + 1, k * 3, none⟩ = some z0 ∧ w5.cell? ⟨w.heap.size + 1 + 1 + 1, k * 3 + 1, none⟩ = some z1 ∧ w5.cell? ⟨w.heap.size + 1 + 1 + 1, k * 3 + 2, none⟩ = some z2) ∧
              w5.frozen? ⟨w.heap.size + 1 + 1 + 1, k * 3, none⟩ = false ∧ w5.frozen? ⟨w.heap.size + 1 + 1 + 1, k * 3 + 1, none⟩ = false ∧ w5.frozen? ⟨w.heap.size + 1 + 1 + 1, k * 3 + 2, none⟩ = false := fun w5 hb5 => by
            have hb : Below wr.heap.size wr w5 := (Below.refl _ _).drew.trans hb5
            have ho := own_below HOWN.out hb
            refine ⟨(hb.cell (p := ⟨w.heap.size + 1 + 1, 2, none⟩) hlR).trans r2, ⟨_, _, _, (ho.cellAt (k * 3) (by omega)).trans (List.getElem?_eq_getElem (by omega)), (ho.cellAt (k * 3 + 1) (by omega)).trans (List.getElem?_eq_getElem (by omega)), (ho.cellAt (k * 3 + 2) (by omega)).trans (List.getElem?_eq_getElem (by omega))⟩, ho.frozenAt _, ho.frozenAt _, ho.frozenAt _⟩
          have HF := Lib.hid hfact
          have HKK := Lib.hid hkk
          have hI : (k : Int) < (ks.length : Int) := by omega
          clear hkk hrk hbn hbw hbt hbr hbR hown hdone hmono hfact
          go_wp2_with fail
          go_region_with (refine HC.out.mono ?_; rintro e w5 ⟨⟨A5, c5, rfl, ho5⟩, hb5⟩; obtain ⟨g0, ⟨z0, z1, z2, g1, g2, g3⟩, g4, g5, g6⟩ := HF.out w5 hb5; have HO5 := Lib.hid ho5; have HB5 := Lib.hid hb5; clear ho5 hb5; unfold TV)
          all_goals
            go_wp2_with fail
            go_roundw
            case rel => exact ⟨k + 1, by go_num, HCPI.out.step HKK.out ((Below.refl _ _).drew.trans HB5.out) HO5.out⟩
            case measure => simp [intOf]; omega
        · have hkl : k = ks.length := by omega
          have HKL := Lib.hid hkl
          have hI : ¬ (k : Int) < (ks.length : Int) := by omega
          obtain ⟨⟨r0, r1, r2⟩, _⟩ := blk3 hbR
          obtain ⟨⟨s0, s1, s2⟩, sf0, sf1, sf2⟩ := blk3 hbr
          clear hkl hbw hbt hbr hbR hown hdone hmono hlt hk
          go_wp2_with fail
          refine bodyPost_ret (v := .agg #[.string nm, .string st, .slice (some ⟨w.heap.size + 1 + 1 + 1, 0, none⟩) ks.length ks.length]) (by simp [results, Tryz.results50, go_sem, s0, s1, s2]) rfl ?_
          have hC := HCPI.out
          rw [HKL.out] at hC
          exact ⟨⟨some ⟨w.heap.size + 1 + 1 + 1, 0, none⟩, ks.length, rfl, hC.done _ _ _⟩, set3_below HBW.out (w.heap.size + 1) 0 _ _ _ (by omega)⟩

theorem subAt_ok {m : Nat} : ∀ (L : List Int) (t u : Tm), okT m t → subAt t L = some u → okT m u
  | [], t, u, h, e => by
    unfold subAt at e
    injection e with e
    exact e ▸ h
  | i :: is, t, u, h, e => by
    unfold subAt at e
    by_cases hi : i < 0 ∨ (t.ks.length : Int) ≤ i
    · rw [if_pos hi] at e; cases e
    · rw [if_neg hi] at e
      cases hk : t.ks[i.toNat]? with
      | none => rw [hk] at e; cases e
      | some k =>
        rw [hk] at e
        exact subAt_ok is k u (h.kid (List.mem_of_getElem? hk)) e
/-- The term that is returned with an error. -/
def TV0 : Value := .agg #[.string ⟨#[]⟩, .string ⟨#[]⟩, .slice none 0 0]
/-- What At hands back. -/
def atPost (t : Tm) (L : List Int) (w : World) (e : Ending) (w' : World) : Prop :=
  (if formed t = true then (match subAt t L with | none => e = .returned (.tuple #[TV0, .int .i64 2]) | some u => ∃ A' c', e = .returned (.tuple #[TV u A' c', .int .i64 0]) ∧ TOwn w' w.heap.size w'.heap.size u A') else e = .returned (.tuple #[TV0, .int .i64 1])) ∧ Below w.heap.size w w'

theorem atPost_bad {t : Tm} {L : List Int} {w w' : World} (h : formed t = false) (hb : Below w.heap.size w w') : atPost t L w (.returned (.tuple #[TV0, .int .i64 1])) w' := by
  unfold atPost; rw [h]; exact ⟨rfl, hb⟩
theorem atPost_none {t : Tm} {L : List Int} {w w' : World} (h : formed t = true) (hs : subAt t L = none) (hb : Below w.heap.size w w') : atPost t L w (.returned (.tuple #[TV0, .int .i64 2])) w' := by
  unfold atPost; rw [h, hs]; exact ⟨rfl, hb⟩
theorem atPost_some {t u : Tm} {L : List Int} {w w' : World} {A : Option Addr} {c : Nat} (h : formed t = true) (hs : subAt t L = some u) (ho : TOwn w' w.heap.size w'.heap.size u A) (hb : Below w.heap.size w w') : atPost t L w (.returned (.tuple #[TV u A c, .int .i64 0])) w' := by
  unfold atPost; rw [h, hs, if_pos rfl]; exact ⟨⟨A, c, rfl, ho⟩, hb⟩

set_option maxHeartbeats 2000000 in
theorem At_any (t : Tm) (A : Option Addr) (c : Nat) (P : Option Addr) (cp : Nat) (L : List Int) (w : World) (hrep : TRep w.heap.size w t A) (hp : SlI w.heap.size w P L) (hl : L.length ≤ maxLen) (hok : okT 1000000 t) (hdp : t.depth ≤ 140737488355326) :
    Calls Tryz.prog 22 #[TV t A c, .slice P L.length cp] w (atPost t L w) := by
  have HREP := Lib.hid hrep
  have HP := Lib.hid hp
  have HOK := Lib.hid hok
  have HOM := Lib.hid (hok.mono (m' := maxLen) (by unfold maxLen; omega))
  have HL := Lib.hid hl
  have hB0 := ((Below.refl w.heap.size w).alloc (Nat.le_refl _) (.cells (tcells t A c) 28)).alloc (by simp) (.cells #[.string ⟨#[]⟩, .string ⟨#[]⟩, .slice none 0 0] 28)
  have HB0 := Lib.hid hB0
  have q0 := (Below.heap_alloc _ (.cells #[.string ⟨#[]⟩, .string ⟨#[]⟩, .slice none 0 0] 28) _ (by simp)).trans (heap_alloc_new w (.cells (tcells t A c) 28))
  have q1 := heap_alloc_new (w.alloc (.cells (tcells t A c) 28)) (.cells #[.string ⟨#[]⟩, .string ⟨#[]⟩, .slice none 0 0] 28)
  simp only [World.size_alloc] at q1
  have HQ0 := Lib.hid q0
  have HQ1 := Lib.hid q1
  clear hrep hp hok hl hB0 q0 q1
  generalize hvt : formed t = vt
  have HVT := Lib.hid hvt
  unfold TV
  go_enter Tryz.func22, Tryz.ntmps22
  go_wp2_with fail
  refine (wellFormed_any t A c _ ((HREP.out.later HB0.out).mono HB0.out.size) HOM.out hdp).mono ?_
  rintro e w1 ⟨rfl, hb1⟩
  rw [hvt]
  clear hvt
  have hs1 := hb1.size
  simp at hs1
  have HB1 := Lib.hid (HB0.out.trans (hb1.mono HB0.out.size))
  have q0 := cells_below HQ0.out hb1
  have q1 := cells_below HQ1.out hb1
  obtain ⟨⟨x0, x1, x2⟩, _⟩ := blk3 q0
  obtain ⟨⟨r0, r1, r2⟩, _⟩ := blk3 q1
  have HQ2 := Lib.hid q1
  clear hb1 HQ1
  cases vt
  · clear q0 q1
    go_wp2_with fail
    refine bodyPost_ret (v := .tuple #[TV0, .int .i64 1]) (by simp [results, Tryz.results22, go_sem, r0, r1, r2, TV0]) rfl ?_
    exact atPost_bad HVT.out (set3_below HB1.out (w.heap.size + 1) 0 _ _ _ (by omega))
  · have HT : Hid (TAt w.heap.size w1 w.heap.size 0 t) := ⟨A, c, x0, x1, x2, HREP.out.later HB1.out⟩
    clear q0 q1
    go_wp2_with fail
    refine (find_any w.heap.size w1 t w.heap.size 0 P cp L HL.out HT.out (HP.out.later HB1.out) HOM.out).mono ?_
    rintro e w2 ⟨hf, rfl⟩
    cases hsub : subAt t L with
    | none =>
      rw [hsub] at hf
      simp only at hf
      subst hf
      have HSU := Lib.hid hsub
      clear hsub
      go_wp2_with fail
      refine bodyPost_ret (v := .tuple #[TV0, .int .i64 2]) (by simp [results, Tryz.results22, go_sem, r0, r1, r2, TV0]) rfl ?_
      exact atPost_none HVT.out HSU.out (set3_below HB1.out (w.heap.size + 1) 0 _ _ _ (by omega))
    | some u =>
      rw [hsub] at hf
      simp only at hf
      obtain ⟨b, off, rfl, ⟨A2, c2, u0, u1, u2, hru⟩, _⟩ := hf
      have HRU := Lib.hid hru
      have HSU := Lib.hid hsub
      clear hru hsub
      go_wp2_with fail
      refine (termCopied_any u A2 c2 w.heap.size _ HRU.out (by omega) (subAt_ok L t u HOK.out HSU.out)).mono ?_
      rintro e w3 ⟨⟨A3, c3, rfl, ho3⟩, hb3⟩
      have HO3 := Lib.hid ho3
      have HB3 := Lib.hid hb3
      obtain ⟨⟨s0, s1, s2⟩, _⟩ := blk3 (cells_below HQ2.out hb3)
      clear ho3 hb3 x0 x1 x2 r0 r1 r2 u0 u1 u2
      unfold TV
      go_wp2_with fail
      refine bodyPost_ret (v := .tuple #[TV u A3 c3, .int .i64 0]) (by simp [results, Tryz.results22, go_sem, s0, s1, s2, TV]) rfl ?_
      refine atPost_some HVT.out HSU.out ?_ (set3_below (HB1.out.trans (HB3.out.mono (by omega))) (w.heap.size + 1) 0 _ _ _ (by omega))
      exact (HO3.out.keep (fun j h1 h2 => set3_heap _ (w.heap.size + 1) 0 _ _ _ j (by omega))).widen (by omega) (by simp)
end Go.Proofs.YthbcfcbonmphfaaGreatDoor
