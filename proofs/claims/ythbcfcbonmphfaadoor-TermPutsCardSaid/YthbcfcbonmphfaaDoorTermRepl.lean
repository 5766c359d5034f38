/- Replace. -/
import Derived.Test.YthbcfcbonmphfaaDoorTermPut
namespace Go.Proofs.YthbcfcbonmphfaaDoor
open Go.RowKit Go.Shelf
set_option maxRecDepth 100000

/-- What Replace hands back. -/
def replPost (t : Tm) (L : List Int) (u : Tm) (w : World) (e : Ending) (w' : World) : Prop :=
  (if replCode t L u = 0 then ∃ A' c', e = .returned (.tuple #[TV (putAt t L u) A' c', .int .i64 0]) ∧ TRep w'.heap.size w' (putAt t L u) A' else e = .returned (.tuple #[TV0, .int .i64 (replCode t L u)])) ∧ Below w.heap.size w w'
theorem replPost_bad {t u : Tm} {L : List Int} {w w' : World} {k : Int} (h : replCode t L u = k) (hk : k ≠ 0) (hb : Below w.heap.size w w') : replPost t L u w (.returned (.tuple #[TV0, .int .i64 k])) w' := by
  unfold replPost; rw [h, if_neg hk]; exact ⟨rfl, hb⟩
theorem replPost_ok {t u : Tm} {L : List Int} {w w' : World} {A : Option Addr} {c : Nat} (h : replCode t L u = 0) (hr : TRep w'.heap.size w' (putAt t L u) A) (hb : Below w.heap.size w w') : replPost t L u w (.returned (.tuple #[TV (putAt t L u) A c, .int .i64 0])) w' := by
  unfold replPost; rw [if_pos h]; exact ⟨⟨A, c, rfl, hr⟩, hb⟩
theorem replPost_yes {t u : Tm} {L : List Int} {w w' : World} {e : Ending} (h : replPost t L u w e w') (hc : replCode t L u = 0) : (∃ A' c', e = .returned (.tuple #[TV (putAt t L u) A' c', .int .i64 0]) ∧ TRep w'.heap.size w' (putAt t L u) A') ∧ Below w.heap.size w w' := by
  unfold replPost at h; rw [if_pos hc] at h; exact h
theorem replPost_no {t u : Tm} {L : List Int} {w w' : World} {e : Ending} (h : replPost t L u w e w') (hc : replCode t L u ≠ 0) : e = .returned (.tuple #[TV0, .int .i64 (replCode t L u)]) ∧ Below w.heap.size w w' := by
  unfold replPost at h; rw [if_neg hc] at h; exact h

/-- The boxes of Replace. -/
structure RPW (t u : Tm) (A Au : Option Addr) (c cu : Nat) (w w' : World) : Prop where
  below : Below w.heap.size w w'
  bt : w'.heap[w.heap.size]? = some (.cells (tcells t A c) 56 (0, 0))
  bu : w'.heap[w.heap.size + 1]? = some (.cells (tcells u Au cu) 56 (0, 0))
  br : w'.heap[w.heap.size + 1 + 1]? = some (.cells #[.string ⟨#[]⟩, .string ⟨#[]⟩, .slice none 0 0] 56 (0, 0))
theorem RPW.next {t u : Tm} {A Au : Option Addr} {c cu : Nat} {w w1 w2 : World} (h : RPW t u A Au c cu w w1) (hb : Below w1.heap.size w1 w2) : RPW t u A Au c cu w w2 :=
  ⟨h.below.trans (hb.mono h.below.size), cells_below h.bt hb, cells_below h.bu hb, cells_below h.br hb⟩
theorem RPW.start (t u : Tm) (A Au : Option Addr) (c cu : Nat) (w : World) : RPW t u A Au c cu w (((w.alloc (.cells (tcells t A c) 56)).alloc (.cells (tcells u Au cu) 56)).alloc (.cells #[.string ⟨#[]⟩, .string ⟨#[]⟩, .slice none 0 0] 56)) := by
  have h1 := heap_alloc_new w (.cells (tcells t A c) 56)
  have h2 := heap_alloc_new (w.alloc (.cells (tcells t A c) 56)) (.cells (tcells u Au cu) 56)
  have h3 := heap_alloc_new ((w.alloc (.cells (tcells t A c) 56)).alloc (.cells (tcells u Au cu) 56)) (.cells #[.string ⟨#[]⟩, .string ⟨#[]⟩, .slice none 0 0] 56)
  simp only [World.size_alloc] at h2 h3
  exact ⟨(((Below.refl _ _).alloc (Nat.le_refl _) _).alloc (by simp) _).alloc (by simp; omega) _,
    (Below.heap_alloc _ _ _ (by simp; omega)).trans ((Below.heap_alloc _ _ _ (by simp)).trans h1),
    (Below.heap_alloc _ _ _ (by simp)).trans h2, h3⟩
theorem RPW.lt {t u : Tm} {A Au : Option Addr} {c cu : Nat} {w w1 : World} (h : RPW t u A Au c cu w w1) : w.heap.size + 3 ≤ w1.heap.size := by
  have := (Array.getElem?_eq_some_iff.1 h.br).1; omega
/-- Nothing of the boxes is written above them. -/
theorem RPW.set {t u : Tm} {A Au : Option Addr} {c cu : Nat} {w w1 : World} (h : RPW t u A Au c cu w w1) (b o : Nat) (v : Tm) (A5 : Option Addr) (c5 : Nat) (hb : w.heap.size + 3 ≤ b) : RPW t u A Au c cu w (put3 w1 b o v A5 c5) :=
  ⟨set3_below h.below b o _ _ _ (by omega), (put3_other _ _ _ _ _ _ _ (by omega)).trans h.bt, (put3_other _ _ _ _ _ _ _ (by omega)).trans h.bu, (put3_other _ _ _ _ _ _ _ (by omega)).trans h.br⟩

/-- The state behind the store. -/
theorem repl_store {t u s : Tm} {A Au A3 A5 : Option Addr} {c cu c3 c5 : Nat} {L : List Int} {w w3 W4 w5 : World} {b o : Nat} (hs : subAt t L = some s)
    (h3 : w.heap.size + 3 ≤ w3.heap.size) (hlo : ∃ lo, w.heap.size + 3 ≤ lo ∧ TOwn W4 lo w3.heap.size t A3) (h4 : RPW t u A Au c cu w W4) (hR : W4.heap[w3.heap.size]? = some (.cells (tcells t A3 c3) 56 (0, 0))) (hl : Loc W4 L w3.heap.size 0 b o)
    (hb5 : Below W4.heap.size W4 w5) (ho5 : TOwn w5 W4.heap.size w5.heap.size u A5) :
    (w.heap.size + 3 ≤ b ∧ b < W4.heap.size ∧ ∃ cur, W4.heap[b]? = some (.cells cur 56 (0, 0))) ∧
    RPW t u A Au c cu w (put3 w5 b o u A5 c5) ∧ ∃ AX cX, (put3 w5 b o u A5 c5).heap[w3.heap.size]? = some (.cells (tcells (putAt t L u) AX cX) 56 (0, 0)) ∧ TIn (fun i => w.heap.size + 3 ≤ i ∧ i < w5.heap.size) (put3 w5 b o u A5 c5) (putAt t L u) AX := by
  obtain ⟨lo, hlo1, hown⟩ := hlo
  have hRlt := (Array.getElem?_eq_some_iff.1 hR).1
  have hs5 := hb5.size
  have hu5 : ∀ b o, b < W4.heap.size → TIn (fun i => w.heap.size + 3 ≤ i ∧ i < w5.heap.size) (put3 w5 b o u A5 c5) u A5 := fun b o hb => (ho5.keep (fun j h1 h2 => put3_other w5 b o u A5 c5 j (by omega))).tin.mono (fun i hi => ⟨by omega, hi.2⟩)
  cases L with
  | nil =>
    obtain ⟨rfl, rfl⟩ := hl
    have hR5 := cells_below hR hb5
    refine ⟨⟨h3, hRlt, _, hR⟩, (h4.next hb5).set _ _ _ _ _ h3, A5, c5, ?_, by rw [putAt]; exact hu5 _ _ hRlt⟩
    rw [putAt, put3_cells (o := 0) hR5 u A5 c5]
    rfl
  | cons i is =>
    obtain ⟨g1, g2, g3, g4⟩ := hown.put (i :: is) s (by simp) hs w3.heap.size 0 t.ks.length c3 b o (by rw [cell_of_row _ _ _ _ _ (0, 0) hR]; rfl) hl
    refine ⟨⟨by omega, by omega, g3⟩, (h4.next hb5).set _ _ _ _ _ (by omega), A3, c3, ?_, ?_⟩
    · obtain ⟨e1, e2, e3⟩ := putAt_top u hs
      rw [put3_other _ _ _ _ _ _ _ (by omega), cells_below hR hb5]
      unfold tcells
      rw [e1, e2, e3]
    · exact g4 w5 (fun j h1 h2 => hb5.block j (by omega)) u A5 c5 _ (fun j h1 h2 => ⟨by omega, by omega⟩) (hu5 b o (by omega))

set_option maxHeartbeats 8000000 in
theorem Replace_any (t u : Tm) (A Au : Option Addr) (c cu : Nat) (P : Option Addr) (cp : Nat) (L : List Int) (w : World) (hrep : TRep w.heap.size w t A) (hru : TRep w.heap.size w u Au) (hp : SlI w.heap.size w P L) (hl : L.length ≤ maxLen) (hok : okT 1000000 t) (hou : okT 1000000 u)
    (hdp : t.depth ≤ 1000000) (hdu : u.depth ≤ 1000000) :
    Calls Tryd.prog 33 #[TV t A c, .slice P L.length cp, TV u Au cu] w (replPost t L u w) := by
  have HREP := Lib.hid hrep
  have HRU := Lib.hid hru
  have HP := Lib.hid hp
  have HOK := Lib.hid hok
  have HOU := Lib.hid hou
  have HOM := Lib.hid (hok.mono (m' := maxLen) (by unfold maxLen; omega))
  have HOUM := Lib.hid (hou.mono (m' := maxLen) (by unfold maxLen; omega))
  have HL := Lib.hid hl
  have H0 := Lib.hid (RPW.start t u A Au c cu w)
  clear hrep hru hp hok hou hl
  generalize hvt : formed t = vt
  have HVT := Lib.hid hvt
  unfold TV
  go_enter Tryd.func33, Tryd.ntmps33
  go_wp2_with fail
  refine (wellFormed_any t A c _ ((HREP.out.later H0.out.below).mono H0.out.below.size) HOM.out (by omega)).mono ?_
  rintro e w1 ⟨rfl, hb1⟩
  rw [hvt]
  clear hvt
  have H1 := Lib.hid (H0.out.next hb1)
  obtain ⟨⟨x0, x1, x2⟩, _⟩ := blk3 H1.out.bt
  obtain ⟨⟨y0, y1, y2⟩, _⟩ := blk3 H1.out.bu
  obtain ⟨⟨r0, r1, r2⟩, _⟩ := blk3 H1.out.br
  clear hb1 H0
  cases vt
  · go_wp2_with fail
    refine bodyPost_ret (v := .tuple #[TV0, .int .i64 1]) (by simp [results, Tryd.results33, go_sem, r0, r1, r2, TV0]) rfl ?_
    exact replPost_bad (repl_arg (fun h => by rw [HVT.out] at h; exact absurd h.1 (by decide))) (by decide) (set3_below H1.out.below (w.heap.size + 1 + 1) 0 _ _ _ (by omega))
  · generalize hvu : formed u = vu
    have HVU := Lib.hid hvu
    go_wp2_with fail
    refine (wellFormed_any u Au cu _ ((HRU.out.later H1.out.below).mono H1.out.below.size) HOUM.out (by omega)).mono ?_
    rintro e w2 ⟨rfl, hb2⟩
    rw [hvu]
    clear hvu
    have H2 := Lib.hid (H1.out.next hb2)
    clear hb2 x0 x1 x2 y0 y1 y2 r0 r1 r2
    obtain ⟨⟨x0, x1, x2⟩, _⟩ := blk3 H2.out.bt
    obtain ⟨⟨r0, r1, r2⟩, _⟩ := blk3 H2.out.br
    cases vu
    · go_wp2_with fail
      refine bodyPost_ret (v := .tuple #[TV0, .int .i64 1]) (by simp [results, Tryd.results33, go_sem, r0, r1, r2, TV0]) rfl ?_
      exact replPost_bad (repl_arg (fun h => by rw [HVU.out] at h; exact absurd h.2 (by decide))) (by decide) (set3_below H2.out.below (w.heap.size + 1 + 1) 0 _ _ _ (by omega))
    · go_wp2_with fail
      refine (termCopied_any t A c w2.heap.size w2 ((HREP.out.later H2.out.below).mono H2.out.below.size) (Nat.le_refl _) HOK.out).mono ?_
      rintro e w3 ⟨⟨A3, c3, rfl, ho3⟩, hb3⟩
      have H3 := Lib.hid (H2.out.next hb3)
      have hlt2 := H2.out.lt
      have hlt3 := H3.out.lt
      have hbA : Below w3.heap.size w3 (w3.alloc (.cells (tcells t A3 c3) 56)) := (Below.refl _ _).alloc (Nat.le_refl _) _
      have H4 := Lib.hid (H3.out.next hbA)
      have HR4 := Lib.hid (heap_alloc_new w3 (.cells (tcells t A3 c3) 56))
      have hlo : ∃ lo, w.heap.size + 3 ≤ lo ∧ TOwn (w3.alloc (.cells (tcells t A3 c3) 56)) lo w3.heap.size t A3 := ⟨w2.heap.size, hlt2, ho3.keep (fun i _ h => hbA.block i h)⟩
      have HLO := Lib.hid hlo
      have hs4 : (w3.alloc (.cells (tcells t A3 c3) 56)).heap.size = w3.heap.size + 1 := by simp
      clear hb3 ho3 hbA hlo x0 x1 x2 r0 r1 r2
      unfold TV
      go_upto_region 4 with fail
      generalize hW4 : w3.alloc (.cells (tcells t A3 c3) 56) = W4 at H4 HR4 HLO hs4 ⊢
      clear hW4
      obtain ⟨⟨x0, x1, x2⟩, _⟩ := blk3 HR4.out
      have hown := HLO.out
      have HT : Hid (TAt W4.heap.size W4 w3.heap.size 0 t) := by
        obtain ⟨lo, _, ho⟩ := hown
        exact ⟨A3, c3, x0, x1, x2, ho.rep.mono (by omega)⟩
      clear hown
      go_wp2_with fail
      refine (find_any W4.heap.size W4 t w3.heap.size 0 P cp L HL.out HT.out ((HP.out.later H4.out.below).mono H4.out.below.size) HOM.out).mono ?_
      rintro e w4 ⟨hf, rfl⟩
      have HS4 := Lib.hid hs4
      clear hs4 x0 x1 x2
      obtain ⟨⟨r0, r1, r2⟩, _⟩ := blk3 H4.out.br
      cases hsub : subAt t L with
      | none =>
        rw [hsub] at hf
        simp only at hf
        subst hf
        have HSU := Lib.hid hsub
        clear hsub
        go_wp2_with fail
        refine bodyPost_ret (v := .tuple #[TV0, .int .i64 2]) (by simp [results, Tryd.results33, go_sem, r0, r1, r2, TV0]) rfl ?_
        exact replPost_bad (repl_range ⟨HVT.out, HVU.out⟩ HSU.out) (by decide) (set3_below H4.out.below (w.heap.size + 1 + 1) 0 _ _ _ (by omega))
      | some s =>
        rw [hsub] at hf
        simp only at hf
        obtain ⟨b, o, rfl, ⟨A2, c2, u0, u1, u2, hru2⟩, _, hloc⟩ := hf
        have HSU := Lib.hid hsub
        have HLOC := Lib.hid hloc
        clear hsub hloc hru2
        obtain ⟨⟨y0, y1, y2⟩, _⟩ := blk3 H4.out.bu
        go_wp2_with fail
        refine (termCopied_any u Au cu w4.heap.size w4 ((HRU.out.later H4.out.below).mono H4.out.below.size) (Nat.le_refl _) HOU.out).mono ?_
        rintro e w5 ⟨⟨A5, c5, rfl, ho5⟩, hb5⟩
        obtain ⟨⟨k1, k2, cur, k3⟩, h6, AX, cX, hX, hin⟩ := repl_store (c5 := c5) HSU.out hlt3 HLO.out H4.out HR4.out HLOC.out hb5 ho5
        have H6 := Lib.hid h6
        have HX := Lib.hid hX
        have HIN := Lib.hid hin
        have hsz5 := hb5.size
        replace u0 := (hb5.cell (p := ⟨b, o, none⟩) k2).trans u0
        replace u1 := (hb5.cell (p := ⟨b, o + 1, none⟩) k2).trans u1
        replace u2 := (hb5.cell (p := ⟨b, o + 2, none⟩) k2).trans u2
        have k5 := cells_below k3 hb5
        have f0 : w5.frozen? ⟨b, o, none⟩ = false := by simp [World.frozen?, k5]
        have f1 : w5.frozen? ⟨b, o + 1, none⟩ = false := by simp [World.frozen?, k5]
        have f2 : w5.frozen? ⟨b, o + 2, none⟩ = false := by simp [World.frozen?, k5]
        clear ho5 hb5 h6 hX hin r0 r1 r2 y0 y1 y2 k3 k5 H4 HR4 HLO HT HLOC
        unfold TV
        go_upto_region 8 with fail
        generalize hW6 : ((w5.setCell ⟨b, o, none⟩ (.string u.nm)).setCell ⟨b, o + 1, none⟩ (.string u.st)).setCell ⟨b, o + 2, none⟩ (.slice A5 u.ks.length c5) = W6 at ⊢
        have e6 : put3 w5 b o u A5 c5 = W6 := hW6
        rw [e6] at H6 HX HIN
        have hs6 : w5.heap.size = W6.heap.size := by rw [← e6, put3_size]
        rw [hs6] at HIN
        clear hW6 e6 u0 u1 u2 f0 f1 f2
        obtain ⟨⟨x0, x1, x2⟩, _⟩ := blk3 HX.out
        have hokx := putAt_ok L t u HOM.out HOUM.out
        have HOX := Lib.hid hokx
        have hdx := putAt_depth L t u
        have HRX := Lib.hid (HIN.out.rep (n := W6.heap.size) (fun i h => h.2))
        clear hokx
        generalize hvf : fitsL ((putAt t L u).pre 1) = vf
        have HVF := Lib.hid hvf
        go_wp2_with fail
        refine (fits_any (putAt t L u) AX cX _ HRX.out HOX.out (by omega)).mono ?_
        rintro e w7 ⟨rfl, hb7⟩
        rw [hvf]
        clear hvf
        have H7 := Lib.hid (H6.out.next hb7)
        have HX7 := Lib.hid (cells_below HX.out hb7)
        have HIN7 := Lib.hid (HIN.out.keep (fun i h => hb7.block i h.2) (fun i h => h))
        have hs7 := hb7.size
        clear hb7 x0 x1 x2
        obtain ⟨⟨r0, r1, r2⟩, rf0, rf1, rf2⟩ := blk3 H7.out.br
        cases vf
        · go_wp2_with fail
          refine bodyPost_ret (v := .tuple #[TV0, .int .i64 4]) (by simp [results, Tryd.results33, go_sem, r0, r1, r2, TV0]) rfl ?_
          exact replPost_bad (repl_full ⟨HVT.out, HVU.out⟩ HSU.out HVF.out) (by decide) (set3_below H7.out.below (w.heap.size + 1 + 1) 0 _ _ _ (by omega))
        · obtain ⟨⟨x0, x1, x2⟩, _⟩ := blk3 HX7.out
          have hsz := fitsL_size HVF.out
          generalize hva : agreeL ((putAt t L u).pre 1) = va
          have HVA := Lib.hid hva
          have HRX7 := Lib.hid (HIN7.out.rep (n := w7.heap.size) (fun i h => by omega))
          go_wp2_with fail
          refine (varSorts_any (putAt t L u) AX cX _ HRX7.out HOX.out (by omega) (by omega)).mono ?_
          rintro e w8 ⟨⟨mm, rfl, _⟩, hb8⟩
          rw [hva]
          clear hva
          have H8 := Lib.hid (H7.out.next hb8)
          have HX8 := Lib.hid (cells_below HX7.out hb8)
          have HIN8 := Lib.hid (HIN7.out.keep (fun i h => hb8.block i (by omega)) (fun i h => h))
          have hs8 := hb8.size
          clear hb8 x0 x1 x2 r0 r1 r2 rf0 rf1 rf2
          obtain ⟨⟨r0, r1, r2⟩, rf0, rf1, rf2⟩ := blk3 H8.out.br
          obtain ⟨⟨x0, x1, x2⟩, _⟩ := blk3 HX8.out
          cases va
          · go_wp2_with fail
            refine bodyPost_ret (v := .tuple #[TV0, .int .i64 11]) (by simp [results, Tryd.results33, go_sem, r0, r1, r2, TV0]) rfl ?_
            exact replPost_bad (repl_type ⟨HVT.out, HVU.out⟩ HSU.out HVF.out HVA.out) (by decide) (set3_below H8.out.below (w.heap.size + 1 + 1) 0 _ _ _ (by omega))
          · go_wp2_with fail
            refine bodyPost_ret (v := .tuple #[TV (putAt t L u) AX cX, .int .i64 0]) (by simp [results, Tryd.results33, go_sem, r0, r1, r2, TV]) rfl ?_
            refine replPost_ok (repl_ok ⟨HVT.out, HVU.out⟩ HSU.out HVF.out HVA.out) ?_ (set3_below H8.out.below (w.heap.size + 1 + 1) 0 _ _ _ (by omega))
            exact (HIN8.out.keep (fun i h => set3_heap _ (w.heap.size + 1 + 1) 0 _ _ _ i (by omega)) (fun i h => h)).rep (fun i h => by simp; omega)
end Go.Proofs.YthbcfcbonmphfaaDoor
