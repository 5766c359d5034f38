/- Sort. -/
import Derived.Test.YthbcfcbonmphfaaDoorTermH
import Derived.Test.YthbcfcbonmphfaaDoorTermE
namespace Go.Proofs.YthbcfcbonmphfaaDoor
open Go.RowKit Go.Shelf
set_option maxRecDepth 100000
attribute [local go_sem] Oper.semAt_some

def sortRes (g : Sg) (t : Tm) : ByteArray × Int :=
  if validSg g && formed t then (match (t.pre 1).find? (fun x => decide (chk g x.2 ≠ 0)) with | some x => (⟨#[]⟩, chk g x.2) | none => ((ownS g.ops t).1, 0)) else (⟨#[]⟩, 1)
def lastChk (g : Sg) {n₀ : Nat} {W₀ : World} (pre : List (Nd n₀ W₀)) : Int := match pre.getLast? with | none => 0 | some x => chk g x.t

theorem FM.mono {n₀ n₁ : Nat} (hn : n₀ ≤ n₁) {w : World} {f : List UInt8 → Option Value} {L : List Dc} (h : FM n₀ w f L) : FM n₁ w f L := fun s =>
  ⟨(h s).1, fun d hd => by obtain ⟨A, c, h1, h2⟩ := (h s).2 d hd; exact ⟨A, c, h1, h2.mono hn⟩⟩
theorem lastChk_snoc (g : Sg) {n₀ : Nat} {W₀ : World} (pre : List (Nd n₀ W₀)) (x : Nd n₀ W₀) : lastChk g (pre ++ [x]) = chk g x.t := by
  unfold lastChk; simp

/-- What Sort keeps while it runs: its boxes. -/
structure SW (g : Sg) (A1 : Option Addr) (c1 : Nat) (A2 : Option Addr) (c2 : Nat) (t : Tm) (A : Option Addr) (c : Nat) (w w' : World) : Prop where
  below : Below w.heap.size w w'
  bs : w'.heap[w.heap.size]? = some (.cells (gcells g A1 c1 A2 c2) 82 (0, 0))
  bt : w'.heap[w.heap.size + 1]? = some (.cells (tcells t A c) 56 (0, 0))
  r1 : Boxed w' (w.heap.size + 1 + 1) 9 (.string ⟨#[]⟩)
  r2 : Boxed w' (w.heap.size + 1 + 1 + 1) 31 (.int .i64 0)
theorem SW.next {g : Sg} {A1 : Option Addr} {c1 : Nat} {A2 : Option Addr} {c2 : Nat} {t : Tm} {A : Option Addr} {c : Nat} {w w1 w2 : World} (h : SW g A1 c1 A2 c2 t A c w w1) (hb : Below w1.heap.size w1 w2) : SW g A1 c1 A2 c2 t A c w w2 :=
  ⟨h.below.trans (hb.mono h.below.size), cells_below h.bs hb, cells_below h.bt hb, boxed_below h.r1 hb, boxed_below h.r2 hb⟩
theorem SW.start (g : Sg) (A1 : Option Addr) (c1 : Nat) (A2 : Option Addr) (c2 : Nat) (t : Tm) (A : Option Addr) (c : Nat) (w : World) :
    SW g A1 c1 A2 c2 t A c w ((((w.alloc (.cells (gcells g A1 c1 A2 c2) 82)).alloc (.cells (tcells t A c) 56)).alloc (.cells #[.string ⟨#[]⟩] 9)).alloc (.cells #[.int .i64 0] 31)) := by
  have h1 := heap_alloc_new w (.cells (gcells g A1 c1 A2 c2) 82)
  have h2 := heap_alloc_new (w.alloc (.cells (gcells g A1 c1 A2 c2) 82)) (.cells (tcells t A c) 56)
  have h3 := Boxed.new ((w.alloc (.cells (gcells g A1 c1 A2 c2) 82)).alloc (.cells (tcells t A c) 56)) 9 (.string ⟨#[]⟩)
  have h4 := Boxed.new (((w.alloc (.cells (gcells g A1 c1 A2 c2) 82)).alloc (.cells (tcells t A c) 56)).alloc (.cells #[.string ⟨#[]⟩] 9)) 31 (.int .i64 0)
  simp only [World.size_alloc] at h2 h3 h4
  exact ⟨((((Below.refl _ _).alloc (Nat.le_refl _) _).alloc (by simp) _).alloc (by simp; omega) _).alloc (by simp; omega) _,
    (Below.heap_alloc _ _ _ (by simp; omega)).trans ((Below.heap_alloc _ _ _ (by simp; omega)).trans ((Below.heap_alloc _ _ _ (by simp)).trans h1)),
    (Below.heap_alloc _ _ _ (by simp)).trans ((Below.heap_alloc _ _ _ (by simp)).trans h2), h3.alloc _, h4⟩
theorem sortRes_bad {g : Sg} {t : Tm} (h : validSg g = false ∨ formed t = false) : sortRes g t = (⟨#[]⟩, 1) := by
  unfold sortRes
  rcases h with h | h <;> simp [h]
theorem sortRes_ok {g : Sg} {t : Tm} (h1 : validSg g = true) (h2 : formed t = true) (h : ∀ x, x ∈ t.pre 1 → chk g x.2 = 0) : sortRes g t = ((ownS g.ops t).1, 0) := by
  unfold sortRes
  rw [h1, h2]
  have : (t.pre 1).find? (fun x => decide (chk g x.2 ≠ 0)) = none := by
    rw [List.find?_eq_none]
    intro x hx
    simp [h x hx]
  rw [this]; rfl
theorem sortRes_err {g : Sg} {t : Tm} {p : List (Nat × Tm)} {x : Nat × Tm} (h1 : validSg g = true) (h2 : formed t = true) (hp : p ++ [x] <+: t.pre 1) (h : ∀ y, y ∈ p → chk g y.2 = 0) (hx : chk g x.2 ≠ 0) : sortRes g t = (⟨#[]⟩, chk g x.2) := by
  unfold sortRes
  obtain ⟨r, hr⟩ := hp
  have : (t.pre 1).find? (fun x => decide (chk g x.2 ≠ 0)) = some x := by
    rw [← hr, List.append_assoc, List.find?_append]
    have h0 : p.find? (fun x => decide (chk g x.2 ≠ 0)) = none := by
      rw [List.find?_eq_none]
      intro y hy
      simp [h y hy]
    rw [h0]
    simp [hx]
  rw [h1, h2, this]; rfl

set_option maxHeartbeats 4000000 in
theorem Sort_any (g : Sg) (A1 : Option Addr) (c1 : Nat) (A2 : Option Addr) (c2 : Nat) (t : Tm) (A : Option Addr) (c : Nat) (w : World) (hs : SlS w.heap.size w A1 g.sorts) (hd : SlD w.heap.size w A2 g.ops) (hog : okG g) (hrep : TRep w.heap.size w t A) (hok : okT maxLen t) (hdp : t.depth ≤ 140737488355326) :
    Calls Tryd.prog 53 #[GV g A1 c1 A2 c2, TV t A c] w fun e w' => e = .returned (.tuple #[.string (sortRes g t).1, .int .i64 (sortRes g t).2]) ∧ Below w.heap.size w w' := by
  refine (callsIn_wide (n := 3)).1 ?_
  refine callsIn_of_wp_marks Tryd.func53 rfl trivial ?_ rfl
  simp only [Tryd.ntmps53, List.size_toArray, List.length_cons, List.length_nil, Nat.reduceAdd, Nat.reduceSub, Array.replicate_succ, Array.replicate_zero, List.push_toArray, List.append_toArray, List.nil_append, List.cons_append]
  unfold TV GV
  have HS := Lib.hid hs
  have HD := Lib.hid hd
  have HOG := Lib.hid hog
  have HREP := Lib.hid hrep
  have HOK := Lib.hid hok
  have H0 := Lib.hid (SW.start g A1 c1 A2 c2 t A c w)
  clear hs hd hog hrep hok
  gi_wp2_with fail
  refine ⟨trivial, (callsIn_wide.2 (validSignature_any g A1 c1 A2 c2 _ ((HS.out.later H0.out.below).mono H0.out.below.size) ((HD.out.later H0.out.below).mono H0.out.below.size) HOG.out)).mono ?_⟩
  rintro e w1 ⟨rfl, hb1⟩
  have H1 := Lib.hid (H0.out.next hb1)
  obtain ⟨⟨x0, x1⟩, _⟩ := blk2 H1.out.bs
  obtain ⟨⟨y0, y1, y2⟩, _⟩ := blk3 H1.out.bt
  have s1 := H1.out.r1.cell
  have s2 := H1.out.r2.cell
  have f1 := H1.out.r1.frozen
  have f2 := H1.out.r2.frozen
  clear hb1
  generalize hvg : validSg g = vg
  cases vg
  · gi_wp2_with fail
    refine ⟨trivial, ?_⟩
    gi_wp2_with fail
    have hc5 := ((H1.out.r1.set (.string ⟨#[]⟩)).other (B' := w.heap.size + 1 + 1 + 1) (by omega) (.int .i64 1)).cell
    have hc6 := ((H1.out.r2.other (B' := w.heap.size + 1 + 1) (by omega) (.string ⟨#[]⟩)).set (.int .i64 1)).cell
    refine ⟨.tuple #[.string ⟨#[]⟩, .int .i64 1], ?_, by rw [sortRes_bad (.inl hvg)], belowSet (belowSet H1.out.below _ (by omega) _) _ (by omega) _⟩
    simp [results, Tryd.f53, go_sem, hc5, hc6]
  · gi_wp2_with fail
    clear x0 x1 y0 y1 y2 s1 s2 f1 f2
    refine ⟨trivial, (callsIn_wide.2 (wellFormed_any t A c _ ((HREP.out.later H1.out.below).mono H1.out.below.size) HOK.out hdp)).mono ?_⟩
    rintro e w2 ⟨rfl, hb2⟩
    have H2 := Lib.hid (H1.out.next hb2)
    obtain ⟨⟨x0, x1⟩, _⟩ := blk2 H2.out.bs
    obtain ⟨⟨y0, y1, y2⟩, _⟩ := blk3 H2.out.bt
    have s1 := H2.out.r1.cell
    have s2 := H2.out.r2.cell
    have f1 := H2.out.r1.frozen
    have f2 := H2.out.r2.frozen
    clear hb2
    generalize hvt : formed t = vt
    cases vt
    · gi_wp2_with fail
      have hc5 := ((H2.out.r1.set (.string ⟨#[]⟩)).other (B' := w.heap.size + 1 + 1 + 1) (by omega) (.int .i64 1)).cell
      have hc6 := ((H2.out.r2.other (B' := w.heap.size + 1 + 1) (by omega) (.string ⟨#[]⟩)).set (.int .i64 1)).cell
      refine ⟨.tuple #[.string ⟨#[]⟩, .int .i64 1], ?_, by rw [sortRes_bad (.inr hvt)], belowSet (belowSet H2.out.below _ (by omega) _) _ (by omega) _⟩
      simp [results, Tryd.f53, go_sem, hc5, hc6]
    · gi_wp2_with fail
      clear x0 x1 y0 y1 y2 s1 s2 f1 f2
      refine ⟨trivial, (callsIn_wide.2 (knownOf_any g A1 c1 A2 c2 _ ((HD.out.later H2.out.below).mono H2.out.below.size) HOG.out)).mono ?_⟩
      rintro e w3 ⟨⟨b, f, rfl, hwb, hsm, hfm⟩, hb3⟩
      have H3 := Lib.hid (H2.out.next hb3)
      have HK3 : Hid (KM w3.heap.size w3 b g) := ⟨f, _, hsm, (hfm.later hb3).mono hb3.size, hsm.lt⟩
      obtain ⟨⟨x0, x1⟩, _⟩ := blk2 H3.out.bs
      obtain ⟨⟨y0, y1, y2⟩, _⟩ := blk3 ((Below.heap_alloc w3 (.cells #[.slice A1 g.sorts.length c1, .map (some b)] 152) _ (Array.getElem?_eq_some_iff.1 H3.out.bt).1).trans H3.out.bt)
      have hw3 := H3.out.below.size
      clear hsm hfm hb3 hwb
      gi_wp2_with fail
      refine ⟨trivial, (nodes_in Fence.wide _ wide_fn rfl t A c _).mono ?_⟩
      rintro e w' ⟨rfl, rfl⟩
      clear x0 x1 y0 y1 y2
      gi_wp2_with fail
      have hb4 : Below w3.heap.size w3 ((w3.alloc (.cells #[.slice A1 g.sorts.length c1, .map (some b)] 152)).alloc (.cells (tcells t A c) 56)) := ((Below.refl _ _).alloc (Nat.le_refl _) _).alloc (by simp) _
      have hkx := (Below.heap_alloc _ (.cells (tcells t A c) 56) _ (by simp)).trans (heap_alloc_new w3 (.cells #[.slice A1 g.sorts.length c1, .map (some b)] 152))
      have hnx := heap_alloc_new (w3.alloc (.cells #[.slice A1 g.sorts.length c1, .map (some b)] 152)) (.cells (tcells t A c) 56)
      have hsz : ((w3.alloc (.cells #[.slice A1 g.sorts.length c1, .map (some b)] 152)).alloc (.cells (tcells t A c) 56)).heap.size = w3.heap.size + 2 := by simp
      simp only [World.size_alloc] at hnx
      have H4 := Lib.hid (H3.out.next hb4)
      generalize ((w3.alloc (.cells #[.slice A1 g.sorts.length c1, .map (some b)] 152)).alloc (.cells (tcells t A c) 56)) = W0 at hb4 hkx hnx hsz H4 ⊢
      refine wp_nodes w3.heap.size _ t A c rfl hnx ((HREP.out.later H4.out.below).mono (by omega)) (by omega) HOK.out hdp rfl
        (fun pre W => ((Boxed W (w.heap.size + 1 + 1) 9 (.string ⟨#[]⟩) ∧ Boxed W (w.heap.size + 1 + 1 + 1) 31 (.int .i64 0)) ∧ (W.heap[w3.heap.size]? = some (.cells #[.slice A1 g.sorts.length c1, .map (some b)] 152 (0, 0)) ∧ W.heap[w.heap.size + 1]? = some (.cells (tcells t A c) 56 (0, 0)))) ∧ (∀ x ∈ pre, chk g x.t = 0) ∧ Below w3.heap.size W0 W)
        (fun j pre W => (Boxed W (w.heap.size + 1 + 1) 9 (.string ⟨#[]⟩) ∧ Boxed W (w.heap.size + 1 + 1 + 1) 31 (.int .i64 (lastChk g pre))) ∧ (j = .ret ∧ ∃ p x, pre = p ++ [x] ∧ (∀ y ∈ p, chk g y.t = 0) ∧ chk g x.t ≠ 0) ∧ Below w.heap.size w W)
        (.and (.and (.and ((boxed_own _ _ _).from _) ((boxed_own _ _ _).from _)) (.and ((cellsBlock_own _ (fun _ => #[.slice A1 g.sorts.length c1, .map (some b)]) _).from _) ((cellsBlock_own _ (fun _ => tcells t A c) _).from _))) (.and (ownFrom_pure _ _) (ownFrom_below (by omega) (by omega))))
        (fun _ => .and (.and ((boxed_own _ _ _).from _) ((boxed_own _ _ (fun pre => .int .i64 (lastChk g pre))).from _)) (.and (ownFrom_pure _ _) (ownFrom_below (Nat.le_refl _) (by omega))))
        ⟨⟨⟨H4.out.r1, H4.out.r2⟩, hkx, H4.out.bt⟩, by simp, Below.refl _ _⟩
        (fun x a' W => ∃ Bx, NodeBox (w3.heap.size + 1) x Bx W ∧ a' = { tmps := #[GV g A1 c1 A2 c2, TV t A c, .pointer (some ⟨w.heap.size, 0, none⟩), .pointer (some ⟨w.heap.size + 1, 0, none⟩), .pointer (some ⟨w.heap.size + 1 + 1, 0, none⟩), .pointer (some ⟨w.heap.size + 1 + 1 + 1, 0, none⟩), .pointer (some ⟨w3.heap.size, 0, none⟩), undef, .pointer (some ⟨Bx, 0, none⟩), undef, undef, undef, GV g A1 c1 A2 c2, .bool true, .bool false, .bool false, TV t A c, .bool true, .bool false, .bool false, GV g A1 c1 A2 c2, KV g A1 c1 b, TV t A c, .func (.func 139) #[] #[.pointer (some ⟨w3.heap.size + 1, 0, none⟩)], .int .i64 x.d, TV x.t x.A x.c, undef, undef, undef, undef, undef, undef, undef, undef, undef, undef, undef, undef, undef], defers := [] })
        (fun x a' s X Y row hs hg hr => by
          obtain ⟨Bx, ⟨h1, h2⟩, e⟩ := hs
          exact ⟨Bx, ⟨h1, cellsBlock_own Bx (fun _ : Unit => tcells x.t x.A x.c) 56 s X Y row h2 hg (fun r e => (hr r e).2)⟩, e⟩)
        ?assign ?body ?done ?stop
      case assign =>
        rintro l pre x W K ⟨⟨⟨i1, i2⟩, i3, i5⟩, i6, i7⟩ hK
        unfold Nd.enc TV
        gi_wp2_with fail
        have hb := (Array.getElem?_eq_some_iff.1 i3).1
        exact hK _ _ ((KeepsOthers.alloc _ _).from _) ((Kp.refl _ _ _).alloc (by have := i7.size; omega) _) ⟨⟨⟨i1.alloc _, i2.alloc _⟩, (Below.heap_alloc _ _ _ hb).trans i3, (Below.heap_alloc _ _ _ (Array.getElem?_eq_some_iff.1 i5).1).trans i5⟩, i6, i7.alloc (by have := i7.size; omega) _⟩ ⟨W.heap.size, ⟨by omega, heap_alloc_new _ _⟩, rfl⟩
      case body =>
        rintro l pre x a' W hl _ ⟨⟨⟨i1, i2⟩, i3, i5⟩, i6, i7⟩ ⟨Bx, ⟨hBx, hbX⟩, rfl⟩ hlt
        unfold KV
        have hws := i7.size
        have hb5 := hb4.trans i7
        have hbw := H3.out.below.trans (hb5.mono hw3)
        have I3 := Lib.hid i3
        have I5 := Lib.hid i5
        have I6 := Lib.hid i6
        have HBW := Lib.hid hbw
        have I7 := Lib.hid i7
        obtain ⟨⟨x0, x1, x2⟩, _⟩ := blk3 hbX
        obtain ⟨⟨k0, k1⟩, _⟩ := blk2 i3
        have HC := Lib.hid (check_any g A1 c1 b x.t x.A x.c w3.heap.size W ((HS.out.later hbw).mono hw3) (HK3.out.later hb5) (x.rep.later i7) (by omega) x.ok HOG.out)
        clear i3 i5 i6 i7 hb5 hbw hbX
        unfold KV at HC
        gi_wp2_with fail
        refine ⟨trivial, (CallsIn.inRound l (callsIn_wide.2 HC.out)).mono ?_⟩
        rintro e W1 ⟨rfl, hb1⟩
        replace i1 := boxed_below i1 hb1
        replace i2 := boxed_below i2 hb1
        have HB1 := Lib.hid hb1
        have J3 := Lib.hid (cells_below I3.out hb1)
        have J5 := Lib.hid (cells_below I5.out hb1)
        clear x0 x1 x2 k0 k1 hb1 I3 I5 HC
        have c1' := i1.cell
        have f1 := i1.frozen
        have c2' := i2.cell
        have f2 := i2.frozen
        by_cases hv : chk g x.t = 0
        · rw [hv]
          have HV := Lib.hid hv
          clear hv
          gi_wp2_with fail
          refine ⟨keepsFrom_below HB1.out, Kp.of_below (by omega) HB1.out, ⟨⟨i1, i2⟩, J3.out, J5.out⟩, fun y hy => (List.mem_append.1 hy).elim (I6.out y) (fun h => by rw [List.mem_singleton.1 h]; exact HV.out), I7.out.trans (HB1.out.mono (by omega))⟩
        · have hvb : (chk g x.t != 0) = true := by simp [hv]
          have HV := Lib.hid hv
          clear hv
          gi_wp2_with fail
          refine ⟨(keepsFrom_below HB1.out).trans (((KeepsOthers.setCell _ _ _).trans (KeepsOthers.setCell _ _ _)).from _), ⟨(i1.set _).other (by omega) _, ?_⟩, ⟨rfl, pre, x, rfl, I6.out, HV.out⟩, belowSet (belowSet (HBW.out.trans (HB1.out.mono (by omega))) _ (by omega) _) _ (by omega) _⟩
          rw [lastChk_snoc]
          exact (i2.other (by omega) _).set _
      case done =>
        rintro D ys W hD hys ⟨⟨⟨i1, i2⟩, i3, i5⟩, i6, i7⟩ hK
        have hws := i7.size
        have hb5 := hb4.trans i7
        have hbw := H3.out.below.trans (hb5.mono hw3)
        have hall : ∀ x, x ∈ t.pre 1 → chk g x.2 = 0 := by
          intro y hy
          rw [← hys, List.mem_map] at hy
          obtain ⟨z, hz, rfl⟩ := hy
          exact i6 z hz
        have HALL := Lib.hid hall
        have HBW := Lib.hid hbw
        have HK := Lib.hid hK
        obtain ⟨⟨x0, x1, x2⟩, _⟩ := blk3 i5
        obtain ⟨⟨k0, k1⟩, _⟩ := blk2 i3
        have HC := Lib.hid (ownSort_any g A1 c1 b t A c w3.heap.size W (HK3.out.later hb5) (by omega) HOK.out.nm)
        clear hall i3 i5 i6 i7 hb5 hbw hys hK
        unfold KV at HC
        gi_wp2_with fail
        refine ⟨trivial, (callsIn_wide.2 HC.out).mono ?_⟩
        rintro e W1 ⟨rfl, hb1⟩
        replace i1 := boxed_below i1 hb1
        replace i2 := boxed_below i2 hb1
        have HK1 := Lib.hid (cells_below HK.out hb1)
        have HB1 := Lib.hid hb1
        clear hb1 x0 x1 x2 k0 k1 HC
        have c1' := i1.cell
        have f1 := i1.frozen
        have c2' := i2.cell
        have f2 := i2.frozen
        have HK2 := Lib.hid (keep_deferred (keep_deferred HK1.out (w.heap.size + 1 + 1) (.string (ownS g.ops t).1)) (w.heap.size + 1 + 1 + 1) (.int .i64 0))
        gi_wp2_with fail
        refine leave_mark HK2.out ?_
        have hc5 := (boxed_put ((i1.set (.string (ownS g.ops t).1)).other (by omega) (.int .i64 0)) HK2.out).cell
        have hc6 := (boxed_put ((i2.other (by omega) (.string (ownS g.ops t).1)).set (.int .i64 0)) HK2.out).cell
        refine ⟨.tuple #[.string (ownS g.ops t).1, .int .i64 0], ?_, by rw [sortRes_ok hvg hvt HALL.out], below_put (belowSet (belowSet (HBW.out.trans (HB1.out.mono (by omega))) _ (by omega) _) _ (by omega) _) (by omega) HK2.out⟩
        simp [results, Tryd.f53, go_sem, hc5, hc6]
      case stop =>
        rintro D j pre W hD hpre ⟨⟨i1, i2⟩, ⟨rfl, p, x, rfl, hp, hx⟩, i7⟩ hK
        have HK := Lib.hid hK
        rw [lastChk_snoc] at i2
        clear hK
        gi_wp2_with fail
        refine leave_mark HK.out ?_
        have hc5 := (boxed_put i1 HK.out).cell
        have hc6 := (boxed_put i2 HK.out).cell
        refine ⟨.tuple #[.string ⟨#[]⟩, .int .i64 (chk g x.t)], ?_, ?_, below_put i7 (by omega) HK.out⟩
        · simp [results, Tryd.f53, go_sem, hc5, hc6]
        · rw [sortRes_err (p := p.map Nd.pr) (x := x.pr) hvg hvt (by simpa using hpre) (fun y hy => by
            obtain ⟨z, hz, rfl⟩ := List.mem_map.1 hy
            exact hp z hz) hx]; rfl
end Go.Proofs.YthbcfcbonmphfaaDoor
