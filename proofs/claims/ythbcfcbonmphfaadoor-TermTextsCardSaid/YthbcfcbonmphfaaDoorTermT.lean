/- Parse. -/
import Derived.StillTailTactics
import Derived.Test.YthbcfcbonmphfaaDoorTermR
import Derived.Test.YthbcfcbonmphfaaDoorPlacS
import Derived.Test.YthbcfcbonmphfaaDoorBackA
namespace Go.Proofs.YthbcfcbonmphfaaDoor
open Go.RowKit Go.Shelf
set_option maxRecDepth 100000

theorem ends_k : ∀ {L : List Tk}, Ends L → EndsK L
  | [], h => absurd h (by simp [Ends])
  | [e], h => by
    unfold Ends at h
    by_cases hk : e.k = 5
    · exact hk
    · rw [if_neg hk] at h; exact absurd h (by simp [Ends])
  | x :: y :: l, h => by
    unfold EndsK
    refine ends_k ?_
    unfold Ends at h
    by_cases hk : x.k = 5
    · rw [if_pos hk] at h; cases h
    · rw [if_neg hk] at h; exact h

theorem suf_mem {l l' : List Tk} (h : l' <:+ l) {M : Nat} (hM : ∀ x, x ∈ l → x.t.length ≤ M) : ∀ x, x ∈ l' → x.t.length ≤ M := fun x hx => hM x (h.subset hx)
mutual
theorem PT_ok {M : Nat} : ∀ {l : List Tk} {r : Option Tm} {l' : List Tk}, PT l r l' → (∀ x, x ∈ l → x.t.length ≤ M) → l.length ≤ M → l' <:+ l ∧ ∀ t, r = some t → okT M t ∧ t.size + l'.length ≤ l.length
  | _, _, _, .noName _, _, _ => ⟨List.suffix_refl _, fun t h => by cases h⟩
  | _, _, _, .var (x := x) (y := y) (z := z) (l := l) _ _ _, hM, hl => ⟨⟨[x, y, z], rfl⟩, fun t h => by
      injection h with h
      subst h
      have h1 := hM x (by simp)
      have h2 := hM z (by simp)
      exact ⟨.mk _ _ _ (by show x.t.toArray.size ≤ _; rw [List.size_toArray]; exact h1) (by show z.t.toArray.size ≤ _; rw [List.size_toArray]; exact h2) (by simp) (fun k hk => by cases hk), by simp [Tm.size, sizes]; omega⟩⟩
  | _, _, _, .noSort (x := x) (y := y) _ _ _, _, _ => ⟨⟨[x, y], rfl⟩, fun t h => by cases h⟩
  | _, _, _, .parts (x := x) (y := y) (l := l) (l' := l') (r := r) _ _ hL, hM, hl => by
      obtain ⟨h1, h2⟩ := LL_ok (M := M) hL (fun z hz => hM z (by simp at hz ⊢; exact .inr hz)) (by simp at hl ⊢; omega)
      refine ⟨h1.trans (List.suffix_cons _ _), fun t h => ?_⟩
      cases r with
      | none => cases h
      | some ks =>
        injection h with h
        subst h
        obtain ⟨h3, h4⟩ := h2 ks rfl
        have h5 := hM x (by simp)
        have h6 := len_sizes ks
        simp only [List.length_cons] at h4 hl
        exact ⟨.mk _ _ _ (by show x.t.toArray.size ≤ _; rw [List.size_toArray]; exact h5) (Nat.zero_le _) (by omega) h3, by simp [Tm.size]; omega⟩
theorem LL_ok {M : Nat} : ∀ {l : List Tk} {r : Option (List Tm)} {l' : List Tk}, LL l r l' → (∀ x, x ∈ l → x.t.length ≤ M) → l.length ≤ M → l' <:+ l ∧ ∀ ks, r = some ks → (∀ k, k ∈ ks → okT M k) ∧ sizes ks + l'.length ≤ l.length
  | _, _, _, .noParen _, _, _ => ⟨List.suffix_refl _, fun t h => by cases h⟩
  | _, _, _, .empty (y := y) (z := z) _ _, _, _ => ⟨⟨[y, z], rfl⟩, fun t h => by injection h with h; subst h; exact ⟨(fun k hk => by cases hk), by simp [sizes]; omega⟩⟩
  | _, _, _, .elems (y := y) _ _ hP, hM, hl => by
      obtain ⟨h1, h2⟩ := PL_ok (M := M) hP (fun z hz => hM z (by simp at hz ⊢; exact .inr hz)) (by simp at hl ⊢; omega)
      refine ⟨h1.trans (List.suffix_cons _ _), fun ks h => ?_⟩
      obtain ⟨h3, h4⟩ := h2 ks h
      exact ⟨h3, by simp only [List.length_cons] at h4 ⊢; omega⟩
theorem PL_ok {M : Nat} : ∀ {l : List Tk} {r : Option (List Tm)} {l' : List Tk}, PL l r l' → (∀ x, x ∈ l → x.t.length ≤ M) → l.length ≤ M → l' <:+ l ∧ ∀ ks, r = some ks → (∀ k, k ∈ ks → okT M k) ∧ sizes ks + l'.length ≤ l.length
  | _, _, _, .bad hT, hM, hl => ⟨(PT_ok (M := M) hT hM hl).1, fun t h => by cases h⟩
  | _, _, _, .last (t := t) (y := y) hT _, hM, hl => by
      obtain ⟨h1, h2⟩ := PT_ok (M := M) hT hM hl
      obtain ⟨h3, h4⟩ := h2 t rfl
      refine ⟨(List.suffix_cons _ _).trans h1, fun ks h => ?_⟩
      injection h with h
      subst h
      exact ⟨fun k hk => by rw [List.mem_singleton.1 hk]; exact h3, by simp only [List.length_cons] at h4; simp [sizes]; omega⟩
  | _, _, _, .noComma hT _ _, hM, hl => ⟨(PT_ok (M := M) hT hM hl).1, fun t h => by cases h⟩
  | _, _, _, .more (t := t) (y := y) (l' := l2) (r := r) hT _ _ hP, hM, hl => by
      obtain ⟨h1, h2⟩ := PT_ok (M := M) hT hM hl
      obtain ⟨h3, h4⟩ := h2 t rfl
      have hs : l2 <:+ _ := (List.suffix_cons y l2).trans h1
      obtain ⟨h5, h6⟩ := PL_ok (M := M) hP (suf_mem hs hM) (Nat.le_trans hs.length_le hl)
      refine ⟨h5.trans hs, fun ks h => ?_⟩
      cases r with
      | none => cases h
      | some ks' =>
        injection h with h
        subst h
        obtain ⟨h7, h8⟩ := h6 ks' rfl
        refine ⟨fun k hk => ?_, by simp only [List.length_cons] at h4; simp [sizes]; omega⟩
        rcases List.mem_cons.1 hk with rfl | hk
        · exact h3
        · exact h7 k hk
end

def E0 (a b er : Int) : Ending := .returned (.tuple #[TV0, .agg #[.int .i64 a, .int .i64 b], .int .i64 er])
/-- What Parse hands back. -/
def ParsePost (s : ByteArray) (w : World) (e : Ending) (w' : World) : Prop :=
  Below w.heap.size w w' ∧
    ((65536 < s.size ∧ e = E0 0 0 4) ∨
     (s.size ≤ 65536 ∧ ∃ p, toks s.data.toList 1 1 = .error p ∧ e = E0 p.1 p.2 7) ∨
     (s.size ≤ 65536 ∧ ∃ L r x l', toks s.data.toList 1 1 = .ok L ∧ PT L r (x :: l') ∧ (r = none ∨ x.k ≠ 5) ∧ e = E0 x.a x.b (fE x)) ∨
     (s.size ≤ 65536 ∧ ∃ L t x l', toks s.data.toList 1 1 = .ok L ∧ PT L (some t) (x :: l') ∧ x.k = 5 ∧
       ((fitsL (t.pre 1) = false ∧ e = E0 0 0 4) ∨ (fitsL (t.pre 1) = true ∧ agreeL (t.pre 1) = false ∧ e = E0 0 0 11) ∨
        (fitsL (t.pre 1) = true ∧ agreeL (t.pre 1) = true ∧ ∃ A c, e = .returned (.tuple #[TV t A c, .agg #[.int .i64 0, .int .i64 0], .int .i64 0]) ∧ TX (fun b => w.heap.size ≤ b ∧ b < w'.heap.size) w' t A))))
/-- The cells of Parse's results. -/
structure RW (w w' : World) : Prop where
  below : Below w.heap.size w w'
  c0 : w'.heap[w.heap.size]? = some (.cells #[.string ⟨#[]⟩, .string ⟨#[]⟩, .slice none 0 0] 56 (0, 0))
  c1 : w'.heap[w.heap.size + 1]? = some (.cells #[.int .i64 0, .int .i64 0] 23 (0, 0))
theorem RW.start (w : World) : RW w ((w.alloc (.cells #[.string ⟨#[]⟩, .string ⟨#[]⟩, .slice none 0 0] 56)).alloc (.cells #[.int .i64 0, .int .i64 0] 23)) :=
  ⟨((Below.refl _ _).alloc (Nat.le_refl _) _).alloc (by simp) _, (Below.heap_alloc _ _ _ (by simp)).trans (heap_alloc_new w _), by
    have := heap_alloc_new (w.alloc (.cells #[.string ⟨#[]⟩, .string ⟨#[]⟩, .slice none 0 0] 56)) (.cells #[.int .i64 0, .int .i64 0] 23)
    simpa using this⟩
theorem RW.next {w w1 w2 : World} (h : RW w w1) (hb : Below w1.heap.size w1 w2) : RW w w2 :=
  ⟨h.below.trans (hb.mono h.below.size), cells_below h.c0 hb, cells_below h.c1 hb⟩

theorem grown_block {w1 w2 : World} {P : Nat} {o : Obj} {b : Nat} (h : w1.heap[b]? = some o) (hg : w1.grownBy w2 (some P)) (hP : b ≠ P) : w2.heap[b]? = some o :=
  (hg.block b (Array.getElem?_eq_some_iff.1 h).1 (fun e => hP (by injection e))).trans h
theorem RW.grown {w w1 w2 : World} {P : Nat} (h : RW w w1) (hg : w1.grownBy w2 (some P)) (hP : w.heap.size + 1 < P) : RW w w2 :=
  ⟨h.below.grown hg h.below.size (fun k e => by injection e with e; omega), grown_block h.c0 hg (by omega), grown_block h.c1 hg (by omega)⟩
theorem pb_of_own {w : World} {B : Nat} {v : Value} {L : List Tk} (ho : w.ownsRow B 25 5 v L.length (tksCells L)) (hne : 0 < L.length) : ∃ g c, v = .slice (some ⟨g, 0, none⟩) L.length c ∧ L.length ≤ c ∧ c ≤ maxLen ∧ g < w.heap.size ∧ TkAt w g 0 L := by
  obtain ⟨A, cap, hv, hsl, _⟩ := slT_own ho
  rcases ho.2 with ⟨_, h0⟩ | ⟨g, cap', cur, hv', _, _, hn, hcm, _⟩
  · omega
  · rw [hv'] at hv
    injection hv with e1 e2 e3
    obtain ⟨b, off, e, hlt, hc⟩ := hsl hne
    rw [← e1] at e
    injection e with e
    injection e with e4 e5
    subst e4 e5
    exact ⟨g, cap', hv', hn, hcm, hlt, hc⟩
/-- The parser's box. -/
theorem pb_new {w : World} {g c : Nat} {L : List Tk} (h1 : L.length ≤ c) (h2 : c ≤ maxLen) (h3 : g < w.heap.size) (h4 : TkAt w g 0 L) (o : Obj) :
    PB ((w.alloc o).alloc (.cells #[.slice (some ⟨g, 0, none⟩) L.length c] 127)) (w.heap.size + 1) L := by
  have hb := heap_alloc_new (w.alloc o) (.cells #[.slice (some ⟨g, 0, none⟩) L.length c] 127)
  simp only [World.size_alloc] at hb
  have hB : Below w.heap.size w ((w.alloc o).alloc (.cells #[.slice (some ⟨g, 0, none⟩) L.length c] 127)) := ((Below.refl _ _).alloc (Nat.le_refl _) _).alloc (by simp) _
  refine ⟨g, 0, c, hb, h1, h2, by omega, fun i t ht => ?_⟩
  obtain ⟨c0, c1, c2, c3, c4⟩ := h4 i t ht
  exact ⟨(hB.cell (p := ⟨g, _, none⟩) h3).trans c0, (hB.cell (p := ⟨g, _, none⟩) h3).trans c1, (hB.cell (p := ⟨g, _, none⟩) h3).trans c2, (hB.cell (p := ⟨g, _, none⟩) h3).trans c3, (hB.cell (p := ⟨g, _, none⟩) h3).trans c4⟩

set_option maxHeartbeats 4000000 in
theorem Parse_full (s : ByteArray) (w : World) (hbig : 65536 < s.size) (hp : Pairs w) : Calls Tryd.prog 41 #[.string s] w (ParsePost s w) := by
  have H0 := Lib.hid (RW.start w)
  have HP0 := Lib.hid ((hp.alloc (.cells #[.string ⟨#[]⟩, .string ⟨#[]⟩, .slice none 0 0] 56)).alloc (.cells #[.int .i64 0, .int .i64 0] 23))
  clear hp
  · have HT := Lib.hid (tokens_full s ((w.alloc (.cells #[.string ⟨#[]⟩, .string ⟨#[]⟩, .slice none 0 0] 56)).alloc (.cells #[.int .i64 0, .int .i64 0] 23)) hbig)
    have HBIG := Lib.hid hbig
    clear hbig
    go_enter Tryd.func41, Tryd.ntmps41
    go_wp2_with fail
    refine HT.out.mono ?_
    rintro e w1 ⟨rfl, hb1⟩
    have H1 := Lib.hid (H0.out.next hb1)
    have H2 := Lib.hid (H1.out.next ((Below.refl _ _).alloc (Nat.le_refl _) (.cells #[.int .i64 0, .int .i64 0] 23)))
    have hs1 := hb1.size
    simp at hs1
    have hlt0 : w.heap.size < w1.heap.size := by omega
    have hlt1 : w.heap.size + 1 < w1.heap.size := by omega
    clear hb1 HT
    go_wp2_with fail
    have r0 := heap_alloc_new w1 (.cells #[.int .i64 0, .int .i64 0] 23)
    have H6 := H2.out
    clear H2
    generalize (w1.alloc (.cells #[.int .i64 0, .int .i64 0] 23)) = W5 at r0 H6 ⊢
    obtain ⟨⟨p0, p1⟩, pf0, pf1⟩ := blk2 r0
    obtain ⟨⟨x0, x1, x2⟩, xf0, xf1, xf2⟩ := blk3 H6.c0
    obtain ⟨⟨y0, y1⟩, yf0, yf1⟩ := blk2 H6.c1
    have HB6 := Lib.hid H6.below
    clear r0 H6
    go_region
    all_goals
      go_wp2
      refine bodyPost_ret (v := .tuple #[TV0, .agg #[.int .i64 0, .int .i64 0], .int .i64 4]) (by simp [results, Tryd.results41, go_sem, x0, x1, x2, y0, y1, TV0, hlt0, hlt1, World.size_setCell]) rfl ?_
      refine ⟨?_, .inl ⟨HBIG.out, rfl⟩⟩
      (repeat' (first | exact HB6.out | refine Below.drew ?_ | refine Below.setCell ?_ (by simp) _ | refine Below.alloc ?_ (by simp <;> omega) _))
set_option maxHeartbeats 4000000 in
theorem Parse_err (s : ByteArray) (w : World) (hle : s.size ≤ 65536) (hp : Pairs w) (p : Int × Int) (htk : toks s.data.toList 1 1 = .error p) : Calls Tryd.prog 41 #[.string s] w (ParsePost s w) := by
  have H0 := Lib.hid (RW.start w)
  have HP0 := Lib.hid ((hp.alloc (.cells #[.string ⟨#[]⟩, .string ⟨#[]⟩, .slice none 0 0] 56)).alloc (.cells #[.int .i64 0, .int .i64 0] 23))
  clear hp
  · have HS : Hid (s.size ≤ 65536) := Lib.hid (by omega)
    have HT := Lib.hid (tokens_any s ((w.alloc (.cells #[.string ⟨#[]⟩, .string ⟨#[]⟩, .slice none 0 0] 56)).alloc (.cells #[.int .i64 0, .int .i64 0] 23)) (by omega) HP0.out)
    clear hle
    go_enter Tryd.func41, Tryd.ntmps41
    go_wp2_with fail
    refine HT.out.mono ?_
    rintro e w1 ⟨hb1, hT⟩
    have H1 := Lib.hid (H0.out.next hb1)
    have H2 := Lib.hid (H1.out.next ((Below.refl _ _).alloc (Nat.le_refl _) (.cells #[.int .i64 0, .int .i64 0] 23)))
    have hs1' := hb1.size
    simp at hs1'
    have hlt0 : w.heap.size < w1.heap.size := by omega
    have hlt1 : w.heap.size + 1 < w1.heap.size := by omega
    clear HT
    rw [htk] at hT
    simp only at hT
    subst hT
    have HTK := Lib.hid htk
    have H3 := Lib.hid (H1.out.next ((Below.refl _ _).alloc (Nat.le_refl _) (.cells #[.int .i64 p.1, .int .i64 p.2] 23)))
    clear htk hb1
    go_wp2_with fail
    have r0 := heap_alloc_new w1 (.cells #[.int .i64 p.1, .int .i64 p.2] 23)
    have H6 := H3.out
    clear H2 H3
    generalize (w1.alloc (.cells #[.int .i64 p.1, .int .i64 p.2] 23)) = W5 at r0 H6 ⊢
    obtain ⟨⟨p0, p1⟩, pf0, pf1⟩ := blk2 r0
    obtain ⟨⟨x0, x1, x2⟩, xf0, xf1, xf2⟩ := blk3 H6.c0
    obtain ⟨⟨y0, y1⟩, yf0, yf1⟩ := blk2 H6.c1
    have HB6 := Lib.hid H6.below
    clear r0 H6
    go_region
    all_goals
      go_wp2
      refine bodyPost_ret (v := .tuple #[TV0, .agg #[.int .i64 p.1, .int .i64 p.2], .int .i64 7]) (by simp [results, Tryd.results41, go_sem, x0, x1, x2, y0, y1, TV0, hlt0, hlt1, World.size_setCell]) rfl ?_
      refine ⟨?_, .inr (.inl ⟨HS.out, p, HTK.out, rfl⟩)⟩
      (repeat' (first | exact HB6.out | refine Below.drew ?_ | refine Below.setCell ?_ (by simp) _ | refine Below.alloc ?_ (by simp <;> omega) _))
end Go.Proofs.YthbcfcbonmphfaaDoor
