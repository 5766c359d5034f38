/- Parse. -/
import Derived.Test.YthbcfcbonmphfaaDoorJoinDBundle
import Derived.Test.YthbcfcbonmphfaaDoorPlacSBundle
import Derived.StillTailTactics
import Derived.Test.YthbcfcbonmphfaaDoorTermRBundle
/- Walks: Same and Clone. -/
namespace Go.Proofs.YthbcfcbonmphfaaDoor
set_option maxRecDepth 100000
open Go.RowKit

theorem tksCells_get : ∀ (L : List Tk) (j : Nat) (u : Value), (tksCells L)[j]? = some u → ∃ (i : Nat) (t : Tk) (r : Nat), L[i]? = some t ∧ j = i * 5 + r ∧ r < 5 ∧ (tkCells t)[r]? = some u
  | [], j, u, h => by simp [tksCells] at h
  | t :: L, j, u, h => by
    have e : tksCells (t :: L) = tkCells t ++ tksCells L := by simp [tksCells]
    rw [e] at h
    have hl : (tkCells t).length = 5 := rfl
    rcases Nat.lt_or_ge j 5 with h5 | h5
    · rw [List.getElem?_append_left (by omega)] at h
      exact ⟨0, t, j, rfl, by omega, h5, h⟩
    · rw [List.getElem?_append_right (by omega), hl] at h
      obtain ⟨i, t', r, h1, h2, h3, h4⟩ := tksCells_get L (j - 5) u h
      exact ⟨i + 1, t', r, by simpa using h1, by omega, h3, h4⟩
theorem tksCells_at : ∀ (L : List Tk) (i : Nat) (t : Tk) (r : Nat), L[i]? = some t → r < 5 → (tksCells L)[i * 5 + r]? = (tkCells t)[r]?
  | [], i, t, r, h, _ => by simp at h
  | u :: L, 0, t, r, h, hr => by
    have e : tksCells (u :: L) = tkCells u ++ tksCells L := by simp [tksCells]
    have h' : u = t := by simpa using h
    have hl : (tkCells u).length = 5 := rfl
    rw [e, List.getElem?_append_left (by omega), h']
    congr 1; omega
  | u :: L, i + 1, t, r, h, hr => by
    have e : tksCells (u :: L) = tkCells u ++ tksCells L := by simp [tksCells]
    have hl : (tkCells u).length = 5 := rfl
    rw [e, List.getElem?_append_right (by omega), hl]
    have := tksCells_at L i t r (by simpa using h) hr
    rw [← this]
    congr 1; omega
/-- A row of the call's own is a slice of tokens. -/
theorem slT_own {w : World} {base n : Nat} {v : Value} {L : List Tk} (h : w.ownsRow base 25 5 v n (tksCells L)) : ∃ A cap, v = .slice A L.length cap ∧ SlT w A L ∧ n = L.length := by
  have hn : n = L.length := by have := h.1; rw [tksCells_len] at this; omega
  subst hn
  rcases h.2 with ⟨rfl, h0⟩ | ⟨g, cap, cur, rfl, _, hh, _⟩
  · exact ⟨none, 0, by rw [h0], fun hp => absurd hp (by omega), rfl⟩
  · refine ⟨_, cap, rfl, fun hp => ⟨g, 0, rfl, ?_, fun i t ht => ?_⟩, rfl⟩
    · exact (h.lt g rfl).2
    · have hi : i < L.length := (List.getElem?_eq_some_iff.1 ht).1
      have c := fun r (hr : r < 5) => (h.cellAt (i * 5 + r) (by omega)).trans (tksCells_at L i t r ht hr)
      have c0 := c 0 (by omega)
      have c1 := c 1 (by omega)
      have c2 := c 2 (by omega)
      have c3 := c 3 (by omega)
      have c4 := c 4 (by omega)
      simp only [Nat.zero_add]
      exact ⟨c0, c1, c2, c3, c4⟩
theorem slT_news {w : World} {b off : Nat} {L : List Tk} (h : ∀ (i : Nat) (t : Tk), L[i]? = some t → w.cell? ⟨b, off + i * 5, none⟩ = some (.int .i64 t.k) ∧ w.cell? ⟨b, off + i * 5 + 1, none⟩ = some (.string ⟨t.t.toArray⟩) ∧
    w.cell? ⟨b, off + i * 5 + 2, none⟩ = some (.int .i64 t.n) ∧ w.cell? ⟨b, off + i * 5 + 3, none⟩ = some (.int .i64 t.a) ∧ w.cell? ⟨b, off + i * 5 + 4, none⟩ = some (.int .i64 t.b)) :
    ∀ j u, (tksCells L)[j]? = some u → w.cell? ((⟨b, off, none⟩ : Addr).add j) = some u := by
  intro j u hu
  obtain ⟨i, t, r, h1, rfl, hr, h4⟩ := tksCells_get L j u hu
  have ad : ∀ n, (⟨b, off, none⟩ : Addr).add n = ⟨b, off + n, none⟩ := fun n => Go.WideShapes.add_plain ..
  rw [ad]
  obtain ⟨c0, c1, c2, c3, c4⟩ := h i t h1
  rw [← Nat.add_assoc]
  match r, hr with
  | 0, _ => rw [Nat.add_zero, c0]; exact h4
  | 1, _ => rw [c1]; exact h4
  | 2, _ => rw [c2]; exact h4
  | 3, _ => rw [c3]; exact h4
  | 4, _ => rw [c4]; exact h4
theorem kt_at {L M : List Tk} (h : L.map kt = M.map kt) (i : Nat) (t : Tk) (ht : L[i]? = some t) : ∃ u, M[i]? = some u ∧ u.k = t.k ∧ u.t = t.t ∧ u.n = t.n := by
  have h1 : (L.map kt)[i]? = some (kt t) := by rw [List.getElem?_map, ht]; rfl
  rw [h, List.getElem?_map] at h1
  cases hm : M[i]? with
  | none => rw [hm] at h1; cases h1
  | some u =>
    rw [hm] at h1
    have e : kt u = kt t := by simpa using h1
    unfold kt at e
    simp only [Prod.mk.injEq] at e
    exact ⟨u, rfl, e.1, e.2.1, e.2.2⟩

set_option maxRecDepth 100000 in
set_option maxHeartbeats 1000000 in
theorem same_true (A1 A2 : Option Addr) (c1 c2 n : Nat) (L M : List Tk) (w : World) (hn : L.length = n) (hm : n ≤ maxLen) (h1 : SlT w A1 L) (h2 : SlT w A2 M) (hk : L.map kt = M.map kt) :
    Calls Tryd.prog 27 #[.slice A1 n c1, .slice A2 n c2] w fun e w' => e = .returned (.bool true) ∧ ∃ q, w' = w.drewN q := by
  unfold maxLen at hm
  have HM : Hid (M.length = n) := by have := congrArg List.length hk; simp at this; exact this.symm.trans hn
  have HN := Lib.hid hn
  have H1 := Lib.hid h1
  have H2 := Lib.hid h2
  have HK := Lib.hid hk
  clear hn h1 h2 hk
  go_enter Tryd.func27, Tryd.ntmps27
  go_wp2_with fail
  go_loopw [5] (fun i wr => ∃ k q : Nat, k ≤ n ∧ i = .int .i64 k ∧ wr = w.drewN q) (fun i _ => n - (intOf i).toNat)
  case atStart => exact ⟨0, 0, by omega, rfl, rfl⟩
  case round =>
    obtain ⟨k, q, hkn, rfl, rfl⟩ := hrel
    by_cases hlt : k < n
    · obtain ⟨t, ht⟩ : ∃ t, L[k]? = some t := ⟨L[k]'(by rw [HN.out]; exact hlt), List.getElem?_eq_getElem _⟩
      obtain ⟨u, hu, e1, e2, e3⟩ := kt_at HK.out k t ht
      obtain ⟨b, off, hA, hblt, hc⟩ := H1.out (by rw [HN.out]; omega)
      subst hA
      obtain ⟨b', off', hA', hblt', hc'⟩ := H2.out (by rw [HM.out]; omega)
      subst hA'
      obtain ⟨x0, x1, x2, _, _⟩ := hc k t ht
      obtain ⟨y0, y1, y2, _, _⟩ := hc' k u hu
      rw [e1] at y0
      rw [e2] at y1
      rw [e3] at y2
      have hkI : (k : Int) < (n : Int) := by omega
      clear hc hc' ht hu e1 e2 e3
      go_wp2
      go_quiet (fail)
      go_wp2
      go_roundw
      case rel => exact ⟨k + 1, _, by omega, by go_num, rfl⟩
      case measure => simp [intOf]; omega
    · go_wp2
      go_ret
      exact ⟨rfl, _, rfl⟩

set_option maxHeartbeats 1000000 in
theorem clone_any (A : Option Addr) (cap : Nat) (L : List Tk) (w : World) (hlen : L.length ≤ 1000) (hl : SlT w A L) :
    Calls Tryd.prog 26 #[.slice A L.length cap] w fun e w' => ∃ v, e = .returned v ∧ w'.ownsRow w.heap.size 25 5 v L.length (tksCells L) ∧ Below w.heap.size w w' := by
  have hnil := fun W : World => Lib.run_eql_slice_nil (P := Tryd.prog) W 30 25 A L.length cap 0 0 Tryd.underlying30
  obtain ⟨i0, hi, hz0, hz1, hz2⟩ := info_parts Tryd.infoToken
  cases A with
  | none =>
    have h0 : L = [] := by
      rcases Nat.eq_zero_or_pos L.length with h | h
      · exact List.eq_nil_of_length_eq_zero h
      · obtain ⟨b, off, e, _⟩ := hl h; cases e
    subst h0
    clear hl
    simp only [List.length_nil, Option.isNone_none] at hnil
    go_enter Tryd.func26, Tryd.ntmps26
    go_wp2
    go_ret
    exact ⟨_, rfl, World.ownsRow_nil _ _ _ _, Below.refl _ _⟩
  | some a =>
    have hnews : Hid (∀ j u, (tksCells L)[j]? = some u → w.cell? (a.add j) = some u) := by
      intro j u hu
      have hpos : 0 < L.length := by
        have := (List.getElem?_eq_some_iff.1 hu).1
        rw [tksCells_len] at this; omega
      obtain ⟨b, off, e, _, hc⟩ := hl hpos
      injection e with e
      subst e
      exact slT_news hc j u hu
    have hnews2 : Hid (∀ (W : World), Below w.heap.size w W → ∀ j u, (tksCells L)[j]? = some u → W.cell? (a.add j) = some u) := by
      intro W hb j u hu
      have hpos : 0 < L.length := by
        have := (List.getElem?_eq_some_iff.1 hu).1
        rw [tksCells_len] at this; omega
      obtain ⟨b, off, e, hlt, hc⟩ := hl hpos
      injection e with e
      subst e
      have ad : ∀ n, (⟨b, off, none⟩ : Addr).add n = ⟨b, off + n, none⟩ := fun n => Go.WideShapes.add_plain ..
      have := slT_news hc j u hu
      rw [ad] at this ⊢
      exact (hb.cell (p := ⟨b, off + j, none⟩) hlt).trans this
    have hlN : Hid ((tksCells L).length = L.length * 5) := tksCells_len L
    have h1 : Hid (∀ u ∈ tksCells L, u.oneCell' = true) := by
      intro u hu
      obtain ⟨j, hj, rfl⟩ := List.mem_iff_getElem.1 hu
      obtain ⟨i, t, r, _, _, hr, h4⟩ := tksCells_get L j _ (List.getElem?_eq_getElem hj)
      match r, hr with
      | 0, _ => simp [tkCells] at h4; rw [← h4]; rfl
      | 1, _ => simp [tkCells] at h4; rw [← h4]; rfl
      | 2, _ => simp [tkCells] at h4; rw [← h4]; rfl
      | 3, _ => simp [tkCells] at h4; rw [← h4]; rfl
      | 4, _ => simp [tkCells] at h4; rw [← h4]; rfl
    have hm : 0 + L.length ≤ maxLen := by unfold maxLen; omega
    have hby : (0 + L.length) * 48 ≤ 140737488355328 := by omega
    have HO : Hid ((w.alloc (.cells #[] 25)).ownsRow w.heap.size 25 5 (.slice (some ⟨w.heap.size, 0, none⟩) 0 0) 0 []) :=
      World.ownsRow_lit w #[] 0 (Nat.le_refl _) (by unfold maxLen; omega) rfl
    clear hl
    go_enter Tryd.func26, Tryd.ntmps26
    go_wp2_with (at_builtin; refine wpList_append_own _ rfl (.tmp 5) (.tmp 6) 30 rfl w.heap.size 25 i0 _ 5 48 Tryd.underlying30 hi hz0 hz1 hz2 rfl (by decide) _ 0 [] rfl HO.out a L.length cap (tksCells L) rfl hlN.out (hnews2.out _ ((Below.refl _ _).alloc (Nat.le_refl _) _)) h1.out hm hby ?c5 ?_)
    case c5 => simp
    intro v' w2 ho2 hg2 _
    have R : w2.ownsRow w.heap.size 25 5 v' L.length (tksCells L) ∧ Below w.heap.size w w2 := by
      refine ⟨by simpa using ho2, ((Below.refl _ _).alloc (Nat.le_refl _) _).grown hg2 (by simp) (fun k e => ?_)⟩
      simp [Value.ownBlock] at e
      omega
    have HR := Lib.hid R
    clear R ho2 hg2
    go_wp2
    go_ret
    exact ⟨_, rfl, HR.out.1, HR.out.2⟩
end Go.Proofs.YthbcfcbonmphfaaDoor
namespace Go.Proofs.YthbcfcbonmphfaaDoor
open Go.RowKit Go.Shelf
set_option maxRecDepth 100000

theorem ends_k : ∀ {L : List Tk}, Ends L → EndsK L
  | [], h => absurd h (by simp [Ends])
  | [e], h => by
    unfold Ends at h
    by_cases hk : e.k = 5
    · exact hk
    · rw [if_neg hk] at h; exact absurd h (by simp [Ends])
  | x :: y :: l, h => by
    unfold EndsK
    refine ends_k ?_
    unfold Ends at h
    by_cases hk : x.k = 5
    · rw [if_pos hk] at h; cases h
    · rw [if_neg hk] at h; exact h

theorem suf_mem {l l' : List Tk} (h : l' <:+ l) {M : Nat} (hM : ∀ x, x ∈ l → x.t.length ≤ M) : ∀ x, x ∈ l' → x.t.length ≤ M := fun x hx => hM x (h.subset hx)
mutual
theorem PT_ok {M : Nat} : ∀ {l : List Tk} {r : Option Tm} {l' : List Tk}, PT l r l' → (∀ x, x ∈ l → x.t.length ≤ M) → l.length ≤ M → l' <:+ l ∧ ∀ t, r = some t → okT M t ∧ t.size + l'.length ≤ l.length
  | _, _, _, .noName _, _, _ => ⟨List.suffix_refl _, fun t h => by cases h⟩
  | _, _, _, .var (x := x) (y := y) (z := z) (l := l) _ _ _, hM, hl => ⟨⟨[x, y, z], rfl⟩, fun t h => by
      injection h with h
      subst h
      have h1 := hM x (by simp)
      have h2 := hM z (by simp)
      exact ⟨.mk _ _ _ (by show x.t.toArray.size ≤ _; rw [List.size_toArray]; exact h1) (by show z.t.toArray.size ≤ _; rw [List.size_toArray]; exact h2) (by simp) (fun k hk => by cases hk), by simp [Tm.size, sizes]; omega⟩⟩
  | _, _, _, .noSort (x := x) (y := y) _ _ _, _, _ => ⟨⟨[x, y], rfl⟩, fun t h => by cases h⟩
  | _, _, _, .parts (x := x) (y := y) (l := l) (l' := l') (r := r) _ _ hL, hM, hl => by
      obtain ⟨h1, h2⟩ := LL_ok (M := M) hL (fun z hz => hM z (by simp at hz ⊢; exact .inr hz)) (by simp at hl ⊢; omega)
      refine ⟨h1.trans (List.suffix_cons _ _), fun t h => ?_⟩
      cases r with
      | none => cases h
      | some ks =>
        injection h with h
        subst h
        obtain ⟨h3, h4⟩ := h2 ks rfl
        have h5 := hM x (by simp)
        have h6 := len_sizes ks
        simp only [List.length_cons] at h4 hl
        exact ⟨.mk _ _ _ (by show x.t.toArray.size ≤ _; rw [List.size_toArray]; exact h5) (Nat.zero_le _) (by omega) h3, by simp [Tm.size]; omega⟩
theorem LL_ok {M : Nat} : ∀ {l : List Tk} {r : Option (List Tm)} {l' : List Tk}, LL l r l' → (∀ x, x ∈ l → x.t.length ≤ M) → l.length ≤ M → l' <:+ l ∧ ∀ ks, r = some ks → (∀ k, k ∈ ks → okT M k) ∧ sizes ks + l'.length ≤ l.length
  | _, _, _, .noParen _, _, _ => ⟨List.suffix_refl _, fun t h => by cases h⟩
  | _, _, _, .empty (y := y) (z := z) _ _, _, _ => ⟨⟨[y, z], rfl⟩, fun t h => by injection h with h; subst h; exact ⟨(fun k hk => by cases hk), by simp [sizes]; omega⟩⟩
  | _, _, _, .elems (y := y) _ _ hP, hM, hl => by
      obtain ⟨h1, h2⟩ := PL_ok (M := M) hP (fun z hz => hM z (by simp at hz ⊢; exact .inr hz)) (by simp at hl ⊢; omega)
      refine ⟨h1.trans (List.suffix_cons _ _), fun ks h => ?_⟩
      obtain ⟨h3, h4⟩ := h2 ks h
      exact ⟨h3, by simp only [List.length_cons] at h4 ⊢; omega⟩
theorem PL_ok {M : Nat} : ∀ {l : List Tk} {r : Option (List Tm)} {l' : List Tk}, PL l r l' → (∀ x, x ∈ l → x.t.length ≤ M) → l.length ≤ M → l' <:+ l ∧ ∀ ks, r = some ks → (∀ k, k ∈ ks → okT M k) ∧ sizes ks + l'.length ≤ l.length
  | _, _, _, .bad hT, hM, hl => ⟨(PT_ok (M := M) hT hM hl).1, fun t h => by cases h⟩
  | _, _, _, .last (t := t) (y := y) hT _, hM, hl => by
      obtain ⟨h1, h2⟩ := PT_ok (M := M) hT hM hl
      obtain ⟨h3, h4⟩ := h2 t rfl
      refine ⟨(List.suffix_cons _ _).trans h1, fun ks h => ?_⟩
      injection h with h
      subst h
      exact ⟨fun k hk => by rw [List.mem_singleton.1 hk]; exact h3, by simp only [List.length_cons] at h4; simp [sizes]; omega⟩
  | _, _, _, .noComma hT _ _, hM, hl => ⟨(PT_ok (M := M) hT hM hl).1, fun t h => by cases h⟩
  | _, _, _, .more (t := t) (y := y) (l' := l2) (r := r) hT _ _ hP, hM, hl => by
      obtain ⟨h1, h2⟩ := PT_ok (M := M) hT hM hl
      obtain ⟨h3, h4⟩ := h2 t rfl
      have hs : l2 <:+ _ := (List.suffix_cons y l2).trans h1
      obtain ⟨h5, h6⟩ := PL_ok (M := M) hP (suf_mem hs hM) (Nat.le_trans hs.length_le hl)
      refine ⟨h5.trans hs, fun ks h => ?_⟩
      cases r with
      | none => cases h
      | some ks' =>
        injection h with h
        subst h
        obtain ⟨h7, h8⟩ := h6 ks' rfl
        refine ⟨fun k hk => ?_, by simp only [List.length_cons] at h4; simp [sizes]; omega⟩
        rcases List.mem_cons.1 hk with rfl | hk
        · exact h3
        · exact h7 k hk
end

def E0 (a b er : Int) : Ending := .returned (.tuple #[TV0, .agg #[.int .i64 a, .int .i64 b], .int .i64 er])
/-- What Parse hands back. -/
def ParsePost (s : ByteArray) (w : World) (e : Ending) (w' : World) : Prop :=
  Below w.heap.size w w' ∧
    ((65536 < s.size ∧ e = E0 0 0 4) ∨
     (s.size ≤ 65536 ∧ ∃ p, toks s.data.toList 1 1 = .error p ∧ e = E0 p.1 p.2 7) ∨
     (s.size ≤ 65536 ∧ ∃ L r x l', toks s.data.toList 1 1 = .ok L ∧ PT L r (x :: l') ∧ (r = none ∨ x.k ≠ 5) ∧ e = E0 x.a x.b (fE x)) ∨
     (s.size ≤ 65536 ∧ ∃ L t x l', toks s.data.toList 1 1 = .ok L ∧ PT L (some t) (x :: l') ∧ x.k = 5 ∧
       ((fitsL (t.pre 1) = false ∧ e = E0 0 0 4) ∨ (fitsL (t.pre 1) = true ∧ agreeL (t.pre 1) = false ∧ e = E0 0 0 11) ∨
        (fitsL (t.pre 1) = true ∧ agreeL (t.pre 1) = true ∧ ∃ A c, e = .returned (.tuple #[TV t A c, .agg #[.int .i64 0, .int .i64 0], .int .i64 0]) ∧ TX (fun b => w.heap.size ≤ b ∧ b < w'.heap.size) w' t A))))
/-- The cells of Parse's results. -/
structure RW (w w' : World) : Prop where
  below : Below w.heap.size w w'
  c0 : w'.heap[w.heap.size]? = some (.cells #[.string ⟨#[]⟩, .string ⟨#[]⟩, .slice none 0 0] 56 (0, 0))
  c1 : w'.heap[w.heap.size + 1]? = some (.cells #[.int .i64 0, .int .i64 0] 23 (0, 0))
theorem RW.start (w : World) : RW w ((w.alloc (.cells #[.string ⟨#[]⟩, .string ⟨#[]⟩, .slice none 0 0] 56)).alloc (.cells #[.int .i64 0, .int .i64 0] 23)) :=
  ⟨((Below.refl _ _).alloc (Nat.le_refl _) _).alloc (by simp) _, (Below.heap_alloc _ _ _ (by simp)).trans (heap_alloc_new w _), by
    have := heap_alloc_new (w.alloc (.cells #[.string ⟨#[]⟩, .string ⟨#[]⟩, .slice none 0 0] 56)) (.cells #[.int .i64 0, .int .i64 0] 23)
    simpa using this⟩
theorem RW.next {w w1 w2 : World} (h : RW w w1) (hb : Below w1.heap.size w1 w2) : RW w w2 :=
  ⟨h.below.trans (hb.mono h.below.size), cells_below h.c0 hb, cells_below h.c1 hb⟩

theorem grown_block {w1 w2 : World} {P : Nat} {o : Obj} {b : Nat} (h : w1.heap[b]? = some o) (hg : w1.grownBy w2 (some P)) (hP : b ≠ P) : w2.heap[b]? = some o :=
  (hg.block b (Array.getElem?_eq_some_iff.1 h).1 (fun e => hP (by injection e))).trans h
theorem RW.grown {w w1 w2 : World} {P : Nat} (h : RW w w1) (hg : w1.grownBy w2 (some P)) (hP : w.heap.size + 1 < P) : RW w w2 :=
  ⟨h.below.grown hg h.below.size (fun k e => by injection e with e; omega), grown_block h.c0 hg (by omega), grown_block h.c1 hg (by omega)⟩
theorem pb_of_own {w : World} {B : Nat} {v : Value} {L : List Tk} (ho : w.ownsRow B 25 5 v L.length (tksCells L)) (hne : 0 < L.length) : ∃ g c, v = .slice (some ⟨g, 0, none⟩) L.length c ∧ L.length ≤ c ∧ c ≤ maxLen ∧ g < w.heap.size ∧ TkAt w g 0 L := by
  obtain ⟨A, cap, hv, hsl, _⟩ := slT_own ho
  rcases ho.2 with ⟨_, h0⟩ | ⟨g, cap', cur, hv', _, _, hn, hcm, _⟩
  · omega
  · rw [hv'] at hv
    injection hv with e1 e2 e3
    obtain ⟨b, off, e, hlt, hc⟩ := hsl hne
    rw [← e1] at e
    injection e with e
    injection e with e4 e5
    subst e4 e5
    exact ⟨g, cap', hv', hn, hcm, hlt, hc⟩
/-- The parser's box. -/
theorem pb_new {w : World} {g c : Nat} {L : List Tk} (h1 : L.length ≤ c) (h2 : c ≤ maxLen) (h3 : g < w.heap.size) (h4 : TkAt w g 0 L) (o : Obj) :
    PB ((w.alloc o).alloc (.cells #[.slice (some ⟨g, 0, none⟩) L.length c] 127)) (w.heap.size + 1) L := by
  have hb := heap_alloc_new (w.alloc o) (.cells #[.slice (some ⟨g, 0, none⟩) L.length c] 127)
  simp only [World.size_alloc] at hb
  have hB : Below w.heap.size w ((w.alloc o).alloc (.cells #[.slice (some ⟨g, 0, none⟩) L.length c] 127)) := ((Below.refl _ _).alloc (Nat.le_refl _) _).alloc (by simp) _
  refine ⟨g, 0, c, hb, h1, h2, by omega, fun i t ht => ?_⟩
  obtain ⟨c0, c1, c2, c3, c4⟩ := h4 i t ht
  exact ⟨(hB.cell (p := ⟨g, _, none⟩) h3).trans c0, (hB.cell (p := ⟨g, _, none⟩) h3).trans c1, (hB.cell (p := ⟨g, _, none⟩) h3).trans c2, (hB.cell (p := ⟨g, _, none⟩) h3).trans c3, (hB.cell (p := ⟨g, _, none⟩) h3).trans c4⟩

set_option maxHeartbeats 4000000 in
theorem Parse_full (s : ByteArray) (w : World) (hbig : 65536 < s.size) (hp : Pairs w) : Calls Tryd.prog 41 #[.string s] w (ParsePost s w) := by
  have H0 := Lib.hid (RW.start w)
  have HP0 := Lib.hid ((hp.alloc (.cells #[.string ⟨#[]⟩, .string ⟨#[]⟩, .slice none 0 0] 56)).alloc (.cells #[.int .i64 0, .int .i64 0] 23))
  clear hp
  · have HT := Lib.hid (tokens_full s ((w.alloc (.cells #[.string ⟨#[]⟩, .string ⟨#[]⟩, .slice none 0 0] 56)).alloc (.cells #[.int .i64 0, .int .i64 0] 23)) hbig)
    have HBIG := Lib.hid hbig
    clear hbig
    go_enter Tryd.func41, Tryd.ntmps41
    go_wp2_with fail
    refine HT.out.mono ?_
    rintro e w1 ⟨rfl, hb1⟩
    have H1 := Lib.hid (H0.out.next hb1)
    have H2 := Lib.hid (H1.out.next ((Below.refl _ _).alloc (Nat.le_refl _) (.cells #[.int .i64 0, .int .i64 0] 23)))
    have hs1 := hb1.size
    simp at hs1
    have hlt0 : w.heap.size < w1.heap.size := by omega
    have hlt1 : w.heap.size + 1 < w1.heap.size := by omega
    clear hb1 HT
    go_wp2_with fail
    have r0 := heap_alloc_new w1 (.cells #[.int .i64 0, .int .i64 0] 23)
    have H6 := H2.out
    clear H2
    generalize (w1.alloc (.cells #[.int .i64 0, .int .i64 0] 23)) = W5 at r0 H6 ⊢
    obtain ⟨⟨p0, p1⟩, pf0, pf1⟩ := blk2 r0
    obtain ⟨⟨x0, x1, x2⟩, xf0, xf1, xf2⟩ := blk3 H6.c0
    obtain ⟨⟨y0, y1⟩, yf0, yf1⟩ := blk2 H6.c1
    have HB6 := Lib.hid H6.below
    clear r0 H6
    go_region
    all_goals
      go_wp2
      refine bodyPost_ret (v := .tuple #[TV0, .agg #[.int .i64 0, .int .i64 0], .int .i64 4]) (by simp [results, Tryd.results41, go_sem, x0, x1, x2, y0, y1, TV0, hlt0, hlt1, World.size_setCell]) rfl ?_
      refine ⟨?_, .inl ⟨HBIG.out, rfl⟩⟩
      (repeat' (first | exact HB6.out | refine Below.drew ?_ | refine Below.setCell ?_ (by simp) _ | refine Below.alloc ?_ (by simp <;> omega) _))
set_option maxHeartbeats 4000000 in
theorem Parse_err (s : ByteArray) (w : World) (hle : s.size ≤ 65536) (hp : Pairs w) (p : Int × Int) (htk : toks s.data.toList 1 1 = .error p) : Calls Tryd.prog 41 #[.string s] w (ParsePost s w) := by
  have H0 := Lib.hid (RW.start w)
  have HP0 := Lib.hid ((hp.alloc (.cells #[.string ⟨#[]⟩, .string ⟨#[]⟩, .slice none 0 0] 56)).alloc (.cells #[.int .i64 0, .int .i64 0] 23))
  clear hp
  · have HS : Hid (s.size ≤ 65536) := Lib.hid (by omega)
    have HT := Lib.hid (tokens_any s ((w.alloc (.cells #[.string ⟨#[]⟩, .string ⟨#[]⟩, .slice none 0 0] 56)).alloc (.cells #[.int .i64 0, .int .i64 0] 23)) (by omega) HP0.out)
    clear hle
    go_enter Tryd.func41, Tryd.ntmps41
    go_wp2_with fail
    refine HT.out.mono ?_
    rintro e w1 ⟨hb1, hT⟩
    have H1 := Lib.hid (H0.out.next hb1)
    have H2 := Lib.hid (H1.out.next ((Below.refl _ _).alloc (Nat.le_refl _) (.cells #[.int .i64 0, .int .i64 0] 23)))
    have hs1' := hb1.size
    simp at hs1'
    have hlt0 : w.heap.size < w1.heap.size := by omega
    have hlt1 : w.heap.size + 1 < w1.heap.size := by omega
    clear HT
    rw [htk] at hT
    simp only at hT
    subst hT
    have HTK := Lib.hid htk
    have H3 := Lib.hid (H1.out.next ((Below.refl _ _).alloc (Nat.le_refl _) (.cells #[.int .i64 p.1, .int .i64 p.2] 23)))
    clear htk hb1
    go_wp2_with fail
    have r0 := heap_alloc_new w1 (.cells #[.int .i64 p.1, .int .i64 p.2] 23)
    have H6 := H3.out
    clear H2 H3
    generalize (w1.alloc (.cells #[.int .i64 p.1, .int .i64 p.2] 23)) = W5 at r0 H6 ⊢
    obtain ⟨⟨p0, p1⟩, pf0, pf1⟩ := blk2 r0
    obtain ⟨⟨x0, x1, x2⟩, xf0, xf1, xf2⟩ := blk3 H6.c0
    obtain ⟨⟨y0, y1⟩, yf0, yf1⟩ := blk2 H6.c1
    have HB6 := Lib.hid H6.below
    clear r0 H6
    go_region
    all_goals
      go_wp2
      refine bodyPost_ret (v := .tuple #[TV0, .agg #[.int .i64 p.1, .int .i64 p.2], .int .i64 7]) (by simp [results, Tryd.results41, go_sem, x0, x1, x2, y0, y1, TV0, hlt0, hlt1, World.size_setCell]) rfl ?_
      refine ⟨?_, .inr (.inl ⟨HS.out, p, HTK.out, rfl⟩)⟩
      (repeat' (first | exact HB6.out | refine Below.drew ?_ | refine Below.setCell ?_ (by simp) _ | refine Below.alloc ?_ (by simp <;> omega) _))
end Go.Proofs.YthbcfcbonmphfaaDoor
