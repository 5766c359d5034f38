/- Walks: Same and Clone. -/
import Derived.Test.YthbcfcbonmphfaaDoorJoinD
import Derived.Test.YthbcfcbonmphfaaDoorBackS
namespace Go.Proofs.YthbcfcbonmphfaaDoor
set_option maxRecDepth 100000
open Go.RowKit

theorem tksCells_get : ∀ (L : List Tk) (j : Nat) (u : Value), (tksCells L)[j]? = some u → ∃ (i : Nat) (t : Tk) (r : Nat), L[i]? = some t ∧ j = i * 5 + r ∧ r < 5 ∧ (tkCells t)[r]? = some u
  | [], j, u, h => by simp [tksCells] at h
  | t :: L, j, u, h => by
    have e : tksCells (t :: L) = tkCells t ++ tksCells L := by simp [tksCells]
    rw [e] at h
    have hl : (tkCells t).length = 5 := rfl
    rcases Nat.lt_or_ge j 5 with h5 | h5
    · rw [List.getElem?_append_left (by omega)] at h
      exact ⟨0, t, j, rfl, by omega, h5, h⟩
    · rw [List.getElem?_append_right (by omega), hl] at h
      obtain ⟨i, t', r, h1, h2, h3, h4⟩ := tksCells_get L (j - 5) u h
      exact ⟨i + 1, t', r, by simpa using h1, by omega, h3, h4⟩
theorem tksCells_at : ∀ (L : List Tk) (i : Nat) (t : Tk) (r : Nat), L[i]? = some t → r < 5 → (tksCells L)[i * 5 + r]? = (tkCells t)[r]?
  | [], i, t, r, h, _ => by simp at h
  | u :: L, 0, t, r, h, hr => by
    have e : tksCells (u :: L) = tkCells u ++ tksCells L := by simp [tksCells]
    have h' : u = t := by simpa using h
    have hl : (tkCells u).length = 5 := rfl
    rw [e, List.getElem?_append_left (by omega), h']
    congr 1; omega
  | u :: L, i + 1, t, r, h, hr => by
    have e : tksCells (u :: L) = tkCells u ++ tksCells L := by simp [tksCells]
    have hl : (tkCells u).length = 5 := rfl
    rw [e, List.getElem?_append_right (by omega), hl]
    have := tksCells_at L i t r (by simpa using h) hr
    rw [← this]
    congr 1; omega
/-- A row of the call's own is a slice of tokens. -/
theorem slT_own {w : World} {base n : Nat} {v : Value} {L : List Tk} (h : w.ownsRow base 25 5 v n (tksCells L)) : ∃ A cap, v = .slice A L.length cap ∧ SlT w A L ∧ n = L.length := by
  have hn : n = L.length := by have := h.1; rw [tksCells_len] at this; omega
  subst hn
  rcases h.2 with ⟨rfl, h0⟩ | ⟨g, cap, cur, rfl, _, hh, _⟩
  · exact ⟨none, 0, by rw [h0], fun hp => absurd hp (by omega), rfl⟩
  · refine ⟨_, cap, rfl, fun hp => ⟨g, 0, rfl, ?_, fun i t ht => ?_⟩, rfl⟩
    · exact (h.lt g rfl).2
    · have hi : i < L.length := (List.getElem?_eq_some_iff.1 ht).1
      have c := fun r (hr : r < 5) => (h.cellAt (i * 5 + r) (by omega)).trans (tksCells_at L i t r ht hr)
      have c0 := c 0 (by omega)
      have c1 := c 1 (by omega)
      have c2 := c 2 (by omega)
      have c3 := c 3 (by omega)
      have c4 := c 4 (by omega)
      simp only [Nat.zero_add]
      exact ⟨c0, c1, c2, c3, c4⟩
theorem slT_news {w : World} {b off : Nat} {L : List Tk} (h : ∀ (i : Nat) (t : Tk), L[i]? = some t → w.cell? ⟨b, off + i * 5, none⟩ = some (.int .i64 t.k) ∧ w.cell? ⟨b, off + i * 5 + 1, none⟩ = some (.string ⟨t.t.toArray⟩) ∧
    w.cell? ⟨b, off + i * 5 + 2, none⟩ = some (.int .i64 t.n) ∧ w.cell? ⟨b, off + i * 5 + 3, none⟩ = some (.int .i64 t.a) ∧ w.cell? ⟨b, off + i * 5 + 4, none⟩ = some (.int .i64 t.b)) :
    ∀ j u, (tksCells L)[j]? = some u → w.cell? ((⟨b, off, none⟩ : Addr).add j) = some u := by
  intro j u hu
  obtain ⟨i, t, r, h1, rfl, hr, h4⟩ := tksCells_get L j u hu
  have ad : ∀ n, (⟨b, off, none⟩ : Addr).add n = ⟨b, off + n, none⟩ := fun n => Go.WideShapes.add_plain ..
  rw [ad]
  obtain ⟨c0, c1, c2, c3, c4⟩ := h i t h1
  rw [← Nat.add_assoc]
  match r, hr with
  | 0, _ => rw [Nat.add_zero, c0]; exact h4
  | 1, _ => rw [c1]; exact h4
  | 2, _ => rw [c2]; exact h4
  | 3, _ => rw [c3]; exact h4
  | 4, _ => rw [c4]; exact h4
theorem kt_at {L M : List Tk} (h : L.map kt = M.map kt) (i : Nat) (t : Tk) (ht : L[i]? = some t) : ∃ u, M[i]? = some u ∧ u.k = t.k ∧ u.t = t.t ∧ u.n = t.n := by
  have h1 : (L.map kt)[i]? = some (kt t) := by rw [List.getElem?_map, ht]; rfl
  rw [h, List.getElem?_map] at h1
  cases hm : M[i]? with
  | none => rw [hm] at h1; cases h1
  | some u =>
    rw [hm] at h1
    have e : kt u = kt t := by simpa using h1
    unfold kt at e
    simp only [Prod.mk.injEq] at e
    exact ⟨u, rfl, e.1, e.2.1, e.2.2⟩

set_option maxRecDepth 100000 in
set_option maxHeartbeats 1000000 in
theorem same_true (A1 A2 : Option Addr) (c1 c2 n : Nat) (L M : List Tk) (w : World) (hn : L.length = n) (hm : n ≤ maxLen) (h1 : SlT w A1 L) (h2 : SlT w A2 M) (hk : L.map kt = M.map kt) :
    Calls Tryd.prog 27 #[.slice A1 n c1, .slice A2 n c2] w fun e w' => e = .returned (.bool true) ∧ ∃ q, w' = w.drewN q := by
  unfold maxLen at hm
  have HM : Hid (M.length = n) := by have := congrArg List.length hk; simp at this; exact this.symm.trans hn
  have HN := Lib.hid hn
  have H1 := Lib.hid h1
  have H2 := Lib.hid h2
  have HK := Lib.hid hk
  clear hn h1 h2 hk
  go_enter Tryd.func27, Tryd.ntmps27
  go_wp2_with fail
  go_loopw [5] (fun i wr => ∃ k q : Nat, k ≤ n ∧ i = .int .i64 k ∧ wr = w.drewN q) (fun i _ => n - (intOf i).toNat)
  case atStart => exact ⟨0, 0, by omega, rfl, rfl⟩
  case round =>
    obtain ⟨k, q, hkn, rfl, rfl⟩ := hrel
    by_cases hlt : k < n
    · obtain ⟨t, ht⟩ : ∃ t, L[k]? = some t := ⟨L[k]'(by rw [HN.out]; exact hlt), List.getElem?_eq_getElem _⟩
      obtain ⟨u, hu, e1, e2, e3⟩ := kt_at HK.out k t ht
      obtain ⟨b, off, hA, hblt, hc⟩ := H1.out (by rw [HN.out]; omega)
      subst hA
      obtain ⟨b', off', hA', hblt', hc'⟩ := H2.out (by rw [HM.out]; omega)
      subst hA'
      obtain ⟨x0, x1, x2, _, _⟩ := hc k t ht
      obtain ⟨y0, y1, y2, _, _⟩ := hc' k u hu
      rw [e1] at y0
      rw [e2] at y1
      rw [e3] at y2
      have hkI : (k : Int) < (n : Int) := by omega
      clear hc hc' ht hu e1 e2 e3
      go_wp2
      go_quiet (fail)
      go_wp2
      go_roundw
      case rel => exact ⟨k + 1, _, by omega, by go_num, rfl⟩
      case measure => simp [intOf]; omega
    · go_wp2
      go_ret
      exact ⟨rfl, _, rfl⟩

set_option maxHeartbeats 1000000 in
theorem clone_any (A : Option Addr) (cap : Nat) (L : List Tk) (w : World) (hlen : L.length ≤ 1000) (hl : SlT w A L) :
    Calls Tryd.prog 26 #[.slice A L.length cap] w fun e w' => ∃ v, e = .returned v ∧ w'.ownsRow w.heap.size 25 5 v L.length (tksCells L) ∧ Below w.heap.size w w' := by
  have hnil := fun W : World => Lib.run_eql_slice_nil (P := Tryd.prog) W 30 25 A L.length cap 0 0 Tryd.underlying30
  obtain ⟨i0, hi, hz0, hz1, hz2⟩ := info_parts Tryd.infoToken
  cases A with
  | none =>
    have h0 : L = [] := by
      rcases Nat.eq_zero_or_pos L.length with h | h
      · exact List.eq_nil_of_length_eq_zero h
      · obtain ⟨b, off, e, _⟩ := hl h; cases e
    subst h0
    clear hl
    simp only [List.length_nil, Option.isNone_none] at hnil
    go_enter Tryd.func26, Tryd.ntmps26
    go_wp2
    go_ret
    exact ⟨_, rfl, World.ownsRow_nil _ _ _ _, Below.refl _ _⟩
  | some a =>
    have hnews : Hid (∀ j u, (tksCells L)[j]? = some u → w.cell? (a.add j) = some u) := by
      intro j u hu
      have hpos : 0 < L.length := by
        have := (List.getElem?_eq_some_iff.1 hu).1
        rw [tksCells_len] at this; omega
      obtain ⟨b, off, e, _, hc⟩ := hl hpos
      injection e with e
      subst e
      exact slT_news hc j u hu
    have hnews2 : Hid (∀ (W : World), Below w.heap.size w W → ∀ j u, (tksCells L)[j]? = some u → W.cell? (a.add j) = some u) := by
      intro W hb j u hu
      have hpos : 0 < L.length := by
        have := (List.getElem?_eq_some_iff.1 hu).1
        rw [tksCells_len] at this; omega
      obtain ⟨b, off, e, hlt, hc⟩ := hl hpos
      injection e with e
      subst e
      have ad : ∀ n, (⟨b, off, none⟩ : Addr).add n = ⟨b, off + n, none⟩ := fun n => Go.WideShapes.add_plain ..
      have := slT_news hc j u hu
      rw [ad] at this ⊢
      exact (hb.cell (p := ⟨b, off + j, none⟩) hlt).trans this
    have hlN : Hid ((tksCells L).length = L.length * 5) := tksCells_len L
    have h1 : Hid (∀ u ∈ tksCells L, u.oneCell' = true) := by
      intro u hu
      obtain ⟨j, hj, rfl⟩ := List.mem_iff_getElem.1 hu
      obtain ⟨i, t, r, _, _, hr, h4⟩ := tksCells_get L j _ (List.getElem?_eq_getElem hj)
      match r, hr with
      | 0, _ => simp [tkCells] at h4; rw [← h4]; rfl
      | 1, _ => simp [tkCells] at h4; rw [← h4]; rfl
      | 2, _ => simp [tkCells] at h4; rw [← h4]; rfl
      | 3, _ => simp [tkCells] at h4; rw [← h4]; rfl
      | 4, _ => simp [tkCells] at h4; rw [← h4]; rfl
    have hm : 0 + L.length ≤ maxLen := by unfold maxLen; omega
    have hby : (0 + L.length) * 48 ≤ 140737488355328 := by omega
    have HO : Hid ((w.alloc (.cells #[] 25)).ownsRow w.heap.size 25 5 (.slice (some ⟨w.heap.size, 0, none⟩) 0 0) 0 []) :=
      World.ownsRow_lit w #[] 0 (Nat.le_refl _) (by unfold maxLen; omega) rfl
    clear hl
    go_enter Tryd.func26, Tryd.ntmps26
    go_wp2_with (at_builtin; refine wpList_append_own _ rfl (.tmp 5) (.tmp 6) 30 rfl w.heap.size 25 i0 _ 5 48 Tryd.underlying30 hi hz0 hz1 hz2 rfl (by decide) _ 0 [] rfl HO.out a L.length cap (tksCells L) rfl hlN.out (hnews2.out _ ((Below.refl _ _).alloc (Nat.le_refl _) _)) h1.out hm hby ?c5 ?_)
    case c5 => simp
    intro v' w2 ho2 hg2 _
    have R : w2.ownsRow w.heap.size 25 5 v' L.length (tksCells L) ∧ Below w.heap.size w w2 := by
      refine ⟨by simpa using ho2, ((Below.refl _ _).alloc (Nat.le_refl _) _).grown hg2 (by simp) (fun k e => ?_)⟩
      simp [Value.ownBlock] at e
      omega
    have HR := Lib.hid R
    clear R ho2 hg2
    go_wp2
    go_ret
    exact ⟨_, rfl, HR.out.1, HR.out.2⟩
end Go.Proofs.YthbcfcbonmphfaaDoor
