/- A term that came in. -/
import Derived.Test.YthbcfcbonmphfaaDoorLexNames
import Derived.Test.YthbcfcbonmphfaaDoorTermC
import Derived.Deep.Slices
namespace Go.Proofs.YthbcfcbonmphfaaDoor
set_option maxRecDepth 100000
open Go.ChangeShapes Go.WideShapes Go.ChangeAt Go.WideMaps Go.WideElems Go.RowKit Go.Deep
open Go.ChangeMaps (open_string)

abbrev Kd := Tm × Option Addr × Nat
def kdC (x : Kd) : List Value := [.string x.1.nm, .string x.1.st, .slice x.2.1 x.1.ks.length x.2.2]
theorem kd_list (len : Nat) (P : Nat → Kd → Prop) (h : ∀ i, i < len → ∃ t, P i t) : ∃ L : List Kd, L.length = len ∧ ∀ (i : Nat) (t : Kd), L[i]? = some t → P i t := by
  induction len with
  | zero => exact ⟨[], rfl, fun i t ht => by simp at ht⟩
  | succ n ih =>
    obtain ⟨L, hL, hP⟩ := ih (fun i hi => h i (by omega))
    obtain ⟨t, ht⟩ := h n (by omega)
    refine ⟨L ++ [t], by simp [hL], fun i u hu => ?_⟩
    rcases Nat.lt_or_ge i n with hi | hi
    · rw [List.getElem?_append_left (by omega)] at hu
      exact hP i u hu
    · rw [List.getElem?_append_right (by omega), hL] at hu
      have : i = n := by
        rcases Nat.eq_zero_or_pos (i - n) with h0 | h0
        · omega
        · rw [List.getElem?_eq_none (by simp; omega)] at hu; cases hu
      subst this
      simp at hu
      rw [← hu]
      exact ht

section
variable {H : Type} {enc : TypeId × Value → H}
theorem term_cells {w : World} {spare : Nat → Bool} {held : Bool} (n : Nat) : ∀ {cs : List Value} {x : DataW H × List MemPlace}, DataW.trod enc Tryd.prog w 0 spare held n 56 cs = some x →
    ∃ k : Kd, cs = kdC k ∧ okT maxLen k.1 ∧ TRep w.heap.size w k.1 k.2.1 := by
  induction n using Nat.strongRecOn with
  | ind n ih =>
    intro cs x h
    have hC : Tryd.prog.cellsOf 56 = 3 := by kernel_rfl
    have hC9 : Tryd.prog.cellsOf 9 = 1 := by kernel_rfl
    have hC54 : Tryd.prog.cellsOf 54 = 1 := by kernel_rfl
    obtain ⟨xs, m, rfl, hx, hl3, hlen, hg⟩ := DataW.trod_struct Tryd.underlying56 h
    match cs, hl3.trans hC with
    | [c0, c1, c2], _ =>
      match xs, hlen with
      | [y0, y1, y2], _ =>
        have t0 : DataW.trod enc Tryd.prog w 0 spare held m 9 [c0] = some y0 := by simpa [hC9] using hg 0 _ rfl
        have t1 : DataW.trod enc Tryd.prog w 0 spare held m 9 [c1] = some y1 := by simpa [hC9] using hg 1 _ rfl
        have t2 : DataW.trod enc Tryd.prog w 0 spare held m 54 [c2] = some y2 := by simpa [hC54] using hg 2 _ rfl
        obtain ⟨nm, e0, _, hnm⟩ := DataW.trod_string Tryd.underlying9 t0
        obtain ⟨st, e1, _, hst⟩ := DataW.trod_string Tryd.underlying9 t1
        simp at e0 e1
        subst e0 e1
        rcases DataW.trod_slice Tryd.underlying54 t2 with ⟨hcs, _⟩ | ⟨a, len, cap, elems, rest, m', rfl, hcs, _, _, hl, hm, hel, hi, _, _⟩
        · simp at hcs
          subst hcs
          exact ⟨⟨.mk nm st [], none, 0⟩, rfl, .mk _ _ _ hnm hst (Nat.zero_le _) (fun k hk => by cases hk), TRep.leaf _ _ _ _ rfl⟩
        · simp at hcs
          subst hcs
          obtain ⟨L, hL, hP⟩ := kd_list len (fun i k => w.cells? 0 (a.add (i * 3)) 3 = some (kdC k) ∧ okT maxLen k.1 ∧ TRep w.heap.size w k.1 k.2.1) (fun i hlt => by
            have h1 := hi i hlt
            rw [hC] at h1
            have h2 : elems[i]? = some (elems[i]'(by omega)) := List.getElem?_eq_getElem _
            rw [h2] at h1
            obtain ⟨cs', hc1, hc2⟩ := Option.bind_eq_some_iff.1 h1
            obtain ⟨k, rfl, hk1, hk2⟩ := ih m' (by omega) hc2
            exact ⟨k, hc1, hk1, hk2⟩)
          obtain ⟨b, off, spot⟩ := a
          have hget : ∀ (i : Nat) (t : Tm), (L.map (·.1))[i]? = some t → ∃ k, L[i]? = some k ∧ k.1 = t := fun i t ht => by
            rw [List.getElem?_map] at ht
            cases hk : L[i]? with
            | none => rw [hk] at ht; cases ht
            | some k => rw [hk] at ht; injection ht with ht; exact ⟨k, rfl, ht⟩
          have cell : ∀ (i : Nat) (k : Kd), L[i]? = some k → ∀ j, j < 3 → w.cell? ((⟨b, off, spot⟩ : Addr).add (i * 3 + j)) = (kdC k)[j]? := fun i k hk j hj => by
            obtain ⟨_, _, hat⟩ := World.cells?_some (hP i k hk).1
            rw [← add_add]
            exact hat j hj
          have hpos : 0 < L.length → spot = none ∧ b < w.heap.size := fun hpos => by
            have h0 : L[0]? = some L[0] := List.getElem?_eq_getElem hpos
            have hc := cell 0 _ h0 0 (by omega)
            have hs : spot = none := by simpa [Addr.add] using World.cell?_spot hc
            subst hs
            rw [show (⟨b, off, none⟩ : Addr).add (0 * 3 + 0) = ⟨b, off + (0 * 3 + 0), none⟩ from Go.WideShapes.add_plain ..] at hc
            exact ⟨rfl, World.block_lt_of_cell? w _ hc⟩
          have hlt : ∀ {i : Nat} {k : Kd}, L[i]? = some k → 0 < L.length := fun {i k} hk => by have := (List.getElem?_eq_some_iff.1 hk).1; omega
          have cell' : ∀ (i : Nat) (k : Kd), L[i]? = some k → ∀ j, j < 3 → w.cell? ⟨b, off + (i * 3 + j), none⟩ = (kdC k)[j]? := fun i k hk j hj => by
            have hc := cell i k hk j hj
            obtain ⟨hs, _⟩ := hpos (hlt hk)
            subst hs
            rw [show (⟨b, off, none⟩ : Addr).add (i * 3 + j) = ⟨b, off + (i * 3 + j), none⟩ from Go.WideShapes.add_plain ..] at hc
            exact hc
          refine ⟨⟨.mk nm st (L.map (·.1)), some ⟨b, off, spot⟩, cap⟩, ?_, .mk _ _ _ hnm hst (by rw [List.length_map, hL]; omega) (fun k hk => ?_), ?_⟩
          · simp [kdC, hL]
          · obtain ⟨y, hy, rfl⟩ := List.mem_map.1 hk
            obtain ⟨i, hi'⟩ := List.getElem?_of_mem hy
            exact (hP i y hi').2.1
          · refine .mk nm st _ _ b off (fun i => ((L[i]?).map (·.2.1)).getD none) (fun i => ((L[i]?).map (·.2.2)).getD 0) (fun h => ?_) (fun i t ht => ?_) (fun i t ht => ?_) (fun i t ht => ?_) (fun i t ht => ?_)
            · rw [List.length_map] at h
              obtain ⟨hs, hb⟩ := hpos h
              exact ⟨by rw [hs], hb⟩
            · obtain ⟨k, hk, rfl⟩ := hget i t ht
              simpa [kdC] using cell' i k hk 0 (by omega)
            · obtain ⟨k, hk, rfl⟩ := hget i t ht
              simpa [kdC, Nat.add_assoc] using cell' i k hk 1 (by omega)
            · obtain ⟨k, hk, rfl⟩ := hget i t ht
              rw [hk]
              simpa [kdC, Nat.add_assoc] using cell' i k hk 2 (by omega)
            · obtain ⟨k, hk, rfl⟩ := hget i t ht
              rw [hk]
              exact (hP i k hk).2.2
/-- A term that came in. -/
theorem open_term {w : World} {spare : Nat → Bool} {held : Bool} {r : Reach} {b0 : Nat} {v : Value} {d : DataW H} {p : List MemPlace}
    (hv : Value.okWide Tryd.prog w r b0 56 v) (h : DataW.Trod enc Tryd.prog w 0 spare held 56 v d p) :
    ∃ (t : Tm) (A : Option Addr) (c : Nat), v = TV t A c ∧ okT maxLen t ∧ TRep w.heap.size w t A := by
  obtain ⟨cs, rfl, hsz⟩ := okWide_struct Tryd.underlying56 hv
  obtain ⟨fuel, hf⟩ := h
  obtain ⟨⟨t, A, c⟩, hcs, hok, hrep⟩ := term_cells fuel hf
  refine ⟨t, A, c, ?_, hok, hrep⟩
  simp [Value.cells, kdC] at hcs
  unfold TV
  rw [← hcs]
end
end Go.Proofs.YthbcfcbonmphfaaDoor
