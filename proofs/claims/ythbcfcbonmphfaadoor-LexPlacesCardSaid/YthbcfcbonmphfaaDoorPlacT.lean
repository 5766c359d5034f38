/- LexPlaces: plain facts for the loop over the tokens. -/
import Derived.Test.YthbcfcbonmphfaaDoorPlacB
namespace Go.Proofs.YthbcfcbonmphfaaDoor
set_option maxRecDepth 100000
open Go.RowKit

theorem tkText_le13 (t : Tk) : (tkText t).length ≤ t.t.length + 13 := by
  unfold tkText
  split
  · have := decF_len 13 t.n.toNat
    unfold dec; omega
  · omega
theorem jres_one (t : Tk) (hv : validT t.k t.t t.n = true) (hl : t.t.length ≤ 1000) : jres [t] = (part t, 0) := by
  have hj : jval [t] = true := jval_of [t] fun i u hi hu => by
    have h0 : i = 0 := by simp at hi; omega
    subst h0
    have e : t = u := by simpa using hu
    subst e
    unfold tkOk
    simp [hv]
  have ht := tkText_le13 t
  unfold jres
  rw [if_pos hj]
  unfold jgo part
  by_cases h5 : t.k = 5
  · rw [if_pos h5, if_pos h5]
  · rw [if_neg h5, if_neg h5, if_neg (by simp; omega)]
    simp [jgo]
theorem ptxt_step (g : Nat → Nat) (L : List Tk) (k : Nat) (t : Tk) (h : L[k]? = some t) : ptxt g k (L.drop k) = part t ++ (gapL (g k) ++ ptxt g (k + 1) (L.drop (k + 1))) := by
  rw [drop_of L k t h, ptxt]
theorem Ends_at : ∀ (L : List Tk) (i : Nat) (t : Tk), Ends L → L[i]? = some t → (t.k = 5 ↔ i + 1 = L.length)
  | [], _, _, h, _ => h.elim
  | u :: L, 0, t, h, ht => by
    have e : u = t := by simpa using ht
    subst e
    unfold Ends at h
    split at h
    · rename_i h5
      subst h
      simp [h5]
    · rename_i h5
      cases L with
      | nil => exact h.elim
      | cons v L => simp [h5]
  | u :: L, i + 1, t, h, ht => by
    have ht' : L[i]? = some t := by simpa using ht
    unfold Ends at h
    split at h
    · subst h; simp at ht'
    · have := Ends_at L i t h ht'
      rw [this]; simp
theorem Asc_at : ∀ (L : List Tk) (a b : Int) (i : Nat) (t : Tk), Asc a b L → L[i]? = some t → 1 ≤ t.a ∧ 1 ≤ t.b
  | [], _, _, _, _, _, h => by simp at h
  | u :: L, a, b, 0, t, h, ht => by
    have e : u = t := by simpa using ht
    subst e
    exact ⟨h.2.1, h.2.2.1⟩
  | u :: L, a, b, i + 1, t, h, ht => Asc_at L _ _ i t h.2.2.2 (by simpa using ht)
theorem Asc_next : ∀ (L : List Tk) (a b : Int) (i : Nat) (u t : Tk), Asc a b L → L[i]? = some u → L[i + 1]? = some t → u.a < t.a ∨ (u.a = t.a ∧ u.b + 1 ≤ t.b)
  | [], _, _, _, _, _, _, h, _ => by simp at h
  | v :: L, a, b, 0, u, t, h, hu, ht => by
    have e : v = u := by simpa using hu
    subst e
    cases L with
    | nil => simp at ht
    | cons x L =>
      have e : x = t := by simpa using ht
      subst e
      exact h.2.2.2.1
  | v :: L, a, b, i + 1, u, t, h, hu, ht => Asc_next L _ _ i u t h.2.2.2 (by simpa using hu) (by simpa using ht)
/-- One token of a slice is a slice of tokens. -/
theorem SlT.one {w : World} {b off k : Nat} {L : List Tk} {t : Tk} (h : SlT w (some ⟨b, off, none⟩) L) (ht : L[k]? = some t) : SlT w (some ⟨b, off + k * 5, none⟩) [t] := by
  intro _
  have hk := (List.getElem?_eq_some_iff.1 ht).1
  obtain ⟨b', off', e, hlt, hc⟩ := h (by omega)
  injection e with e
  injection e with e1 e2 _
  subst e1 e2
  refine ⟨b, off + k * 5, rfl, hlt, fun i u hu => ?_⟩
  have h0 : i = 0 := by
    rcases Nat.eq_zero_or_pos i with h | h
    · exact h
    · rw [List.getElem?_eq_none (by simp; omega)] at hu; cases hu
  subst h0
  have e : t = u := by simpa using hu
  subst e
  have := hc k t ht
  simpa using this
/-- Bytes of a slice that came in. -/
def ByT (w : World) (G : Option Addr) (gs : List UInt8) : Prop :=
  0 < gs.length → ∃ b off, G = some ⟨b, off, none⟩ ∧ b < w.heap.size ∧ ∀ (i : Nat) (c : UInt8), gs[i]? = some c → w.cell? ⟨b, off + i, none⟩ = some (.int .u8 c.toNat)
theorem ByT.below {w w' : World} {G : Option Addr} {gs : List UInt8} (h : ByT w G gs) (hb : Below w.heap.size w w') : ByT w' G gs := fun hl => by
  obtain ⟨b, off, rfl, hlt, hc⟩ := h hl
  have hs := hb.size
  exact ⟨b, off, rfl, by omega, fun i c hi => (hb.cell (p := ⟨b, off + i, none⟩) hlt).trans (hc i c hi)⟩
/-- Which gap stands behind the i-th token. -/
def gIdx (gs : List UInt8) (i : Nat) : Nat := match gs[i]? with
  | some c => c.toNat % 5
  | none => 0
end Go.Proofs.YthbcfcbonmphfaaDoor
