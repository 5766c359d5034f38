/- The parser of terms. -/
import Derived.Maps.AppendAt
import Derived.Test.YthbcfcbonmphfaaDoorTermP
namespace Go.Proofs.YthbcfcbonmphfaaDoor
open Go.RowKit Go.Shelf
set_option maxRecDepth 100000

/-- A term in memory, in blocks of a kind. -/
inductive TX (S : Nat → Prop) (w : World) : Tm → Option Addr → Prop
  | mk (nm st : ByteArray) (ks : List Tm) (A : Option Addr) (b off : Nat) (al : Nat → Option Addr) (cs : Nat → Nat)
    (hA : 0 < ks.length → A = some ⟨b, off, none⟩ ∧ S b)
    (h0 : ∀ i k, ks[i]? = some k → w.cell? ⟨b, off + i * 3, none⟩ = some (.string k.nm))
    (h1 : ∀ i k, ks[i]? = some k → w.cell? ⟨b, off + i * 3 + 1, none⟩ = some (.string k.st))
    (h2 : ∀ i k, ks[i]? = some k → w.cell? ⟨b, off + i * 3 + 2, none⟩ = some (.slice (al i) k.ks.length (cs i)))
    (hr : ∀ i k, ks[i]? = some k → TX S w k (al i)) : TX S w (.mk nm st ks) A
theorem TX.leaf (S : Nat → Prop) (w : World) (nm st : ByteArray) (A : Option Addr) : TX S w (.mk nm st []) A :=
  .mk nm st [] A 0 0 (fun _ => none) (fun _ => 0) (fun h => absurd h (by simp)) (fun i k h => by simp at h) (fun i k h => by simp at h) (fun i k h => by simp at h) (fun i k h => by simp at h)
theorem TX.named {S : Nat → Prop} {w : World} {nm st : ByteArray} {ks : List Tm} {A : Option Addr} (h : TX S w (.mk nm st ks) A) (nm' st' : ByteArray) : TX S w (.mk nm' st' ks) A := by
  cases h with
  | mk _ _ _ _ b off al cs hA h0 h1 h2 hr => exact .mk nm' st' ks A b off al cs hA h0 h1 h2 hr
theorem TX.imp {S S' : Nat → Prop} {w : World} {t : Tm} {A : Option Addr} (h : TX S w t A) (hs : ∀ b, S b → S' b) : TX S' w t A := by
  induction h with
  | mk nm st ks A b off al cs hA h0 h1 h2 hr ih => exact .mk nm st ks A b off al cs (fun h => ⟨(hA h).1, hs _ (hA h).2⟩) h0 h1 h2 ih
theorem TX.keep {S : Nat → Prop} {w w' : World} {t : Tm} {A : Option Addr} (h : TX S w t A) (hk : ∀ b, S b → w'.heap[b]? = w.heap[b]?) : TX S w' t A := by
  induction h with
  | mk nm st ks A b off al cs hA h0 h1 h2 hr ih =>
    have hc : ∀ i k o, ks[i]? = some k → w'.cell? ⟨b, o, none⟩ = w.cell? ⟨b, o, none⟩ := fun i k o hi => World.cell?_of_block (hk b (hA (by have := (List.getElem?_eq_some_iff.1 hi).1; omega)).2)
    exact .mk nm st ks A b off al cs hA (fun i k hi => (hc i k _ hi).trans (h0 i k hi)) (fun i k hi => (hc i k _ hi).trans (h1 i k hi)) (fun i k hi => (hc i k _ hi).trans (h2 i k hi)) ih
theorem TX.rep {S : Nat → Prop} {w : World} {t : Tm} {A : Option Addr} (h : TX S w t A) {n₀ : Nat} (hs : ∀ b, S b → b < n₀) : TRep n₀ w t A := by
  induction h with
  | mk nm st ks A b off al cs hA h0 h1 h2 hr ih => exact .mk nm st ks A b off al cs (fun h => ⟨(hA h).1, hs _ (hA h).2⟩) h0 h1 h2 ih

def sym (t : Tk) (s : List UInt8) : Prop := t.k = 4 ∧ t.t = s
instance (t : Tk) (s : List UInt8) : Decidable (sym t s) := inferInstanceAs (Decidable (_ ∧ _))
/-- The tokens end with an end. -/
def EndsK : List Tk → Prop
  | [] => False
  | [e] => e.k = 5
  | _ :: y :: l => EndsK (y :: l)
theorem EndsK.tail {t : Tk} {l : List Tk} (h : EndsK (t :: l)) (hk : t.k ≠ 5) : ∃ u r, l = u :: r ∧ EndsK l := by
  cases l with
  | nil => exact absurd h hk
  | cons u r => exact ⟨u, r, rfl, h⟩
theorem EndsK.ne {l : List Tk} (h : EndsK l) : ∃ t r, l = t :: r := by
  cases l with
  | nil => exact absurd h (by simp [EndsK])
  | cons t r => exact ⟨t, r, rfl⟩

def nmOf (t : Tk) : ByteArray := ⟨t.t.toArray⟩
mutual
/-- What a term is read as: the term, or nothing, and the tokens that are left. -/
inductive PT : List Tk → Option Tm → List Tk → Prop
  | noName {x : Tk} {l : List Tk} : x.k ≠ 1 → PT (x :: l) none (x :: l)
  | var {x y z : Tk} {l : List Tk} : x.k = 1 → sym y [58] → z.k = 1 → PT (x :: y :: z :: l) (some (.mk (nmOf x) (nmOf z) [])) l
  | noSort {x y z : Tk} {l : List Tk} : x.k = 1 → sym y [58] → z.k ≠ 1 → PT (x :: y :: z :: l) none (z :: l)
  | parts {x y : Tk} {l l' : List Tk} {r : Option (List Tm)} : x.k = 1 → ¬ sym y [58] → LL (y :: l) r l' → PT (x :: y :: l) (r.map (.mk (nmOf x) ⟨#[]⟩)) l'
/-- A list in parentheses. -/
inductive LL : List Tk → Option (List Tm) → List Tk → Prop
  | noParen {y : Tk} {l : List Tk} : ¬ sym y [40] → LL (y :: l) none (y :: l)
  | empty {y z : Tk} {l : List Tk} : sym y [40] → sym z [41] → LL (y :: z :: l) (some []) l
  | elems {y z : Tk} {l l' : List Tk} {r : Option (List Tm)} : sym y [40] → ¬ sym z [41] → PL (z :: l) r l' → LL (y :: z :: l) r l'
/-- Its elements. -/
inductive PL : List Tk → Option (List Tm) → List Tk → Prop
  | bad {l l' : List Tk} : PT l none l' → PL l none l'
  | last {l l' : List Tk} {t : Tm} {y : Tk} : PT l (some t) (y :: l') → sym y [41] → PL l (some [t]) l'
  | noComma {l l' : List Tk} {t : Tm} {y : Tk} : PT l (some t) (y :: l') → ¬ sym y [41] → ¬ sym y [44] → PL l none (y :: l')
  | more {l l' l'' : List Tk} {t : Tm} {y : Tk} {r : Option (List Tm)} : PT l (some t) (y :: l') → ¬ sym y [41] → sym y [44] → PL l' r l'' → PL l (r.map (t :: ·)) l''
end

/-- What term hands back. -/
def TPost (P : Nat) (l : List Tk) (w : World) (e : Ending) (w' : World) : Prop :=
  ∃ l', PB w' P l' ∧ EndsK l' ∧ l'.length ≤ l.length ∧ w.grownBy w' (some P) ∧
    ((∃ t A c, PT l (some t) l' ∧ e = .returned (.tuple #[TV t A c, .bool true]) ∧ TX (fun b => w.heap.size ≤ b ∧ b < w'.heap.size) w' t A) ∨
     (∃ n, PT l none l' ∧ e = .returned (.tuple #[.agg #[.string n, .string ⟨#[]⟩, .slice none 0 0], .bool false])))
/-- What list hands back. -/
def LPost (P : Nat) (l : List Tk) (w : World) (e : Ending) (w' : World) : Prop :=
  ∃ l', PB w' P l' ∧ EndsK l' ∧ l'.length ≤ l.length ∧ w.grownBy w' (some P) ∧
    ((∃ ks A c, LL l (some ks) l' ∧ e = .returned (.tuple #[.slice A ks.length c, .bool true]) ∧ TX (fun b => w.heap.size ≤ b ∧ b < w'.heap.size) w' (.mk ⟨#[]⟩ ⟨#[]⟩ ks) A) ∨
     (LL l none l' ∧ e = .returned (.tuple #[.slice none 0 0, .bool false])))

/-- A part that has been read, where its own parts lie. -/
abbrev Kid := Tm × Option Addr × Nat
def kidC (x : Kid) : List Value := [.string x.1.nm, .string x.1.st, .slice x.2.1 x.1.ks.length x.2.2]
def kidsC (l : List Kid) : List Value := l.flatMap kidC
theorem kidsC_len (l : List Kid) : (kidsC l).length = l.length * 3 := by
  induction l with
  | nil => rfl
  | cons t l ih => simp [kidsC, kidC] at ih ⊢; omega
theorem kidsC_snoc (l : List Kid) (t : Kid) : kidsC l ++ kidC t = kidsC (l ++ [t]) := by simp [kidsC]
theorem kidsC_at : ∀ (L : List Kid) (i : Nat) (t : Kid) (r : Nat), L[i]? = some t → r < 3 → (kidsC L)[i * 3 + r]? = (kidC t)[r]?
  | [], i, t, r, h, _ => by simp at h
  | u :: L, 0, t, r, h, hr => by
    have e : kidsC (u :: L) = kidC u ++ kidsC L := by simp [kidsC]
    have h' : u = t := by simpa using h
    have hl : (kidC u).length = 3 := rfl
    rw [e, List.getElem?_append_left (by omega), h']
    congr 1; omega
  | u :: L, i + 1, t, r, h, hr => by
    have e : kidsC (u :: L) = kidC u ++ kidsC L := by simp [kidsC]
    have hl : (kidC u).length = 3 := rfl
    rw [e, List.getElem?_append_right (by omega), hl]
    have := kidsC_at L i t r (by simpa using h) hr
    rw [← this]
    congr 1; omega
/-- What list keeps at the head of its loop. -/
def LInv (P : Nat) (L0 : List Tk) (w : World) (k : Nat) (v : Value) (wr : World) : Prop :=
  ∃ (lc : List Tk) (ks : List Kid), PB wr P lc ∧ EndsK lc ∧ lc.length ≤ k ∧ ks.length + lc.length ≤ L0.length ∧ w.grownBy wr (some P) ∧
    wr.ownsRow w.heap.size 56 3 v ks.length (kidsC ks) ∧
    (∀ x, x ∈ ks → TX (fun b => w.heap.size ≤ b ∧ b < wr.heap.size ∧ some b ≠ v.ownBlock) wr x.1 x.2.1) ∧
    (∀ r l'', PL lc r l'' → PL L0 (r.map (ks.map (·.1) ++ ·)) l'')
/-- The parts of a list, all read. -/
theorem kids_done {w wr : World} {v : Value} {ks : List Kid} (ho : wr.ownsRow w.heap.size 56 3 v ks.length (kidsC ks)) (hk : ∀ x, x ∈ ks → TX (fun b => w.heap.size ≤ b ∧ b < wr.heap.size ∧ some b ≠ v.ownBlock) wr x.1 x.2.1) :
    ∃ A c, v = .slice A (ks.map (·.1)).length c ∧ TX (fun b => w.heap.size ≤ b ∧ b < wr.heap.size) wr (.mk ⟨#[]⟩ ⟨#[]⟩ (ks.map (·.1))) A := by
  rcases ho.2 with ⟨rfl, h0⟩ | ⟨g, cap, cur, rfl, _, hh, _⟩
  · have : ks = [] := List.eq_nil_of_length_eq_zero h0
    subst this
    exact ⟨none, 0, rfl, TX.leaf _ _ _ _ _⟩
  · refine ⟨some ⟨g, 0, none⟩, cap, by rw [List.length_map], ?_⟩
    have hg := ho.lt g rfl
    have hget : ∀ (i : Nat) (k : Tm), (ks.map (·.1))[i]? = some k → ∃ x, ks[i]? = some x ∧ x.1 = k := fun i k hi => by
      rw [List.getElem?_map] at hi
      cases hx : ks[i]? with
      | none => rw [hx] at hi; cases hi
      | some x => rw [hx] at hi; injection hi with hi; exact ⟨x, rfl, hi⟩
    have hc : ∀ (i : Nat) (x : Kid) (r : Nat), ks[i]? = some x → r < 3 → wr.cell? ⟨g, i * 3 + r, none⟩ = (kidC x)[r]? := fun i x r hx hr => by
      have hi := (List.getElem?_eq_some_iff.1 hx).1
      exact (ho.cellAt (i * 3 + r) (by omega)).trans (kidsC_at ks i x r hx hr)
    refine .mk _ _ _ _ g 0 (fun i => ((ks[i]?).map (·.2.1)).getD none) (fun i => ((ks[i]?).map (·.2.2)).getD 0) (fun _ => ⟨rfl, hg⟩) (fun i k hi => ?_) (fun i k hi => ?_) (fun i k hi => ?_) (fun i k hi => ?_)
    · obtain ⟨x, hx, rfl⟩ := hget i k hi
      have := hc i x 0 hx (by omega)
      simpa [kidC] using this
    · obtain ⟨x, hx, rfl⟩ := hget i k hi
      have := hc i x 1 hx (by omega)
      simpa [kidC] using this
    · obtain ⟨x, hx, rfl⟩ := hget i k hi
      have := hc i x 2 hx (by omega)
      rw [hx]
      simpa [kidC] using this
    · obtain ⟨x, hx, rfl⟩ := hget i k hi
      rw [hx]
      exact (hk x (List.mem_of_getElem? hx)).imp (fun b h => ⟨h.1, h.2.1⟩)
end Go.Proofs.YthbcfcbonmphfaaDoor
