/- Walks: list, term. -/
import Derived.Maps.AppendAt
import Derived.Test.YthbcfcbonmphfaaDoorTermPBundle
/- The parser of terms. -/
namespace Go.Proofs.YthbcfcbonmphfaaDoor
open Go.RowKit Go.Shelf
set_option maxRecDepth 100000

/-- A term in memory, in blocks of a kind. -/
inductive TX (S : Nat → Prop) (w : World) : Tm → Option Addr → Prop
  | mk (nm st : ByteArray) (ks : List Tm) (A : Option Addr) (b off : Nat) (al : Nat → Option Addr) (cs : Nat → Nat)
    (hA : 0 < ks.length → A = some ⟨b, off, none⟩ ∧ S b)
    (h0 : ∀ i k, ks[i]? = some k → w.cell? ⟨b, off + i * 3, none⟩ = some (.string k.nm))
    (h1 : ∀ i k, ks[i]? = some k → w.cell? ⟨b, off + i * 3 + 1, none⟩ = some (.string k.st))
    (h2 : ∀ i k, ks[i]? = some k → w.cell? ⟨b, off + i * 3 + 2, none⟩ = some (.slice (al i) k.ks.length (cs i)))
    (hr : ∀ i k, ks[i]? = some k → TX S w k (al i)) : TX S w (.mk nm st ks) A
theorem TX.leaf (S : Nat → Prop) (w : World) (nm st : ByteArray) (A : Option Addr) : TX S w (.mk nm st []) A :=
  .mk nm st [] A 0 0 (fun _ => none) (fun _ => 0) (fun h => absurd h (by simp)) (fun i k h => by simp at h) (fun i k h => by simp at h) (fun i k h => by simp at h) (fun i k h => by simp at h)
theorem TX.named {S : Nat → Prop} {w : World} {nm st : ByteArray} {ks : List Tm} {A : Option Addr} (h : TX S w (.mk nm st ks) A) (nm' st' : ByteArray) : TX S w (.mk nm' st' ks) A := by
  cases h with
  | mk _ _ _ _ b off al cs hA h0 h1 h2 hr => exact .mk nm' st' ks A b off al cs hA h0 h1 h2 hr
theorem TX.imp {S S' : Nat → Prop} {w : World} {t : Tm} {A : Option Addr} (h : TX S w t A) (hs : ∀ b, S b → S' b) : TX S' w t A := by
  induction h with
  | mk nm st ks A b off al cs hA h0 h1 h2 hr ih => exact .mk nm st ks A b off al cs (fun h => ⟨(hA h).1, hs _ (hA h).2⟩) h0 h1 h2 ih
theorem TX.keep {S : Nat → Prop} {w w' : World} {t : Tm} {A : Option Addr} (h : TX S w t A) (hk : ∀ b, S b → w'.heap[b]? = w.heap[b]?) : TX S w' t A := by
  induction h with
  | mk nm st ks A b off al cs hA h0 h1 h2 hr ih =>
    have hc : ∀ i k o, ks[i]? = some k → w'.cell? ⟨b, o, none⟩ = w.cell? ⟨b, o, none⟩ := fun i k o hi => World.cell?_of_block (hk b (hA (by have := (List.getElem?_eq_some_iff.1 hi).1; omega)).2)
    exact .mk nm st ks A b off al cs hA (fun i k hi => (hc i k _ hi).trans (h0 i k hi)) (fun i k hi => (hc i k _ hi).trans (h1 i k hi)) (fun i k hi => (hc i k _ hi).trans (h2 i k hi)) ih
theorem TX.rep {S : Nat → Prop} {w : World} {t : Tm} {A : Option Addr} (h : TX S w t A) {n₀ : Nat} (hs : ∀ b, S b → b < n₀) : TRep n₀ w t A := by
  induction h with
  | mk nm st ks A b off al cs hA h0 h1 h2 hr ih => exact .mk nm st ks A b off al cs (fun h => ⟨(hA h).1, hs _ (hA h).2⟩) h0 h1 h2 ih

def sym (t : Tk) (s : List UInt8) : Prop := t.k = 4 ∧ t.t = s
instance (t : Tk) (s : List UInt8) : Decidable (sym t s) := inferInstanceAs (Decidable (_ ∧ _))
/-- The tokens end with an end. -/
def EndsK : List Tk → Prop
  | [] => False
  | [e] => e.k = 5
  | _ :: y :: l => EndsK (y :: l)
theorem EndsK.tail {t : Tk} {l : List Tk} (h : EndsK (t :: l)) (hk : t.k ≠ 5) : ∃ u r, l = u :: r ∧ EndsK l := by
  cases l with
  | nil => exact absurd h hk
  | cons u r => exact ⟨u, r, rfl, h⟩
theorem EndsK.ne {l : List Tk} (h : EndsK l) : ∃ t r, l = t :: r := by
  cases l with
  | nil => exact absurd h (by simp [EndsK])
  | cons t r => exact ⟨t, r, rfl⟩

def nmOf (t : Tk) : ByteArray := ⟨t.t.toArray⟩
mutual
/-- What a term is read as: the term, or nothing, and the tokens that are left. -/
inductive PT : List Tk → Option Tm → List Tk → Prop
  | noName {x : Tk} {l : List Tk} : x.k ≠ 1 → PT (x :: l) none (x :: l)
  | var {x y z : Tk} {l : List Tk} : x.k = 1 → sym y [58] → z.k = 1 → PT (x :: y :: z :: l) (some (.mk (nmOf x) (nmOf z) [])) l
  | noSort {x y z : Tk} {l : List Tk} : x.k = 1 → sym y [58] → z.k ≠ 1 → PT (x :: y :: z :: l) none (z :: l)
  | parts {x y : Tk} {l l' : List Tk} {r : Option (List Tm)} : x.k = 1 → ¬ sym y [58] → LL (y :: l) r l' → PT (x :: y :: l) (r.map (.mk (nmOf x) ⟨#[]⟩)) l'
/-- A list in parentheses. -/
inductive LL : List Tk → Option (List Tm) → List Tk → Prop
  | noParen {y : Tk} {l : List Tk} : ¬ sym y [40] → LL (y :: l) none (y :: l)
  | empty {y z : Tk} {l : List Tk} : sym y [40] → sym z [41] → LL (y :: z :: l) (some []) l
  | elems {y z : Tk} {l l' : List Tk} {r : Option (List Tm)} : sym y [40] → ¬ sym z [41] → PL (z :: l) r l' → LL (y :: z :: l) r l'
/-- Its elements. -/
inductive PL : List Tk → Option (List Tm) → List Tk → Prop
  | bad {l l' : List Tk} : PT l none l' → PL l none l'
  | last {l l' : List Tk} {t : Tm} {y : Tk} : PT l (some t) (y :: l') → sym y [41] → PL l (some [t]) l'
  | noComma {l l' : List Tk} {t : Tm} {y : Tk} : PT l (some t) (y :: l') → ¬ sym y [41] → ¬ sym y [44] → PL l none (y :: l')
  | more {l l' l'' : List Tk} {t : Tm} {y : Tk} {r : Option (List Tm)} : PT l (some t) (y :: l') → ¬ sym y [41] → sym y [44] → PL l' r l'' → PL l (r.map (t :: ·)) l''
end

/-- What term hands back. -/
def TPost (P : Nat) (l : List Tk) (w : World) (e : Ending) (w' : World) : Prop :=
  ∃ l', PB w' P l' ∧ EndsK l' ∧ l'.length ≤ l.length ∧ w.grownBy w' (some P) ∧
    ((∃ t A c, PT l (some t) l' ∧ e = .returned (.tuple #[TV t A c, .bool true]) ∧ TX (fun b => w.heap.size ≤ b ∧ b < w'.heap.size) w' t A) ∨
     (∃ n, PT l none l' ∧ e = .returned (.tuple #[.agg #[.string n, .string ⟨#[]⟩, .slice none 0 0], .bool false])))
/-- What list hands back. -/
def LPost (P : Nat) (l : List Tk) (w : World) (e : Ending) (w' : World) : Prop :=
  ∃ l', PB w' P l' ∧ EndsK l' ∧ l'.length ≤ l.length ∧ w.grownBy w' (some P) ∧
    ((∃ ks A c, LL l (some ks) l' ∧ e = .returned (.tuple #[.slice A ks.length c, .bool true]) ∧ TX (fun b => w.heap.size ≤ b ∧ b < w'.heap.size) w' (.mk ⟨#[]⟩ ⟨#[]⟩ ks) A) ∨
     (LL l none l' ∧ e = .returned (.tuple #[.slice none 0 0, .bool false])))

/-- A part that has been read, where its own parts lie. -/
abbrev Kid := Tm × Option Addr × Nat
def kidC (x : Kid) : List Value := [.string x.1.nm, .string x.1.st, .slice x.2.1 x.1.ks.length x.2.2]
def kidsC (l : List Kid) : List Value := l.flatMap kidC
theorem kidsC_len (l : List Kid) : (kidsC l).length = l.length * 3 := by
  induction l with
  | nil => rfl
  | cons t l ih => simp [kidsC, kidC] at ih ⊢; omega
theorem kidsC_snoc (l : List Kid) (t : Kid) : kidsC l ++ kidC t = kidsC (l ++ [t]) := by simp [kidsC]
theorem kidsC_at : ∀ (L : List Kid) (i : Nat) (t : Kid) (r : Nat), L[i]? = some t → r < 3 → (kidsC L)[i * 3 + r]? = (kidC t)[r]?
  | [], i, t, r, h, _ => by simp at h
  | u :: L, 0, t, r, h, hr => by
    have e : kidsC (u :: L) = kidC u ++ kidsC L := by simp [kidsC]
    have h' : u = t := by simpa using h
    have hl : (kidC u).length = 3 := rfl
    rw [e, List.getElem?_append_left (by omega), h']
    congr 1; omega
  | u :: L, i + 1, t, r, h, hr => by
    have e : kidsC (u :: L) = kidC u ++ kidsC L := by simp [kidsC]
    have hl : (kidC u).length = 3 := rfl
    rw [e, List.getElem?_append_right (by omega), hl]
    have := kidsC_at L i t r (by simpa using h) hr
    rw [← this]
    congr 1; omega
/-- What list keeps at the head of its loop. -/
def LInv (P : Nat) (L0 : List Tk) (w : World) (k : Nat) (v : Value) (wr : World) : Prop :=
  ∃ (lc : List Tk) (ks : List Kid), PB wr P lc ∧ EndsK lc ∧ lc.length ≤ k ∧ ks.length + lc.length ≤ L0.length ∧ w.grownBy wr (some P) ∧
    wr.ownsRow w.heap.size 56 3 v ks.length (kidsC ks) ∧
    (∀ x, x ∈ ks → TX (fun b => w.heap.size ≤ b ∧ b < wr.heap.size ∧ some b ≠ v.ownBlock) wr x.1 x.2.1) ∧
    (∀ r l'', PL lc r l'' → PL L0 (r.map (ks.map (·.1) ++ ·)) l'')
/-- The parts of a list, all read. -/
theorem kids_done {w wr : World} {v : Value} {ks : List Kid} (ho : wr.ownsRow w.heap.size 56 3 v ks.length (kidsC ks)) (hk : ∀ x, x ∈ ks → TX (fun b => w.heap.size ≤ b ∧ b < wr.heap.size ∧ some b ≠ v.ownBlock) wr x.1 x.2.1) :
    ∃ A c, v = .slice A (ks.map (·.1)).length c ∧ TX (fun b => w.heap.size ≤ b ∧ b < wr.heap.size) wr (.mk ⟨#[]⟩ ⟨#[]⟩ (ks.map (·.1))) A := by
  rcases ho.2 with ⟨rfl, h0⟩ | ⟨g, cap, cur, rfl, _, hh, _⟩
  · have : ks = [] := List.eq_nil_of_length_eq_zero h0
    subst this
    exact ⟨none, 0, rfl, TX.leaf _ _ _ _ _⟩
  · refine ⟨some ⟨g, 0, none⟩, cap, by rw [List.length_map], ?_⟩
    have hg := ho.lt g rfl
    have hget : ∀ (i : Nat) (k : Tm), (ks.map (·.1))[i]? = some k → ∃ x, ks[i]? = some x ∧ x.1 = k := fun i k hi => by
      rw [List.getElem?_map] at hi
      cases hx : ks[i]? with
      | none => rw [hx] at hi; cases hi
      | some x => rw [hx] at hi; injection hi with hi; exact ⟨x, rfl, hi⟩
    have hc : ∀ (i : Nat) (x : Kid) (r : Nat), ks[i]? = some x → r < 3 → wr.cell? ⟨g, i * 3 + r, none⟩ = (kidC x)[r]? := fun i x r hx hr => by
      have hi := (List.getElem?_eq_some_iff.1 hx).1
      exact (ho.cellAt (i * 3 + r) (by omega)).trans (kidsC_at ks i x r hx hr)
    refine .mk _ _ _ _ g 0 (fun i => ((ks[i]?).map (·.2.1)).getD none) (fun i => ((ks[i]?).map (·.2.2)).getD 0) (fun _ => ⟨rfl, hg⟩) (fun i k hi => ?_) (fun i k hi => ?_) (fun i k hi => ?_) (fun i k hi => ?_)
    · obtain ⟨x, hx, rfl⟩ := hget i k hi
      have := hc i x 0 hx (by omega)
      simpa [kidC] using this
    · obtain ⟨x, hx, rfl⟩ := hget i k hi
      have := hc i x 1 hx (by omega)
      simpa [kidC] using this
    · obtain ⟨x, hx, rfl⟩ := hget i k hi
      have := hc i x 2 hx (by omega)
      rw [hx]
      simpa [kidC] using this
    · obtain ⟨x, hx, rfl⟩ := hget i k hi
      rw [hx]
      exact (hk x (List.mem_of_getElem? hx)).imp (fun b h => ⟨h.1, h.2.1⟩)
end Go.Proofs.YthbcfcbonmphfaaDoor
namespace Go.Proofs.YthbcfcbonmphfaaDoor
open Go.RowKit Go.Shelf
set_option maxRecDepth 100000

def TermOk (P : Nat) (l : List Tk) (w : World) : Prop := Calls Tryd.prog 86 #[.pointer (some ⟨P, 0, none⟩)] w (TPost P l w)
theorem grown_below {w w' : World} {P n : Nat} (h : w.grownBy w' (some P)) (hn : n ≤ P) (hs : n ≤ w.heap.size) : Below n w w' := (Below.refl n w).grown h hs (fun k e => by cases e; exact hn)
theorem PB.grown {w w' : World} {P : Nat} {l : List Tk} (h : PB w P l) {row : Option Nat} (hg : w.grownBy w' row) (hP : ∀ k, row = some k → P < k) : PB w' P l := by
  have hPw := h.lt
  obtain ⟨b, off, c, h1, h2, h3, h4, h6⟩ := h
  have hs := hg.size
  have hc : ∀ o, w'.cell? ⟨b, o, none⟩ = w.cell? ⟨b, o, none⟩ := fun o => World.cell?_of_block (hg.block b (by omega) (fun e => by have := hP b e.symm; omega))
  exact ⟨b, off, c, (hg.block P hPw (fun e => by have := hP P e.symm; omega)).trans h1, h2, h3, h4, fun i t ht => by
    obtain ⟨c0, c1, c2, c3, c4⟩ := h6 i t ht
    exact ⟨(hc _).trans c0, (hc _).trans c1, (hc _).trans c2, (hc _).trans c3, (hc _).trans c4⟩⟩
theorem l40 : (⟨#[40]⟩ : ByteArray).toList = [40] := by rw [Lib.toList_data]
theorem l41 : (⟨#[41]⟩ : ByteArray).toList = [41] := by rw [Lib.toList_data]
theorem l44 : (⟨#[44]⟩ : ByteArray).toList = [44] := by rw [Lib.toList_data]
theorem l58 : (⟨#[58]⟩ : ByteArray).toList = [58] := by rw [Lib.toList_data]
theorem sym_yes {t : Tk} {s : List UInt8} (h : sym t s) {b : ByteArray} (hb : b.toList = s) : t.t = b.toList := h.2.trans hb.symm
theorem sym_no {t : Tk} {s : List UInt8} (h : ¬ sym t s) {b : ByteArray} (hb : b.toList = s) : t.k ≠ 4 ∨ t.t ≠ b.toList := by
  by_cases hk : t.k = 4
  · exact .inr (fun e => h ⟨hk, e.trans hb⟩)
  · exact .inl hk

set_option maxHeartbeats 4000000 in
theorem list_any (P : Nat) (y : Tk) (l : List Tk) (w : World) (hp : PB w P (y :: l)) (he : EndsK (y :: l)) (hlen : (y :: l).length ≤ 100000)
    (IH : ∀ (lc : List Tk) (wr : World), lc.length < (y :: l).length → PB wr P lc → EndsK lc → TermOk P lc wr) :
    Calls Tryd.prog 128 #[.pointer (some ⟨P, 0, none⟩), .func (.func 86) #[.pointer (some ⟨P, 0, none⟩)] #[]] w (LPost P (y :: l) w) := by
  have HP := Lib.hid hp
  have HE := Lib.hid he
  have HIH := Lib.hid IH
  have HLEN := Lib.hid hlen
  have hPw := hp.lt
  obtain ⟨i0, hi, hz0, hz1, hz2⟩ := info_parts Tryd.infoTerm
  clear hp he IH hlen
  by_cases h40 : sym y [40]
  · have hy5 : y.k ≠ 5 := by rw [h40.1]; decide
    obtain ⟨z, l2, rfl, he2⟩ := HE.out.tail hy5
    have HE2 := Lib.hid he2
    have HS := Lib.hid (symbol_yes P y z l2 ⟨#[40]⟩ w HP.out h40.1 (sym_yes h40 l40))
    have H40 := Lib.hid h40
    clear h40 hy5 he2
    go_enter Tryd.func128, Tryd.ntmps128
    go_wp2_with fail
    refine HS.out.mono ?_
    rintro e w1 ⟨rfl, hp1, hg1⟩
    have HP1 := Lib.hid hp1
    have HG1 := Lib.hid hg1
    clear hp1 hg1
    by_cases h41 : sym z [41]
    · have hz5 : z.k ≠ 5 := by rw [h41.1]; decide
      obtain ⟨u, l3, rfl, he3⟩ := HE2.out.tail hz5
      have HE3 := Lib.hid he3
      have HS2 := Lib.hid (symbol_yes P z u l3 ⟨#[41]⟩ w1 HP1.out h41.1 (sym_yes h41 l41))
      have H41 := Lib.hid h41
      clear h41 hz5 he3
      go_wp2_with fail
      refine HS2.out.mono ?_
      rintro e w2 ⟨rfl, hp2, hg2⟩
      have HP2 := Lib.hid hp2
      have HG2 := Lib.hid hg2
      clear hp2 hg2
      go_wp2_with fail
      go_ret2
      exact ⟨_, HP2.out, HE3.out, by simp only [List.length_cons]; omega, only_trans HG1.out HG2.out, .inl ⟨[], none, 0, .empty H40.out H41.out, rfl, TX.leaf _ _ _ _ _⟩⟩
    · have HS2 := Lib.hid (symbol_no P z l2 ⟨#[41]⟩ w1 HP1.out (sym_no h41 l41))
      have H41 := Lib.hid h41
      clear h41
      go_wp2_with fail
      refine HS2.out.mono ?_
      rintro e w2 ⟨rfl, rfl⟩
      go_wp2_with fail
      go_loopg [6] (l2.length + 1) (fun k v wr => LInv P (z :: l2) w k v wr)
      case atStart => exact ⟨z :: l2, [], HP1.out, HE2.out, by simp, by simp, HG1.out, World.ownsRow_nil _ _ _ _, by simp, fun r l'' h => by simpa using h⟩
      case round =>
        clear HP HP1 HE HE2 HS HS2 HG1
        obtain ⟨lc, ks, hpb, hek, hlk, hln, hgr, hown, hkid, hcont⟩ := hrel
        have HPB := Lib.hid hpb
        have HEK := Lib.hid hek
        have HGR := Lib.hid hgr
        have HOWN := Lib.hid hown
        have HKID := Lib.hid hkid
        have HCONT := Lib.hid hcont
        have hLEN := HLEN.out
        have hws := hgr.size
        simp only [List.length_cons] at hlk hln hLEN
        have HT := Lib.hid (HIH.out lc wr (by simp only [List.length_cons]; omega) hpb hek)
        unfold TermOk at HT
        clear hpb hek hgr hown hkid hcont
        go_wp2_with fail
        refine HT.out.mono ?_
        rintro e w3 ⟨lc', hp3, he3, hl3, hg3, hcase⟩
        have HP3 := Lib.hid hp3
        have HE3 := Lib.hid he3
        have HG3 := Lib.hid hg3
        have hs3 := hg3.size
        clear hp3 he3 hg3 HT
        rcases hcase with ⟨t, A, c, hpt, rfl, htx⟩ | ⟨n, hpt, rfl⟩
        · have HPT := Lib.hid hpt
          have HTX := Lib.hid htx
          obtain ⟨y', lt, rfl⟩ := HE3.out.ne
          have hown3 := ((HOWN.out.kept HG3.out (by
            cases hv : u6.ownBlock with
            | none => exact .inl rfl
            | some g => exact .inr (fun e => by injection e with e; have := (HOWN.out.lt g hv).1; omega))).alloc (.cells #[.string t.nm, .string t.st, .slice A t.ks.length c] 56)).alloc (.cells #[.string t.nm, .string t.st, .slice A t.ks.length c] 56)
          have HO3 := Lib.hid hown3
          clear hpt htx hown3
          unfold TV
          go_wp2_with (at_builtin; refine wpList_append_own_at _ rfl (.tmp 21) (.tmp 23) 54 rfl w.heap.size 56 i0 _ 3 56 Tryd.underlying54 hi hz0 hz1 hz2 rfl (by decide) _ ks.length (kidsC ks) rfl HO3.out ⟨w3.heap.size + 1, 0, none⟩ 1 1 (kidC (t, A, c)) rfl rfl ?c1 ?c2 ?c3 ?c4 ?c5 ?_)
          case c1 => exact World.news_of_block (cs := #[.string t.nm, .string t.st, .slice A t.ks.length c]) (t := 56) (fr := (0, 0)) (by have := heap_alloc_new (w3.alloc (.cells #[.string t.nm, .string t.st, .slice A t.ks.length c] 56)) (.cells #[.string t.nm, .string t.st, .slice A t.ks.length c] 56); simpa using this)
          case c2 => simp [kidC, Value.oneCell']
          case c3 => unfold maxLen; omega
          case c4 => omega
          case c5 => simp; omega
          intro v' w4 ho4 hg4 _ hat
          have hs4 := hg4.size
          simp at hs4
          have hvP : ∀ k, u6.ownBlock = some k → w.heap.size ≤ k ∧ k < wr.heap.size := fun k e => HOWN.out.lt k e
          have HP4 := Lib.hid (((HP3.out.below ((Below.refl _ _).alloc (Nat.le_refl _) (.cells #[.string t.nm, .string t.st, .slice A t.ks.length c] 56))).below ((Below.refl _ _).alloc (Nat.le_refl _) (.cells #[.string t.nm, .string t.st, .slice A t.ks.length c] 56))).grown hg4 (fun k e => by have := (hvP k e).1; omega))
          have hblk : ∀ b, b < w3.heap.size → some b ≠ u6.ownBlock → w4.heap[b]? = w3.heap[b]? := fun b hb hne =>
            (hg4.block b (by simp; omega) hne).trans ((Below.heap_alloc _ _ _ (by simp; omega)).trans (Below.heap_alloc _ _ _ hb))
          have hk4 : ∀ x, x ∈ ks ++ [(t, A, c)] → TX (fun b => w.heap.size ≤ b ∧ b < w4.heap.size ∧ some b ≠ v'.ownBlock) w4 x.1 x.2.1 := by
            intro x hx
            have himp : ∀ b, w.heap.size ≤ b → b < w3.heap.size → some b ≠ u6.ownBlock → w.heap.size ≤ b ∧ b < w4.heap.size ∧ some b ≠ v'.ownBlock := fun b h1 h2 h3 => by
              refine ⟨h1, by omega, ?_⟩
              rcases hat with e | e
              · rw [e]; exact h3
              · rw [e]; intro e'; injection e' with e'; first | omega | (simp at e'; omega)
            rcases List.mem_append.1 hx with hx | hx
            · have h1 := HKID.out x hx
              have h2 := h1.keep (fun b hb => HG3.out.block b hb.2.1 (fun e => by injection e with e; omega))
              have h3 := h2.keep (w' := w4) (fun b hb => hblk b (by have := hb.2.1; omega) hb.2.2)
              exact h3.imp (fun b hb => himp b hb.1 (by have := hb.2.1; omega) hb.2.2)
            · rw [List.mem_singleton.1 hx]
              have hne : ∀ b, wr.heap.size ≤ b → some b ≠ u6.ownBlock := fun b hb e => by have := (hvP b e.symm).2; omega
              have h3 := HTX.out.keep (w' := w4) (fun b hb => hblk b hb.2 (hne b hb.1))
              exact h3.imp (fun b hb => himp b (by omega) hb.2 (hne b hb.1))
          have ho4' : w4.ownsRow w.heap.size 56 3 v' (ks ++ [(t, A, c)]).length (kidsC (ks ++ [(t, A, c)])) := by
            rw [← kidsC_snoc]; simpa using ho4
          have hgr4 : w.grownBy w4 (some P) := by
            have h0 := only_alloc (only_alloc (only_trans HGR.out HG3.out) (.cells #[.string t.nm, .string t.st, .slice A t.ks.length c] 56)) (.cells #[.string t.nm, .string t.st, .slice A t.ks.length c] 56)
            exact ⟨hg4.os.trans h0.os, hg4.tape.trans h0.tape, hg4.output.trans h0.output, Nat.le_trans h0.size hg4.size, fun b hb hne => (hg4.block b (by have := h0.size; omega) (fun e => by have := (hvP b e.symm).1; omega)).trans (h0.block b hb hne)⟩
          have HK4 := Lib.hid hk4
          have HO4 := Lib.hid ho4'
          have HGR4 := Lib.hid hgr4
          clear ho4 hg4 hat hblk hk4 ho4' hgr4 hvP
          by_cases hc41 : sym y' [41]
          · have hz5 : y'.k ≠ 5 := by rw [hc41.1]; decide
            obtain ⟨u, l3, rfl, he4⟩ := HE3.out.tail hz5
            have HE4 := Lib.hid he4
            have HS4 := Lib.hid (symbol_yes P y' u l3 ⟨#[41]⟩ w4 HP4.out hc41.1 (sym_yes hc41 l41))
            have H41b := Lib.hid hc41
            clear hc41 hz5 he4
            go_wp2_with fail
            refine HS4.out.mono ?_
            rintro e w5 ⟨rfl, hp5, hg5⟩
            have HP5 := Lib.hid hp5
            have HG5 := Lib.hid hg5
            obtain ⟨A5, c5, rfl, htx5⟩ := kids_done HO4.out HK4.out
            have HTX5 := Lib.hid htx5
            clear hp5 hg5 htx5
            go_wp2_with fail
            go_ret2
            refine ⟨_, HP5.out, HE4.out, ?_, only_trans HGR4.out HG5.out, .inl ⟨(ks ++ [(t, A, c)]).map (·.1), A5, c5, ?_, by rw [show ((ks ++ [(t, A, c)]).map (·.1)).length = ks.length + 1 by simp]; rfl, ?_⟩⟩
            · simp only [List.length_cons] at hl3 ⊢; omega
            · have := HCONT.out _ _ (.last HPT.out H41b.out)
              rw [List.map_append]
              exact .elems H40.out H41.out (by simpa using this)
            · have hs5 := HG5.out.size
              exact (HTX5.out.keep (fun b hb => HG5.out.block b hb.2 (fun e => by injection e with e; omega))).imp (fun b hb => ⟨hb.1, by omega⟩)
          · have HS4 := Lib.hid (symbol_no P y' lt ⟨#[41]⟩ w4 HP4.out (sym_no hc41 l41))
            have H41b := Lib.hid hc41
            clear hc41
            go_wp2_with fail
            refine HS4.out.mono ?_
            rintro e w5 ⟨rfl, rfl⟩
            by_cases hc44 : sym y' [44]
            · have hz5 : y'.k ≠ 5 := by rw [hc44.1]; decide
              obtain ⟨u, l3, rfl, he4⟩ := HE3.out.tail hz5
              have HE4 := Lib.hid he4
              have HS5 := Lib.hid (symbol_yes P y' u l3 ⟨#[44]⟩ w5 HP4.out hc44.1 (sym_yes hc44 l44))
              have H44 := Lib.hid hc44
              clear hc44 hz5 he4
              go_wp2_with fail
              refine HS5.out.mono ?_
              rintro e w6 ⟨rfl, hp6, hg6⟩
              have HP6 := Lib.hid hp6
              have HG6 := Lib.hid hg6
              clear hp6 hg6
              go_wp2_with fail
              go_roundg (l3.length + 1)
              case rel =>
                refine ⟨u :: l3, ks ++ [(t, A, c)], HP6.out, HE4.out, by simp, ?_, only_trans HGR4.out HG6.out, HO4.out.kept HG6.out (by
                  cases hv : v'.ownBlock with
                  | none => exact .inl rfl
                  | some g => exact .inr (fun e => by injection e with e; have := (HO4.out.lt g hv).1; omega)), ?_, ?_⟩
                · simp only [List.length_append, List.length_cons, List.length_nil] at hl3 ⊢; omega
                · intro x hx
                  have hs6 := HG6.out.size
                  exact ((HK4.out x hx).keep (fun b hb => HG6.out.block b hb.2.1 (fun e => by injection e with e; omega))).imp (fun b hb => ⟨hb.1, by omega, hb.2.2⟩)
                · intro r l'' h
                  have h2 := HCONT.out _ _ (.more HPT.out H41b.out H44.out h)
                  rw [Option.map_map] at h2
                  have e : ((fun x => ks.map (·.1) ++ x) ∘ (fun x => t :: x)) = (fun x => (ks ++ [(t, A, c)]).map (·.1) ++ x) := by
                    funext x; simp
                  rw [← e]; exact h2
              case measure => simp only [List.length_cons] at hl3; omega
            · have HS5 := Lib.hid (symbol_no P y' lt ⟨#[44]⟩ w5 HP4.out (sym_no hc44 l44))
              have H44 := Lib.hid hc44
              clear hc44
              go_wp2_with fail
              refine HS5.out.mono ?_
              rintro e w6 ⟨rfl, rfl⟩
              go_wp2_with fail
              go_ret2
              refine ⟨_, HP4.out, HE3.out, ?_, HGR4.out, .inr ⟨.elems H40.out H41.out ?_, rfl⟩⟩
              · simp only [List.length_cons] at hl3 ⊢; omega
              · exact HCONT.out none _ (.noComma HPT.out H41b.out H44.out)
        · have HPT := Lib.hid hpt
          clear hpt
          go_wp2_with fail
          go_ret2
          refine ⟨_, HP3.out.below ((Below.refl _ _).alloc (Nat.le_refl _) _), HE3.out, ?_, only_alloc (only_trans HGR.out HG3.out) _, .inr ⟨.elems H40.out H41.out ?_, rfl⟩⟩
          · simp only [List.length_cons]; omega
          · exact HCONT.out none _ (.bad HPT.out)
  · have HS := Lib.hid (symbol_no P y l ⟨#[40]⟩ w HP.out (sym_no h40 l40))
    have H40 := Lib.hid h40
    clear h40
    go_enter Tryd.func128, Tryd.ntmps128
    go_wp2_with fail
    refine HS.out.mono ?_
    rintro e w1 ⟨rfl, rfl⟩
    go_wp2_with fail
    go_ret2
    exact ⟨_, HP.out, HE.out, Nat.le_refl _, ⟨rfl, rfl, rfl, Nat.le_refl _, fun _ _ _ => rfl⟩, .inr ⟨.noParen H40.out, rfl⟩⟩

/-- The result's cells are kept while the parser reads. -/
theorem grown_cells {w1 w2 : World} {P : Nat} {o : Obj} {b : Nat} (h : w1.heap[b]? = some o) (hg : w1.grownBy w2 (some P)) (hP : P < b) : w2.heap[b]? = some o :=
  (hg.block b (Array.getElem?_eq_some_iff.1 h).1 (fun e => by injection e with e; omega)).trans h
theorem set3_grown {w w' : World} {P b : Nat} (h : w.grownBy w' (some P)) (hb : w.heap.size ≤ b) (v0 v1 v2 : Value) : w.grownBy (((w'.setCell ⟨b, 0, none⟩ v0).setCell ⟨b, 1, none⟩ v1).setCell ⟨b, 2, none⟩ v2) (some P) :=
  ⟨h.os, h.tape, h.output, by simpa using h.size, fun k hk hne => (set3_heap w' b 0 v0 v1 v2 k (by omega)).trans (h.block k hk hne)⟩
theorem PB.set3 {w : World} {P : Nat} {l : List Tk} (h : PB w P l) {b : Nat} (hb : P < b) (v0 v1 v2 : Value) : PB (((w.setCell ⟨b, 0, none⟩ v0).setCell ⟨b, 1, none⟩ v1).setCell ⟨b, 2, none⟩ v2) P l := by
  refine h.grown (row := some b) ⟨rfl, rfl, rfl, by simp, fun k _ hk => set3_heap w b 0 v0 v1 v2 k (fun e => hk (by rw [e]))⟩ (fun k e => by injection e with e; omega)

set_option maxHeartbeats 4000000 in
theorem term_any (P : Nat) : ∀ (m : Nat) (l : List Tk) (w : World), l.length ≤ m → l.length ≤ 100000 → PB w P l → EndsK l → TermOk P l w := by
  intro m
  induction m with
  | zero => intro l w h _ _ he; obtain ⟨t, r, rfl⟩ := he.ne; simp at h
  | succ m ih =>
    intro l w hm hlen hp he
    obtain ⟨x, l1, rfl⟩ := he.ne
    have hPw := hp.lt
    have HIH := Lib.hid ih
    have HE := Lib.hid he
    have HLEN := Lib.hid hlen
    have HM := Lib.hid hm
    have hp0 := hp.below ((Below.refl w.heap.size w).alloc (Nat.le_refl _) (.cells #[.string ⟨#[]⟩, .string ⟨#[]⟩, .slice none 0 0] 56))
    have HP0 := Lib.hid hp0
    have hr0 := heap_alloc_new w (.cells #[.string ⟨#[]⟩, .string ⟨#[]⟩, .slice none 0 0] 56)
    have HR0 := Lib.hid hr0
    have HG0 : Hid (w.grownBy (w.alloc (.cells #[.string ⟨#[]⟩, .string ⟨#[]⟩, .slice none 0 0] 56)) (some P)) := World.grownBy_alloc _ _ _
    clear ih he hlen hm hp hp0 hr0
    unfold TermOk
    by_cases hx : x.k = 1
    · obtain ⟨y, l2, rfl, he1⟩ := HE.out.tail (by rw [hx]; decide)
      have HE1 := Lib.hid he1
      have HX := Lib.hid hx
      have HN := Lib.hid (name_yes P x y l2 _ HP0.out hx)
      clear hx he1
      go_enter Tryd.func86, Tryd.ntmps86
      go_wp2_with fail
      refine HN.out.mono ?_
      rintro e w1 ⟨rfl, hp1, hg1⟩
      have HP1 := Lib.hid hp1
      have HR1 := Lib.hid (grown_cells HR0.out hg1 hPw)
      have HG1 := Lib.hid (only_trans HG0.out hg1)
      have hs1 := hg1.size
      simp at hs1
      clear hp1 hg1 HN
      by_cases h58 : sym y [58]
      · have hy5 : y.k ≠ 5 := by rw [h58.1]; decide
        obtain ⟨z, l3, rfl, he2⟩ := HE1.out.tail hy5
        have HE2 := Lib.hid he2
        have HS := Lib.hid (symbol_yes P y z l3 ⟨#[58]⟩ w1 HP1.out h58.1 (sym_yes h58 l58))
        have H58 := Lib.hid h58
        clear h58 hy5 he2
        go_wp2_with fail
        refine HS.out.mono ?_
        rintro e w2 ⟨rfl, hp2, hg2⟩
        have HP2 := Lib.hid hp2
        have HR2 := Lib.hid (grown_cells HR1.out hg2 hPw)
        have HG2 := Lib.hid (only_trans HG1.out hg2)
        have hs2 := hg2.size
        clear hp2 hg2 HS
        by_cases hz : z.k = 1
        · obtain ⟨u, l4, rfl, he3⟩ := HE2.out.tail (by rw [hz]; decide)
          have HE3 := Lib.hid he3
          have HZ := Lib.hid hz
          have HN2 := Lib.hid (name_yes P z u l4 w2 HP2.out hz)
          clear hz he3
          go_wp2_with fail
          refine HN2.out.mono ?_
          rintro e w3 ⟨rfl, hp3, hg3⟩
          have HP3 := Lib.hid hp3
          have HG3 := Lib.hid (only_trans HG2.out hg3)
          have hs3 := hg3.size
          obtain ⟨⟨r0, r1, r2⟩, _⟩ := blk3 (grown_cells HR2.out hg3 hPw)
          clear hp3 hg3 HN2
          go_wp2_with fail
          refine bodyPost_ret (v := .tuple #[TV (.mk (nmOf x) (nmOf z) []) none 0, .bool true]) (by simp [results, Tryd.results86, go_sem, r0, r1, r2, TV, nmOf]) rfl ?_
          exact ⟨_, HP3.out.set3 hPw _ _ _, HE3.out, by simp only [List.length_cons]; omega, set3_grown HG3.out (Nat.le_refl _) _ _ _, .inl ⟨_, none, 0, .var HX.out H58.out HZ.out, rfl, TX.leaf _ _ _ _ _⟩⟩
        · have HZ := Lib.hid hz
          have HN2 := Lib.hid (name_no P z l3 w2 HP2.out hz)
          obtain ⟨⟨r0, r1, r2⟩, _⟩ := blk3 HR2.out
          clear hz
          go_wp2_with fail
          refine HN2.out.mono ?_
          rintro e w3 ⟨rfl, rfl⟩
          clear HN2
          go_wp2_with fail
          refine bodyPost_ret (v := .tuple #[.agg #[.string (nmOf x), .string ⟨#[]⟩, .slice none 0 0], .bool false]) (by simp [results, Tryd.results86, go_sem, r0, r1, r2, nmOf]) rfl ?_
          exact ⟨_, HP2.out.set3 hPw _ _ _, HE2.out, by simp only [List.length_cons]; omega, set3_grown HG2.out (Nat.le_refl _) _ _ _, .inr ⟨nmOf x, .noSort HX.out H58.out HZ.out, rfl⟩⟩
      · have HS := Lib.hid (symbol_no P y l2 ⟨#[58]⟩ w1 HP1.out (sym_no h58 l58))
        have H58 := Lib.hid h58
        have hLEN := HLEN.out
        have hMM := HM.out
        simp only [List.length_cons] at hLEN hMM
        have HL := Lib.hid (list_any P y l2 w1 HP1.out HE1.out (by simp only [List.length_cons]; omega) (fun lc wr h1 h2 h3 => HIH.out lc wr (by simp only [List.length_cons] at h1; omega) (by simp only [List.length_cons] at h1; omega) h2 h3))
        clear h58
        go_wp2_with fail
        refine HS.out.mono ?_
        rintro e w2 ⟨rfl, rfl⟩
        go_wp2_with fail
        refine HL.out.mono ?_
        rintro e w3 ⟨l', hp3, he3, hl3, hg3, hcase⟩
        have HP3 := Lib.hid hp3
        have HE3 := Lib.hid he3
        have HG3 := Lib.hid (only_trans HG1.out hg3)
        have hs3 := hg3.size
        obtain ⟨⟨r0, r1, r2⟩, _⟩ := blk3 (grown_cells HR1.out hg3 hPw)
        clear hp3 he3 hg3 HL
        rcases hcase with ⟨ks, A, c, hll, rfl, htx⟩ | ⟨hll, rfl⟩
        · have HLL := Lib.hid hll
          have HTX := Lib.hid htx
          clear hll htx
          go_wp2_with fail
          refine bodyPost_ret (v := .tuple #[TV (.mk (nmOf x) ⟨#[]⟩ ks) A c, .bool true]) (by simp [results, Tryd.results86, go_sem, r0, r1, r2, TV, nmOf]) rfl ?_
          refine ⟨_, HP3.out.set3 hPw _ _ _, HE3.out, by simp only [List.length_cons] at hl3 ⊢; omega, set3_grown HG3.out (Nat.le_refl _) _ _ _, .inl ⟨_, A, c, .parts HX.out H58.out HLL.out, rfl, ?_⟩⟩
          exact ((HTX.out.named (nmOf x) ⟨#[]⟩).keep (fun b hb => set3_heap _ _ 0 _ _ _ b (by omega))).imp (fun b hb => ⟨by omega, by simpa using hb.2⟩)
        · have HLL := Lib.hid hll
          clear hll
          go_wp2_with fail
          refine bodyPost_ret (v := .tuple #[.agg #[.string (nmOf x), .string ⟨#[]⟩, .slice none 0 0], .bool false]) (by simp [results, Tryd.results86, go_sem, r0, r1, r2, nmOf]) rfl ?_
          exact ⟨_, HP3.out.set3 hPw _ _ _, HE3.out, by simp only [List.length_cons] at hl3 ⊢; omega, set3_grown HG3.out (Nat.le_refl _) _ _ _, .inr ⟨nmOf x, .parts HX.out H58.out HLL.out, rfl⟩⟩
    · have HX := Lib.hid hx
      have HN := Lib.hid (name_no P x l1 _ HP0.out hx)
      clear hx
      go_enter Tryd.func86, Tryd.ntmps86
      go_wp2_with fail
      refine HN.out.mono ?_
      rintro e w1 ⟨rfl, rfl⟩
      clear HN
      go_wp2_with fail
      refine bodyPost_ret (v := .tuple #[.agg #[.string ⟨#[]⟩, .string ⟨#[]⟩, .slice none 0 0], .bool false]) (by simp [results, Tryd.results86, go_sem]) rfl ?_
      exact ⟨_, HP0.out, HE.out, Nat.le_refl _, HG0.out, .inr ⟨⟨#[]⟩, .noName HX.out, rfl⟩⟩
end Go.Proofs.YthbcfcbonmphfaaDoor
