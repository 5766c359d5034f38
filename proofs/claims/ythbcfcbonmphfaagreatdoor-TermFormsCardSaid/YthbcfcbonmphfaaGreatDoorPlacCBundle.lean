/- LexPlaces: the law's walk. -/
import Derived.Test.YthbcfcbonmphfaaGreatDoorTermBBundle
import Derived.Test.YthbcfcbonmphfaaGreatDoorJoinABundle
import Derived.Test.YthbcfcbonmphfaaGreatDoorLexEBundle
import Derived.Lib.BufferRead
import Derived.Shelf.Strings.BuilderK
import Derived.BigQuiet
import Derived.Deep.DeepCutAuto
import Derived.Deep.CutBlock
import Derived.IntWalk
/- Walks: Join, of the package and of its reference. -/
namespace Go.Proofs.YthbcfcbonmphfaaGreatDoor
set_option maxRecDepth 100000
open Go.RowKit

/-- A slice of tokens in memory: nil, or at an address. -/
def SlT (w : World) (A : Option Addr) (L : List Tk) : Prop :=
  0 < L.length → ∃ b off, A = some ⟨b, off, none⟩ ∧ b < w.heap.size ∧ ∀ (i : Nat) (t : Tk), L[i]? = some t → w.cell? ⟨b, off + i * 5, none⟩ = some (.int .i64 t.k) ∧ w.cell? ⟨b, off + i * 5 + 1, none⟩ = some (.string ⟨t.t.toArray⟩) ∧
    w.cell? ⟨b, off + i * 5 + 2, none⟩ = some (.int .i64 t.n) ∧ w.cell? ⟨b, off + i * 5 + 3, none⟩ = some (.int .i64 t.a) ∧ w.cell? ⟨b, off + i * 5 + 4, none⟩ = some (.int .i64 t.b)
theorem SlT.below {w w' : World} {A : Option Addr} {L : List Tk} (h : SlT w A L) (hb : Below w.heap.size w w') : SlT w' A L := fun hl => by
  obtain ⟨b, off, rfl, hlt, hc⟩ := h hl
  have hs := hb.size
  exact ⟨b, off, rfl, by omega, fun i t ht => by
    obtain ⟨h0, h1, h2, h3, h4⟩ := hc i t ht
    exact ⟨(hb.cell (p := ⟨b, _, none⟩) hlt).trans h0, (hb.cell (p := ⟨b, _, none⟩) hlt).trans h1, (hb.cell (p := ⟨b, _, none⟩) hlt).trans h2, (hb.cell (p := ⟨b, _, none⟩) hlt).trans h3, (hb.cell (p := ⟨b, _, none⟩) hlt).trans h4⟩⟩
/-- The cells of one token, in a later world. -/
theorem cells5 {w w' : World} {b o : Nat} {t : Tk} (hb : Below w.heap.size w w') (hlt : b < w.heap.size) (h : w.cell? ⟨b, o, none⟩ = some (.int .i64 t.k) ∧ w.cell? ⟨b, o + 1, none⟩ = some (.string ⟨t.t.toArray⟩) ∧ w.cell? ⟨b, o + 2, none⟩ = some (.int .i64 t.n) ∧ w.cell? ⟨b, o + 3, none⟩ = some (.int .i64 t.a) ∧ w.cell? ⟨b, o + 4, none⟩ = some (.int .i64 t.b)) :
    w'.cell? ⟨b, o, none⟩ = some (.int .i64 t.k) ∧ w'.cell? ⟨b, o + 1, none⟩ = some (.string ⟨t.t.toArray⟩) ∧ w'.cell? ⟨b, o + 2, none⟩ = some (.int .i64 t.n) ∧ w'.cell? ⟨b, o + 3, none⟩ = some (.int .i64 t.a) ∧ w'.cell? ⟨b, o + 4, none⟩ = some (.int .i64 t.b) := by
  obtain ⟨h0, h1, h2, h3, h4⟩ := h
  exact ⟨(hb.cell (p := ⟨b, _, none⟩) hlt).trans h0, (hb.cell (p := ⟨b, _, none⟩) hlt).trans h1, (hb.cell (p := ⟨b, _, none⟩) hlt).trans h2, (hb.cell (p := ⟨b, _, none⟩) hlt).trans h3, (hb.cell (p := ⟨b, _, none⟩) hlt).trans h4⟩
/-- Short texts. -/
def Small (L : List Tk) : Prop := L.length ≤ 500 ∧ ∀ (i : Nat) (t : Tk), L[i]? = some t → t.t.length ≤ 1000

/-- What Join hands back. -/
def joinV (L : List Tk) : Value := .tuple #[.string ⟨(jres L).1.toArray⟩, .int .i64 (jres L).2]
theorem tkOk_no (L : List Tk) (k : Nat) (t : Tk) (h : validT t.k t.t t.n = false) : tkOk L k t = false := by unfold tkOk; rw [h]; rfl
theorem tkOk_mid (L : List Tk) (k : Nat) (t : Tk) (h5 : t.k = 5) (hk : ((k : Int) != (L.length : Int) - 1) = true) : tkOk L k t = false := by
  unfold tkOk
  have e : decide (k + 1 ≠ L.length) = true := by simp at hk ⊢; omega
  rw [e, h5]; simp
theorem tkOk_last (L : List Tk) (k : Nat) (t : Tk) (hv : validT t.k t.t t.n = true) (hk : ((k : Int) != (L.length : Int) - 1) = false) : tkOk L k t = true := by
  unfold tkOk
  have e : decide (k + 1 ≠ L.length) = false := by simp at hk ⊢; omega
  rw [e, hv]; simp
theorem tkOk_plain (L : List Tk) (k : Nat) (t : Tk) (hv : validT t.k t.t t.n = true) (h5 : ¬ t.k = 5) : tkOk L k t = true := by
  unfold tkOk
  have e : decide (t.k = 5) = false := by simpa using h5
  rw [e, hv]; rfl
theorem valid_n (k : Int) (s : List UInt8) (n : Int) (h : validT k s n = true) : 0 ≤ n ∧ n ≤ 1099511627776 := by
  unfold validT at h
  repeat' split at h
  all_goals simp at h
  all_goals omega
theorem joinV_bad (L : List Tk) (i : Nat) (t : Tk) (h : L[i]? = some t) (hb : tkOk L i t = false) : joinV L = .tuple #[.string ⟨#[]⟩, .int .i64 1] := by
  unfold joinV; rw [jres_bad L i t h hb]
theorem joinV_none (L : List Tk) (h : jval L = true) (hg : jgo L true [] = none) : joinV L = .tuple #[.string ⟨#[]⟩, .int .i64 4] := by
  unfold joinV jres; rw [if_pos h, hg]
theorem joinV_some (L : List Tk) (x : List UInt8) (h : jval L = true) (hg : jgo L true [] = some x) : joinV L = .tuple #[.string ⟨x.toArray⟩, .int .i64 0] := by
  unfold joinV jres; rw [if_pos h, hg]

/-- The bytes that the call owns, as a string. -/
theorem conv_own {w : World} {base : Nat} {v : Value} {xs : List UInt8} (ho : w.ownsRow base 5 1 v xs.length (bsC xs)) : (convert 93 9 v).run Tryz.prog w = .ok (.string ⟨xs.toArray⟩) w := by
  rcases ho.2 with ⟨rfl, h0⟩ | ⟨g, cap, cur, rfl, _⟩
  · have e : xs = [] := List.eq_nil_of_length_eq_zero h0
    subst e
    exact Lib.run_convert_nil_bytes w 93 9 5 0 Tryz.underlying93 Tryz.underlying5 Tryz.underlying9
  · have hs : (ByteArray.mk xs.toArray).size = xs.length := by show xs.toArray.size = _; simp
    have hB : Lib.Bytes w g 0 ⟨xs.toArray⟩ := by
      intro i hi
      rw [hs] at hi
      rw [Nat.zero_add, ho.cellAt i (by omega)]
      unfold bsC
      rw [List.getElem?_map, List.getElem?_eq_getElem hi]
      rfl
    have h := Lib.run_convert_whole (P := Tryz.prog) w 93 5 9 Tryz.underlying93 Tryz.underlying5 Tryz.underlying9 g 0 ⟨xs.toArray⟩ hB cap
    rw [hs] at h
    exact h
theorem jgo_end (L : List Tk) (k : Nat) (t : Tk) (f : Bool) (acc : List UInt8) (h : L[k]? = some t) (h5 : t.k = 5) : jgo (L.drop k) f acc = some acc := by
  rw [drop_of L k t h, jgo, if_pos h5]
theorem jgo_full (L : List Tk) (k : Nat) (t : Tk) (f : Bool) (acc : List UInt8) (h : L[k]? = some t) (h5 : ¬ t.k = 5) (hf : 65536 < ((acc ++ (if f then [] else [32])) ++ tkText t).length) : jgo (L.drop k) f acc = none := by
  rw [drop_of L k t h, jgo, if_neg h5, if_pos hf]
theorem jgo_step (L : List Tk) (k : Nat) (t : Tk) (f : Bool) (acc : List UInt8) (h : L[k]? = some t) (h5 : ¬ t.k = 5) (hf : ((acc ++ (if f then [] else [32])) ++ tkText t).length ≤ 65536) : jgo (L.drop k) f acc = jgo (L.drop (k + 1)) false ((acc ++ (if f then [] else [32])) ++ tkText t) := by
  rw [drop_of L k t h, jgo, if_neg h5, if_neg (by omega)]
theorem jgo_done (L : List Tk) (k : Nat) (f : Bool) (acc : List UInt8) (h : k = L.length) : jgo (L.drop k) f acc = some acc := by
  rw [h, List.drop_length, jgo]

theorem own_slice {w : World} {base : Nat} {e : TypeId} {size n : Nat} {v : Value} {xs : List Value} (h : w.ownsRow base e size v n xs) : ∃ A cap, v = .slice A n cap := by
  rcases h.2 with ⟨rfl, h0⟩ | ⟨g, cap, cur, rfl, _⟩
  · exact ⟨none, 0, by rw [h0]⟩
  · exact ⟨_, cap, rfl⟩
theorem sep0 (k : Nat) (acc : List UInt8) (h : k = 0) : acc ++ (if decide (k = 0) = true then [] else [32]) = acc := by rw [h]; simp
theorem sep1 (k : Nat) (acc : List UInt8) (h : ¬ k = 0) : acc ++ (if decide (k = 0) = true then [] else [32]) = acc ++ [32] := by rw [if_neg (by simpa using h)]
theorem dec_succ (k : Nat) : decide (k + 1 = 0) = false := by simp
def JInv (L : List Tk) (w : World) (k : Nat) (v : Value) (wr : World) (acc : List UInt8) : Prop :=
  wr.ownsRow w.heap.size 5 1 v acc.length (bsC acc) ∧ Below w.heap.size w wr ∧ jgo L true [] = jgo (L.drop k) (decide (k = 0)) acc ∧ acc.length ≤ 65536

end Go.Proofs.YthbcfcbonmphfaaGreatDoor
/- Walks: Join, by the reference. -/
namespace Go.Proofs.YthbcfcbonmphfaaGreatDoor
set_option maxRecDepth 100000
open Go.RowKit

theorem tkOk_mid2 (L : List Tk) (k : Nat) (t : Tk) (h5 : t.k = 5) (hk : (k : Int) < (L.length : Int) - 1) : tkOk L k t = false := tkOk_mid L k t h5 (by simp; omega)
theorem tkOk_last2 (L : List Tk) (k : Nat) (t : Tk) (hlt : k < L.length) (hv : validT t.k t.t t.n = true) (hk : (L.length : Int) - 1 ≤ (k : Int)) : tkOk L k t = true := tkOk_last L k t hv (by simp; omega)
theorem text_tk (t : Tk) (h2 : ¬ t.k = 2) : tkText t = t.t := by unfold tkText; rw [if_neg h2]
theorem tkText_len (t : Tk) (hs : t.t.length ≤ 1000) : (tkText t).length ≤ 1000 := by
  unfold tkText
  split
  · have := decF_len 13 t.n.toNat; unfold dec; omega
  · exact hs
theorem str_fit (acc : List UInt8) (t : Tk) (h : acc.length ≤ 65537) (h2 : (tkText t).length ≤ 1000) : acc.length + (ByteArray.mk (tkText t).toArray).size ≤ maxLen ∧ acc.length + (ByteArray.mk (tkText t).toArray).size ≤ 140737488355328 := by
  have h1 : (ByteArray.mk (tkText t).toArray).size = (tkText t).length := by show (tkText t).toArray.size = _; simp
  rw [h1]
  unfold maxLen
  omega
/-- What an append of a string leaves. -/
theorem app_str {w w1 w2 : World} {base n : Nat} {v v' : Value} {ys : List UInt8} {s : List UInt8} (hb : Below base w w1) (hB : base ≤ w1.heap.size) (ho : w1.ownsRow base 5 1 v ys.length (bsC ys))
    (ho2 : w2.ownsRow base 5 1 v' n (bsC ys ++ Lib.strCells ⟨s.toArray⟩)) (hg : w1.grownBy w2 v.ownBlock) : w2.ownsRow base 5 1 v' (ys ++ s).length (bsC (ys ++ s)) ∧ Below base w w2 := by
  refine ⟨?_, hb.grown hg hB (fun k e => (ho.lt k e).1)⟩
  have e1 : Lib.strCells ⟨s.toArray⟩ = bsC s := by simp [Lib.strCells, bsC]
  rw [e1, bsC_app] at ho2
  have e3 : n = (ys ++ s).length := by have := ho2.1; rw [bsC_len] at this; omega
  rw [← e3]
  exact ho2

end Go.Proofs.YthbcfcbonmphfaaGreatDoor
/- Walks: awake. -/
namespace Go.Proofs.YthbcfcbonmphfaaGreatDoor
open Go.RowKit

theorem toks_c1 : toks [120, 46, 108, 101, 102, 116, 60, 61, 51, 32, 35, 32, 110, 111] 1 1 = .ok [⟨1, [120], 0, 1, 1⟩, ⟨4, [46], 0, 1, 2⟩, ⟨1, [108, 101, 102, 116], 0, 1, 3⟩, ⟨4, [60, 61], 0, 1, 7⟩, ⟨2, [], 3, 1, 9⟩, ⟨5, [], 0, 1, 15⟩] := by rfl
theorem toks_c2 : toks [97, 32, 61, 32, 48, 49] 1 1 = .error (1, 5) := by rfl

theorem tokens_c1 (w : World) (hp : Pairs w) : Calls Tryz.prog 54 #[.string ⟨#[120, 46, 108, 101, 102, 116, 60, 61, 51, 32, 35, 32, 110, 111]⟩] w fun e w' => ∃ g cap, e = .returned (.tuple #[.slice (some ⟨g, 0, none⟩) 6 cap, .agg #[.int .i64 0, .int .i64 0], .int .i64 0]) ∧
    w'.cell? ⟨g, 16, none⟩ = some (.string ⟨#[60, 61]⟩) ∧ w'.cell? ⟨g, 22, none⟩ = some (.int .i64 3) ∧ g < w'.heap.size ∧ Below w.heap.size w w' := by
  refine (tokens_any _ w (by decide) hp).mono ?_
  rintro e w' ⟨hb, hT⟩
  have e1 : toks (ByteArray.mk #[120, 46, 108, 101, 102, 116, 60, 61, 51, 32, 35, 32, 110, 111]).data.toList 1 1 = _ := toks_c1
  rw [e1] at hT
  simp only at hT
  obtain ⟨v, he, ho⟩ := hT
  obtain ⟨g, cap, hv, _, hlt⟩ := ho.form (by decide)
  subst hv
  have h16 := ho.cellAt 16 (by decide)
  have h22 := ho.cellAt 22 (by decide)
  exact ⟨g, cap, he, h16, h22, hlt, hb⟩
theorem tokens_c2 (w : World) (hp : Pairs w) : Calls Tryz.prog 54 #[.string ⟨#[97, 32, 61, 32, 48, 49]⟩] w fun e w' => e = .returned (.tuple #[.slice none 0 0, .agg #[.int .i64 1, .int .i64 5], .int .i64 7]) ∧ Below w.heap.size w w' := by
  refine (tokens_any _ w (by decide) hp).mono ?_
  rintro e w' ⟨hb, hT⟩
  have e1 : toks (ByteArray.mk #[97, 32, 61, 32, 48, 49]).data.toList 1 1 = _ := toks_c2
  rw [e1] at hT
  exact ⟨hT, hb⟩

/-- What the law keeps across its calls. -/
theorem held5 {W W' : World} {B : Nat} {c0 c1 c2 c3 c4 : Value} (h : (W.cell? ⟨B, 0, none⟩ = some c0 ∧ W.cell? ⟨B, 1, none⟩ = some c1 ∧ W.cell? ⟨B, 2, none⟩ = some c2 ∧ W.cell? ⟨B, 3, none⟩ = some c3 ∧ W.cell? ⟨B, 4, none⟩ = some c4) ∧ B < W.heap.size ∧ Pairs W)
    (hb : Below W.heap.size W W') : (W'.cell? ⟨B, 0, none⟩ = some c0 ∧ W'.cell? ⟨B, 1, none⟩ = some c1 ∧ W'.cell? ⟨B, 2, none⟩ = some c2 ∧ W'.cell? ⟨B, 3, none⟩ = some c3 ∧ W'.cell? ⟨B, 4, none⟩ = some c4) ∧ B < W'.heap.size ∧ Pairs W' := by
  obtain ⟨⟨h0, h1, h2, h3, h4⟩, hl, hp⟩ := h
  have hs := hb.size
  exact ⟨⟨(hb.cell (p := ⟨B, 0, none⟩) hl).trans h0, (hb.cell (p := ⟨B, 1, none⟩) hl).trans h1, (hb.cell (p := ⟨B, 2, none⟩) hl).trans h2, (hb.cell (p := ⟨B, 3, none⟩) hl).trans h3, (hb.cell (p := ⟨B, 4, none⟩) hl).trans h4⟩, by omega, hp.below hb hp.lt⟩

theorem held5S {w W W' : World} {B : Nat} {c0 c1 c2 c3 c4 : Value} (hb : Below W.heap.size W W') (h : ((W.cell? ⟨B, 0, none⟩ = some c0 ∧ W.cell? ⟨B, 1, none⟩ = some c1 ∧ W.cell? ⟨B, 2, none⟩ = some c2 ∧ W.cell? ⟨B, 3, none⟩ = some c3 ∧ W.cell? ⟨B, 4, none⟩ = some c4) ∧ B < W.heap.size ∧ Pairs W) ∧ Below B w W) :
    ((W'.cell? ⟨B, 0, none⟩ = some c0 ∧ W'.cell? ⟨B, 1, none⟩ = some c1 ∧ W'.cell? ⟨B, 2, none⟩ = some c2 ∧ W'.cell? ⟨B, 3, none⟩ = some c3 ∧ W'.cell? ⟨B, 4, none⟩ = some c4) ∧ B < W'.heap.size ∧ Pairs W') ∧ Below B w W' :=
  ⟨held5 h.1 hb, h.2.trans (hb.mono (Nat.le_of_lt h.1.2.1))⟩
theorem pairs_held {w W : World} {B : Nat} {c0 c1 c2 c3 c4 : Value} (h : ((W.cell? ⟨B, 0, none⟩ = some c0 ∧ W.cell? ⟨B, 1, none⟩ = some c1 ∧ W.cell? ⟨B, 2, none⟩ = some c2 ∧ W.cell? ⟨B, 3, none⟩ = some c3 ∧ W.cell? ⟨B, 4, none⟩ = some c4) ∧ B < W.heap.size ∧ Pairs W) ∧ Below B w W) : Pairs W := h.1.2.2
theorem below_held {w W : World} {B : Nat} {c0 c1 c2 c3 c4 : Value} (h : ((W.cell? ⟨B, 0, none⟩ = some c0 ∧ W.cell? ⟨B, 1, none⟩ = some c1 ∧ W.cell? ⟨B, 2, none⟩ = some c2 ∧ W.cell? ⟨B, 3, none⟩ = some c3 ∧ W.cell? ⟨B, 4, none⟩ = some c4) ∧ B < W.heap.size ∧ Pairs W) ∧ Below B w W) : Below B w W := h.2
theorem pairs_box {w : World} (hp : Pairs w) (o : Obj) : Pairs (w.alloc o) := hp.alloc o

end Go.Proofs.YthbcfcbonmphfaaGreatDoor
/- Walks: which lists of tokens the laws speak of; LexJoins. -/
namespace Go.Proofs.YthbcfcbonmphfaaGreatDoor
set_option maxRecDepth 100000
open Go.RowKit

def bigT (t : Tk) : Bool := decide (60 < t.t.length)
def smallB (L : List Tk) : Bool := decide (L.length ≤ 60) && !(L.any bigT)
/-- The texts can be read. -/
def Texts (L : List Tk) : Prop := ∀ (i : Nat) (t : Tk), L[i]? = some t → t.t.length ≤ maxLen
def idxI (L : List Tk) : Int := match L.findIdx? bigT with | some i => i | none => -1
theorem idx_hit (L : List Tk) (k : Nat) (t : Tk) (h : L[k]? = some t) (hb : bigT t = true) : L.any bigT = true := List.any_eq_true.2 ⟨t, List.mem_of_getElem? h, hb⟩
theorem idx_none (L : List Tk) (hno : ∀ (i : Nat) (u : Tk), i < L.length → L[i]? = some u → bigT u = false) : L.any bigT = false := by
  rw [List.any_eq_false]
  intro t ht
  obtain ⟨i, hi, rfl⟩ := List.mem_iff_getElem.1 ht
  rw [hno i _ hi (List.getElem?_eq_getElem hi)]
  exact Bool.false_ne_true

theorem big_snoc (L : List Tk) (k : Nat) (t : Tk) (h : L[k]? = some t) (hb : bigT t = false) (hno : ∀ (i : Nat) (u : Tk), i < k → L[i]? = some u → bigT u = false) : ∀ (i : Nat) (u : Tk), i < k + 1 → L[i]? = some u → bigT u = false := by
  intro i u hi hu
  rcases Nat.lt_or_ge i k with hl | hl
  · exact hno i u hl hu
  · have : i = k := by omega
    subst this
    rw [h] at hu
    rw [← Option.some.inj hu]
    exact hb

theorem small_of (L : List Tk) (h : smallB L = true) : Small L := by
  unfold smallB at h
  rw [Bool.and_eq_true] at h
  have h1 : L.length ≤ 60 := by simpa using h.1
  refine ⟨by omega, fun i t ht => ?_⟩
  have h2 : L.any bigT = false := by simpa using h.2
  rw [List.any_eq_false] at h2
  have := h2 t (List.mem_of_getElem? ht)
  unfold bigT at this
  simp at this
  omega

end Go.Proofs.YthbcfcbonmphfaaGreatDoor
/- LexPlaces: the builder's methods. -/
namespace Go.Proofs.YthbcfcbonmphfaaGreatDoor
set_option maxRecDepth 100000
open Go.RowKit Go.Shelf

def Tryz.lays169_ren : Go.Shelf.Ren := ⟨fun | 169 => 77 | n => n, fun | 70 => 92 | 9 => 9 | 0 => 0 | 72 => 95 | 37 => 93 | 127 => 154 | 3 => 3 | 5 => 5 | n => n, fun | n => n⟩
theorem Tryz.lays169 : Go.Proofs.Lays.n169 Tryz.prog Tryz.lays169_ren := {
  mixed := by kernel_rfl
  f169 := Tryz.func77.trans (congrArg some (by kernel_rfl))
  t0 := Tryz.underlying0
  a0 := Tryz.isAgg0
  z0 := Tryz.sizeOf0
  v0 := Tryz.zeroValue0
  t3 := Tryz.underlying3
  a3 := Tryz.isAgg3
  z3 := Tryz.sizeOf3
  v3 := Tryz.zeroValue3
  t9 := Tryz.underlying9
  a9 := Tryz.isAgg9
  z9 := Tryz.sizeOf9
  v9 := Tryz.zeroValue9
  t37 := Tryz.underlying93
  a37 := Tryz.isAgg93
  z37 := Tryz.sizeOf93
  v37 := Tryz.zeroValue93
  t70 := Tryz.underlying92
  a70 := Tryz.isAgg92
  z70 := Tryz.sizeOf92
  v70 := Tryz.zeroValue92
  t72 := Tryz.underlying95
  a72 := Tryz.isAgg95
  z72 := Tryz.sizeOf95
  v72 := Tryz.zeroValue95
  t127 := Tryz.underlying154
  a127 := Tryz.isAgg154
  z127 := Tryz.sizeOf154
  v127 := Tryz.zeroValue154 }
theorem Tryz.Builder_Extra_169 : Builder.Extra Tryz.prog Tryz.lays169_ren := {
  sizeBuilder := by kernel_rfl
  liesBuilder := by kernel_rfl
  t5 := Tryz.underlying5
  a5 := Tryz.isAgg5
  z5 := Tryz.sizeOf5
  v5 := Tryz.zeroValue5
  infoByte := by kernel_rfl
  cellsByte := by kernel_rfl
  sizeByte := by kernel_rfl
  neB5 := by decide }
theorem string_any (B b : Nat) (l : List UInt8) (w : World) (h : Lib.IsBuilderF 95 5 B b (Lib.byteCells l) w) (hBw : B ≤ w.heap.size) :
    Calls Tryz.prog 77 #[.pointer (some ⟨b, 0, none⟩)] w fun e w' => e = .returned (.string ⟨l.toArray⟩) ∧ (Lib.IsBuilderF 95 5 B b (Lib.byteCells l) w' ∧ Below B w w' ∧ Lib.OthersKept 5 (some b) w w') :=
  Any.Builder_String_any_k Tryz.lays169 Tryz.Builder_Extra_169 B b l w h hBw

set_option maxHeartbeats 1000000 in
theorem copyCheck_used (b : Nat) (v : Value) (w : World) (h : w.heap[b]? = some (.cells #[.pointer (some ⟨b, 0, none⟩), v] 95 (0, 0))) :
    Calls Tryz.prog 75 #[.pointer (some ⟨b, 0, none⟩)] w fun e w' => e = .returned (.tuple #[]) ∧ w' = w := by
  obtain ⟨j, hj0, _⟩ := Option.map_eq_some_iff.1 Tryz.Builder_Extra_169.sizeBuilder
  have hj : Tryz.prog.info? 95 = some j := hj0
  have a0 := (blk2 h).1.1
  clear h hj0
  go_enter Tryz.func75, Tryz.ntmps75
  go_wp2
  rw [Lib.run_neq_ptr_same w _ Tryz.underlying92 hj]
  go_wp2
  go_end0
  exact ⟨rfl, rfl⟩
set_option maxHeartbeats 1000000 in
theorem copyCheck_new (b : Nat) (v : Value) (w : World) (h : w.heap[b]? = some (.cells #[.pointer none, v] 95 (0, 0))) :
    Calls Tryz.prog 75 #[.pointer (some ⟨b, 0, none⟩)] w fun e w' => e = .returned (.tuple #[]) ∧ w' = w.setCell ⟨b, 0, none⟩ (.pointer (some ⟨b, 0, none⟩)) := by
  obtain ⟨j, hj0, hjs⟩ := Option.map_eq_some_iff.1 Tryz.Builder_Extra_169.sizeBuilder
  have hj : Tryz.prog.info? 95 = some j := hj0
  have hsh : w.shape? b = some (95, 2) := by simp [World.shape?, h]
  have h0 := (blk2 h).1.1
  have hfz := (blk2 h).2.1
  clear h hj0
  go_enter Tryz.func75, Tryz.ntmps75
  go_wp2
  rw [Lib.run_to_unsafe w ⟨b, 0, none⟩ Tryz.underlying92 Tryz.underlying152 hj (by rw [hjs]; decide) hsh (Nat.zero_lt_succ 1)]
  simp only [Result.andThen]
  rw [Oper.upon_value]
  go_wp2
  rw [run_callFunc_extern Tryz.func103 (by kernel_rfl) (by kernel_rfl) (by kernel_rfl) (e := Extern.AbiNoEscape.same) (by kernel_rfl)]
  rw [Lib.run_noEscape]
  simp only [Result.andThen]
  rw [Oper.upon_value]
  go_wp2
  rw [Lib.run_from_unsafe w ⟨b, 0, none⟩ Tryz.underlying152 Tryz.underlying92 hj hsh Tryz.Builder_Extra_169.liesBuilder]
  simp only [Result.andThen]
  rw [Oper.upon_value]
  go_wp2
  go_end0
  exact ⟨rfl, rfl⟩
/-- A builder in block b that holds these bytes; its row lies above it. -/
structure Bld (w : World) (b : Nat) (xs : List UInt8) : Prop where
  ex : ∃ p v, (p = .pointer none ∨ p = .pointer (some ⟨b, 0, none⟩)) ∧ w.heap[b]? = some (.cells #[p, v] 95 (0, 0)) ∧ w.ownsRow (b + 1) 5 1 v xs.length (bsC xs)
theorem copyCheck_any (b : Nat) (p v : Value) (n : Nat) (xs : List Value) (w : World) (hp : p = .pointer none ∨ p = .pointer (some ⟨b, 0, none⟩)) (h : w.heap[b]? = some (.cells #[p, v] 95 (0, 0))) (ho : w.ownsRow (b + 1) 5 1 v n xs) :
    Calls Tryz.prog 75 #[.pointer (some ⟨b, 0, none⟩)] w fun e w' => e = .returned (.tuple #[]) ∧ w'.heap[b]? = some (.cells #[.pointer (some ⟨b, 0, none⟩), v] 95 (0, 0)) ∧ w'.ownsRow (b + 1) 5 1 v n xs ∧ Below b w w' ∧ w'.heap.size = w.heap.size := by
  rcases hp with rfl | rfl
  · refine (copyCheck_new b v w h).mono ?_
    rintro e w' ⟨rfl, rfl⟩
    refine ⟨rfl, ?_, ownsRow_setCell_below ho (a := ⟨b, 0, none⟩) (by simp) _, (Below.refl _ _).setCell (p := ⟨b, 0, none⟩) (Nat.le_refl _) _, by simp⟩
    simp [World.setCell, Array.getElem?_modify, h]
  · refine (copyCheck_used b v w h).mono ?_
    rintro e w' ⟨rfl, rfl⟩
    exact ⟨rfl, h, ho, Below.refl _ _, rfl⟩
theorem infoByte : (Tryz.prog.info? 5).map (fun i => (i.zero, i.size, i.bytes)) = some (some (.int .u8 0), 1, 1) := by kernel_rfl
set_option maxHeartbeats 400000 in
theorem writeString_any (b : Nat) (xs : List UInt8) (s : ByteArray) (w : World) (h : Bld w b xs) (hl : xs.length + s.size ≤ 1000000) :
    Calls Tryz.prog 51 #[.pointer (some ⟨b, 0, none⟩), .string s] w fun e w' => e = .returned (.tuple #[.int .i64 s.size, .nilIface]) ∧ Bld w' b (xs ++ s.data.toList) ∧ Below b w w' := by
  obtain ⟨p, v, hp, hb, ho⟩ := h.ex
  have HC := Lib.hid (copyCheck_any b p v _ _ w hp hb ho)
  have h1 : xs.length + s.size ≤ maxLen := by unfold maxLen; omega
  have h2 : xs.length + s.size ≤ 140737488355328 := by omega
  have hlt : b < w.heap.size := (Array.getElem?_eq_some_iff.1 hb).1
  obtain ⟨i0, hi, hz0, hz1, hz2⟩ := info_parts infoByte
  clear h hp hb ho hl
  go_enter Tryz.func51, Tryz.ntmps51
  go_wp2_with fail
  refine HC.out.mono ?_
  rintro e w1 ⟨rfl, hb1, ho1, hB1, hs1⟩
  obtain ⟨⟨a0, a1⟩, af0, af1⟩ := blk2 hb1
  have HO1 := Lib.hid ho1
  have HH1 := Lib.hid hb1
  have HB1 := Lib.hid hB1
  have hs1' := Nat.le_of_eq hs1
  have hs2' := Nat.le_of_eq hs1.symm
  clear hb1 ho1 hB1 hs1
  go_wp2_with (at_builtin; refine Lib.wpList_append_own_string _ rfl (.tmp 12) (.tmp 13) 93 9 rfl (b + 1) 5 i0 Tryz.underlying93 Tryz.underlying9 hi hz0 hz1 hz2 v xs.length (bsC xs) rfl HO1.out s rfl h1 h2 ?c5 ?_)
  case c5 => omega
  intro v' w2 ho2 hg2 _
  have R : w2.heap[b]? = some (.cells #[.pointer (some ⟨b, 0, none⟩), v] 95 (0, 0)) ∧ w2.ownsRow (b + 1) 5 1 v' (xs ++ s.data.toList).length (bsC (xs ++ s.data.toList)) ∧ Below b w w2 := by
    refine ⟨(hg2.block b (by omega) (fun e => ?_)).trans HH1.out, ?_, HB1.out.grown hg2 (by omega) (fun k e => ?_)⟩
    · have := (HO1.out.lt b e.symm).1; omega
    · rw [strCells_eq, bsC_app] at ho2
      rw [List.length_append, size_toList]
      exact ho2
    · have := (HO1.out.lt k e).1; omega
  obtain ⟨⟨y0, y1⟩, yf0, yf1⟩ := blk2 R.1
  have HR := Lib.hid R
  obtain ⟨A, cap, rfl⟩ : ∃ A cap, v' = .slice A (xs ++ s.data.toList).length cap := by
    rcases R.2.1.2 with ⟨h, h0⟩ | ⟨g, cap, _, hv, _⟩
    · exact ⟨none, 0, by rw [h, h0]⟩
    · exact ⟨_, cap, hv⟩
  clear R ho2 hg2 a0 a1 af0 af1
  go_wp2
  go_ret2
  refine ⟨rfl, ⟨_, _, .inr rfl, ?_, ownsRow_setCell_below HR.out.2.1 (a := ⟨b, 1, none⟩) (by simp) _⟩, HR.out.2.2.setCell (p := ⟨b, 1, none⟩) (Nat.le_refl _) _⟩
  have := HR.out.1
  simp [World.setCell, Array.getElem?_modify, this]
end Go.Proofs.YthbcfcbonmphfaaGreatDoor

/- LexPlaces: plain facts for the loop over the tokens. -/
namespace Go.Proofs.YthbcfcbonmphfaaGreatDoor
set_option maxRecDepth 100000
open Go.RowKit

theorem tkText_le13 (t : Tk) : (tkText t).length ≤ t.t.length + 13 := by
  unfold tkText
  split
  · have := decF_len 13 t.n.toNat
    unfold dec; omega
  · omega
theorem jres_one (t : Tk) (hv : validT t.k t.t t.n = true) (hl : t.t.length ≤ 1000) : jres [t] = (part t, 0) := by
  have hj : jval [t] = true := jval_of [t] fun i u hi hu => by
    have h0 : i = 0 := by simp at hi; omega
    subst h0
    have e : t = u := by simpa using hu
    subst e
    unfold tkOk
    simp [hv]
  have ht := tkText_le13 t
  unfold jres
  rw [if_pos hj]
  unfold jgo part
  by_cases h5 : t.k = 5
  · rw [if_pos h5, if_pos h5]
  · rw [if_neg h5, if_neg h5, if_neg (by simp; omega)]
    simp [jgo]
theorem ptxt_step (g : Nat → Nat) (L : List Tk) (k : Nat) (t : Tk) (h : L[k]? = some t) : ptxt g k (L.drop k) = part t ++ (gapL (g k) ++ ptxt g (k + 1) (L.drop (k + 1))) := by
  rw [drop_of L k t h, ptxt]
theorem Ends_at : ∀ (L : List Tk) (i : Nat) (t : Tk), Ends L → L[i]? = some t → (t.k = 5 ↔ i + 1 = L.length)
  | [], _, _, h, _ => h.elim
  | u :: L, 0, t, h, ht => by
    have e : u = t := by simpa using ht
    subst e
    unfold Ends at h
    split at h
    · rename_i h5
      subst h
      simp [h5]
    · rename_i h5
      cases L with
      | nil => exact h.elim
      | cons v L => simp [h5]
  | u :: L, i + 1, t, h, ht => by
    have ht' : L[i]? = some t := by simpa using ht
    unfold Ends at h
    split at h
    · subst h; simp at ht'
    · have := Ends_at L i t h ht'
      rw [this]; simp
theorem Asc_at : ∀ (L : List Tk) (a b : Int) (i : Nat) (t : Tk), Asc a b L → L[i]? = some t → 1 ≤ t.a ∧ 1 ≤ t.b
  | [], _, _, _, _, _, h => by simp at h
  | u :: L, a, b, 0, t, h, ht => by
    have e : u = t := by simpa using ht
    subst e
    exact ⟨h.2.1, h.2.2.1⟩
  | u :: L, a, b, i + 1, t, h, ht => Asc_at L _ _ i t h.2.2.2 (by simpa using ht)
theorem Asc_next : ∀ (L : List Tk) (a b : Int) (i : Nat) (u t : Tk), Asc a b L → L[i]? = some u → L[i + 1]? = some t → u.a < t.a ∨ (u.a = t.a ∧ u.b + 1 ≤ t.b)
  | [], _, _, _, _, _, _, h, _ => by simp at h
  | v :: L, a, b, 0, u, t, h, hu, ht => by
    have e : v = u := by simpa using hu
    subst e
    cases L with
    | nil => simp at ht
    | cons x L =>
      have e : x = t := by simpa using ht
      subst e
      exact h.2.2.2.1
  | v :: L, a, b, i + 1, u, t, h, hu, ht => Asc_next L _ _ i u t h.2.2.2 (by simpa using hu) (by simpa using ht)
/-- One token of a slice is a slice of tokens. -/
theorem SlT.one {w : World} {b off k : Nat} {L : List Tk} {t : Tk} (h : SlT w (some ⟨b, off, none⟩) L) (ht : L[k]? = some t) : SlT w (some ⟨b, off + k * 5, none⟩) [t] := by
  intro _
  have hk := (List.getElem?_eq_some_iff.1 ht).1
  obtain ⟨b', off', e, hlt, hc⟩ := h (by omega)
  injection e with e
  injection e with e1 e2 _
  subst e1 e2
  refine ⟨b, off + k * 5, rfl, hlt, fun i u hu => ?_⟩
  have h0 : i = 0 := by
    rcases Nat.eq_zero_or_pos i with h | h
    · exact h
    · rw [List.getElem?_eq_none (by simp; omega)] at hu; cases hu
  subst h0
  have e : t = u := by simpa using hu
  subst e
  have := hc k t ht
  simpa using this
/-- Bytes of a slice that came in. -/
def ByT (w : World) (G : Option Addr) (gs : List UInt8) : Prop :=
  0 < gs.length → ∃ b off, G = some ⟨b, off, none⟩ ∧ b < w.heap.size ∧ ∀ (i : Nat) (c : UInt8), gs[i]? = some c → w.cell? ⟨b, off + i, none⟩ = some (.int .u8 c.toNat)
theorem ByT.below {w w' : World} {G : Option Addr} {gs : List UInt8} (h : ByT w G gs) (hb : Below w.heap.size w w') : ByT w' G gs := fun hl => by
  obtain ⟨b, off, rfl, hlt, hc⟩ := h hl
  have hs := hb.size
  exact ⟨b, off, rfl, by omega, fun i c hi => (hb.cell (p := ⟨b, off + i, none⟩) hlt).trans (hc i c hi)⟩
/-- Which gap stands behind the i-th token. -/
def gIdx (gs : List UInt8) (i : Nat) : Nat := match gs[i]? with
  | some c => c.toNat % 5
  | none => 0
end Go.Proofs.YthbcfcbonmphfaaGreatDoor
/- Walks: Same and Clone. -/
namespace Go.Proofs.YthbcfcbonmphfaaGreatDoor
set_option maxRecDepth 100000
open Go.RowKit

theorem tksCells_get : ∀ (L : List Tk) (j : Nat) (u : Value), (tksCells L)[j]? = some u → ∃ (i : Nat) (t : Tk) (r : Nat), L[i]? = some t ∧ j = i * 5 + r ∧ r < 5 ∧ (tkCells t)[r]? = some u
  | [], j, u, h => by simp [tksCells] at h
  | t :: L, j, u, h => by
    have e : tksCells (t :: L) = tkCells t ++ tksCells L := by simp [tksCells]
    rw [e] at h
    have hl : (tkCells t).length = 5 := rfl
    rcases Nat.lt_or_ge j 5 with h5 | h5
    · rw [List.getElem?_append_left (by omega)] at h
      exact ⟨0, t, j, rfl, by omega, h5, h⟩
    · rw [List.getElem?_append_right (by omega), hl] at h
      obtain ⟨i, t', r, h1, h2, h3, h4⟩ := tksCells_get L (j - 5) u h
      exact ⟨i + 1, t', r, by simpa using h1, by omega, h3, h4⟩
theorem tksCells_at : ∀ (L : List Tk) (i : Nat) (t : Tk) (r : Nat), L[i]? = some t → r < 5 → (tksCells L)[i * 5 + r]? = (tkCells t)[r]?
  | [], i, t, r, h, _ => by simp at h
  | u :: L, 0, t, r, h, hr => by
    have e : tksCells (u :: L) = tkCells u ++ tksCells L := by simp [tksCells]
    have h' : u = t := by simpa using h
    have hl : (tkCells u).length = 5 := rfl
    rw [e, List.getElem?_append_left (by omega), h']
    congr 1; omega
  | u :: L, i + 1, t, r, h, hr => by
    have e : tksCells (u :: L) = tkCells u ++ tksCells L := by simp [tksCells]
    have hl : (tkCells u).length = 5 := rfl
    rw [e, List.getElem?_append_right (by omega), hl]
    have := tksCells_at L i t r (by simpa using h) hr
    rw [← this]
    congr 1; omega
/-- A row of the call's own is a slice of tokens. -/
theorem slT_own {w : World} {base n : Nat} {v : Value} {L : List Tk} (h : w.ownsRow base 130 5 v n (tksCells L)) : ∃ A cap, v = .slice A L.length cap ∧ SlT w A L ∧ n = L.length := by
  have hn : n = L.length := by have := h.1; rw [tksCells_len] at this; omega
  subst hn
  rcases h.2 with ⟨rfl, h0⟩ | ⟨g, cap, cur, rfl, _, hh, _⟩
  · exact ⟨none, 0, by rw [h0], fun hp => absurd hp (by omega), rfl⟩
  · refine ⟨_, cap, rfl, fun hp => ⟨g, 0, rfl, ?_, fun i t ht => ?_⟩, rfl⟩
    · exact (h.lt g rfl).2
    · have hi : i < L.length := (List.getElem?_eq_some_iff.1 ht).1
      have c := fun r (hr : r < 5) => (h.cellAt (i * 5 + r) (by omega)).trans (tksCells_at L i t r ht hr)
      have c0 := c 0 (by omega)
      have c1 := c 1 (by omega)
      have c2 := c 2 (by omega)
      have c3 := c 3 (by omega)
      have c4 := c 4 (by omega)
      simp only [Nat.zero_add]
      exact ⟨c0, c1, c2, c3, c4⟩
theorem slT_news {w : World} {b off : Nat} {L : List Tk} (h : ∀ (i : Nat) (t : Tk), L[i]? = some t → w.cell? ⟨b, off + i * 5, none⟩ = some (.int .i64 t.k) ∧ w.cell? ⟨b, off + i * 5 + 1, none⟩ = some (.string ⟨t.t.toArray⟩) ∧
    w.cell? ⟨b, off + i * 5 + 2, none⟩ = some (.int .i64 t.n) ∧ w.cell? ⟨b, off + i * 5 + 3, none⟩ = some (.int .i64 t.a) ∧ w.cell? ⟨b, off + i * 5 + 4, none⟩ = some (.int .i64 t.b)) :
    ∀ j u, (tksCells L)[j]? = some u → w.cell? ((⟨b, off, none⟩ : Addr).add j) = some u := by
  intro j u hu
  obtain ⟨i, t, r, h1, rfl, hr, h4⟩ := tksCells_get L j u hu
  have ad : ∀ n, (⟨b, off, none⟩ : Addr).add n = ⟨b, off + n, none⟩ := fun n => Go.WideShapes.add_plain ..
  rw [ad]
  obtain ⟨c0, c1, c2, c3, c4⟩ := h i t h1
  rw [← Nat.add_assoc]
  match r, hr with
  | 0, _ => rw [Nat.add_zero, c0]; exact h4
  | 1, _ => rw [c1]; exact h4
  | 2, _ => rw [c2]; exact h4
  | 3, _ => rw [c3]; exact h4
  | 4, _ => rw [c4]; exact h4
theorem kt_at {L M : List Tk} (h : L.map kt = M.map kt) (i : Nat) (t : Tk) (ht : L[i]? = some t) : ∃ u, M[i]? = some u ∧ u.k = t.k ∧ u.t = t.t ∧ u.n = t.n := by
  have h1 : (L.map kt)[i]? = some (kt t) := by rw [List.getElem?_map, ht]; rfl
  rw [h, List.getElem?_map] at h1
  cases hm : M[i]? with
  | none => rw [hm] at h1; cases h1
  | some u =>
    rw [hm] at h1
    have e : kt u = kt t := by simpa using h1
    unfold kt at e
    simp only [Prod.mk.injEq] at e
    exact ⟨u, rfl, e.1, e.2.1, e.2.2⟩

end Go.Proofs.YthbcfcbonmphfaaGreatDoor
namespace Go.Proofs.YthbcfcbonmphfaaGreatDoor
set_option maxRecDepth 100000
open Go.RowKit

theorem own_cap {w : World} {B n c : Nat} {A : Option Addr} {xs : List Value} (h : w.ownsRow B 130 5 (.slice A n c) n xs) : n ≤ c := by
  rcases h.2 with ⟨h, h0⟩ | ⟨_, cap, _, hv, _, _, h1, _⟩
  · omega
  · injection hv with _ _ e; omega
theorem Bld.below {w w' : World} {b : Nat} {xs : List UInt8} (h : Bld w b xs) (hb : Below w.heap.size w w') : Bld w' b xs := by
  obtain ⟨p, v, hp, h1, h2⟩ := h.ex
  have hlt := (Array.getElem?_eq_some_iff.1 h1).1
  exact ⟨p, v, hp, (hb.block _ hlt).trans h1, h2.kept (row := none) ⟨hb.os, hb.tape, hb.output, hb.size, fun i hi _ => hb.block i hi⟩ (by cases v.ownBlock <;> simp)⟩
theorem Bld.drewN {w : World} {b : Nat} {xs : List UInt8} (h : Bld w b xs) (q : Nat) : Bld (w.drewN q) b xs := h.below (below_drewN (Below.refl _ _) q)
theorem app_le (a : List UInt8) (g : ByteArray) (h : g.size ≤ 7) : ((⟨a.toArray⟩ : ByteArray) ++ g).size ≤ a.length + 7 := by
  rw [ByteArray.size_append]
  show a.toArray.size + _ ≤ _
  rw [List.size_toArray]; omega
theorem app_data (a : List UInt8) (g : ByteArray) : ((⟨a.toArray⟩ : ByteArray) ++ g).data.toList = a ++ g.data.toList := by
  rw [ByteArray.data_append, Array.toList_append]
theorem Bld.isF {w : World} {b : Nat} {xs : List UInt8} (h : Bld w (b + 1) xs) : Lib.IsBuilderF 95 5 b (b + 1) (Lib.byteCells xs) w := by
  obtain ⟨p, v, hp, h1, h2⟩ := h.ex
  have hl : (Lib.byteCells xs).length = xs.length := Lib.byteCells_length xs
  have key : Lib.BuilderAtF 95 5 b (b + 1) p (Lib.byteCells xs) w :=
    ⟨by omega, v, h1, by rw [hl]; exact World.ownsRowF_of (h2.mono (by omega)), fun e => by have := (h2.lt (b + 1) e).1; omega⟩
  rcases hp with rfl | rfl
  · exact .inl key
  · exact .inr key
theorem small_one (t : Tk) (h : t.t.length ≤ 1000) : Small [t] := ⟨by simp, fun i u hu => by
  rcases Nat.eq_zero_or_pos i with h0 | h0
  · subst h0
    have e : t = u := by simpa using hu
    rw [← e]; exact h
  · rw [List.getElem?_eq_none (by simp; omega)] at hu; cases hu⟩
theorem tlen_le : ∀ (L : List Tk) (i : Nat) (t : Tk), L[i]? = some t → t.t.length ≤ tlen L
  | [], _, _, h => by simp at h
  | u :: L, 0, t, h => by
    have e : u = t := by simpa using h
    subst e
    unfold tlen; omega
  | u :: L, i + 1, t, h => by
    have := tlen_le L i t (by simpa using h)
    unfold tlen; omega
end Go.Proofs.YthbcfcbonmphfaaGreatDoor
