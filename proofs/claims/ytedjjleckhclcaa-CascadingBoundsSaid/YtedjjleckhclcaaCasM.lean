/- Walks: Len, Compares, Size, Lists. -/
import Derived.Test.YtedjjleckhclcaaCasL
namespace Go.Proofs.Ytedjjleckhclcaa
open Go.RowKit
set_option maxRecDepth 100000

theorem len_nil (w : World) : Calls Try.prog 11 #[.pointer none] w fun e w' => e = .returned (.int .i64 0) ∧ w = w' := by
  go_enter Try.func11, Try.ntmps11
  go_wp2_with fail
  go_ret
  exact ⟨rfl, rfl⟩
theorem compares_nil (w : World) : Calls Try.prog 20 #[.pointer none] w fun e w' => e = .returned (.int .i64 0) ∧ w = w' := by
  go_enter Try.func20, Try.ntmps20
  go_wp2_with fail
  go_ret
  exact ⟨rfl, rfl⟩
theorem size_nil (w : World) : Calls Try.prog 19 #[.pointer none] w fun e w' => e = .returned (.int .i64 0) ∧ w = w' := by
  go_enter Try.func19, Try.ntmps19
  go_wp2_with fail
  go_ret
  exact ⟨rfl, rfl⟩
theorem lists_nil (w : World) : Calls Try.prog 17 #[.pointer none] w fun e w' => e = .returned (.slice none 0 0) ∧ w = w' := by
  go_enter Try.func17, Try.ntmps17
  go_wp2_with fail
  go_ret
  exact ⟨rfl, rfl⟩
theorem len_any (x g n : Nat) (c : Int) (w : World) (hb : w.heap[x]? = some (ixBox g n c)) : Calls Try.prog 11 #[.pointer (some ⟨x, 0, none⟩)] w fun e w' => e = .returned (.int .i64 n) ∧ w = w' := by
  obtain ⟨⟨c0, c1⟩, f0, f1⟩ := bk2 hb
  clear hb
  go_enter Try.func11, Try.ntmps11
  go_wp2_with fail
  go_ret
  exact ⟨rfl, rfl⟩
theorem compares_any (x g n : Nat) (c : Int) (w : World) (hb : w.heap[x]? = some (ixBox g n c)) : Calls Try.prog 20 #[.pointer (some ⟨x, 0, none⟩)] w fun e w' => e = .returned (.int .i64 c) ∧ w = w' := by
  obtain ⟨⟨c0, c1⟩, f0, f1⟩ := bk2 hb
  clear hb
  go_enter Try.func20, Try.ntmps20
  go_wp2_with fail
  go_ret
  exact ⟨rfl, rfl⟩

theorem sum_take {α : Type} {L : List (List α)} {i : Nat} {l : List α} (h : L[i]? = some l) : ((L.take (i + 1)).map List.length).sum = ((L.take i).map List.length).sum + l.length := by
  rw [List.take_add_one, h]
  simp
theorem sum_le {α : Type} (L : List (List α)) (i B : Nat) (h : ∀ l ∈ L, l.length ≤ B) : ((L.take i).map List.length).sum ≤ i * B := by
  induction i with
  | zero => simp
  | succ i ih =>
    rcases hl : L[i]? with _ | l
    · rw [List.take_add_one, hl, Option.toList_none, List.append_nil, Nat.succ_mul]
      omega
    · rw [sum_take hl, Nat.succ_mul]
      have := h l (List.mem_of_getElem? hl)
      omega
/-- An index below: what a call that makes memory leaves. -/
theorem IX.below {x g n1 : Nat} {L : List (List CE)} {c : Int} {W W' : World} (h : IX x g n1 L c W) (hn : n1 ≤ W.heap.size) (hb : Below W.heap.size W W') : IX x g n1 L c W' :=
  h.but hn (but_below (but_refl x W) hb) (bdAt h.box hb)
theorem IX.keys {x g n1 i : Nat} {L : List (List CE)} {c : Int} {W : World} {l : List CE} (h : IX x g n1 L c W) (hi : L[i]? = some l) : ∃ A1 c1 A2 c2, W.cell? ⟨g, i * 2, none⟩ = some (.slice A1 l.length c1) ∧ W.cell? ⟨g, i * 2 + 1, none⟩ = some (.slice A2 (l.length + 1) c2) ∧
    IntsV (fun b => b < n1 ∧ b ≠ x) W (.slice A1 l.length c1) (l.map Prod.fst) := by
  obtain ⟨A1, c1, A2, c2, q1, q2, q3, _⟩ := h.lists i l hi (List.getElem?_eq_some_iff.1 hi).1
  exact ⟨A1, c1, A2, c2, q1, q2, q3⟩

set_option maxHeartbeats 2000000 in
theorem size_any (x g n1 : Nat) (L : List (List CE)) (c : Int) (w : World) (hix : IX x g n1 L c w) (hn : n1 ≤ w.heap.size) (h32 : L.length ≤ 40) (hl : ∀ l ∈ L, l.length ≤ 3000) :
    Calls Try.prog 19 #[.pointer (some ⟨x, 0, none⟩)] w fun e w' => e = .returned (.int .i64 ((L.map List.length).sum : Nat)) ∧ Below w.heap.size w w' := by
  obtain ⟨⟨c0, c1⟩, f0, f1⟩ := bk2 hix.box
  have HIX := Lib.hid hix
  have HL := Lib.hid (fun i => sum_le L i 3000 hl)
  obtain ⟨m, hm⟩ : ∃ m, L.length = m := ⟨_, rfl⟩
  have HM := Lib.hid hm
  rw [hm] at h32 c0
  clear hix hl hm
  go_enter Try.func19, Try.ntmps19
  go_wp2_with fail
  clear c0 c1 f0 f1
  go_loopw [3, 13] (fun u j wr => ∃ i s : Nat, i ≤ m ∧ j = .int .i64 i ∧ u = .int .i64 s ∧ s = ((L.take i).map List.length).sum ∧ Below w.heap.size w wr) (fun _ j _ => m - (intOf j).toNat)
  case atStart => exact ⟨0, 0, Nat.zero_le _, rfl, rfl, by simp, Below.refl _ _⟩
  case round =>
    obtain ⟨i, s, hi, rfl, rfl, hs, hbw⟩ := hrel
    have HS := Lib.hid hs
    have HBW := Lib.hid hbw
    have hsz := hbw.size
    have hsb := HL.out i
    have hs2 : s ≤ i * 3000 := by rw [hs]; exact hsb
    clear hs hbw hsb
    by_cases hlt : i < m
    · obtain ⟨l, hl⟩ : ∃ l, L[i]? = some l := ⟨L[i]'(by rw [HM.out]; exact hlt), List.getElem?_eq_getElem _⟩
      have hix2 := HIX.out.below hn HBW.out
      obtain ⟨A1, c1, A2, c2, q1, q2, _⟩ := hix2.keys hl
      have hgw : g < wr.heap.size := by have := hix2.gn; omega
      have hsn : s + l.length ≤ (i + 1) * 3000 := by
        have := HL.out (i + 1)
        rw [sum_take hl, ← HS.out] at this
        exact this
      have HSN : Hid (s + l.length = ((L.take (i + 1)).map List.length).sum) := by rw [sum_take hl, ← HS.out]; exact Lib.hid rfl
      have HB2 := Lib.hid (HBW.out.alloc hsz (.cells #[.slice A1 l.length c1, .slice A2 (l.length + 1) c2] 51))
      clear hl hix2
      go_wp2_with fail
      go_roundw
      case rel => exact ⟨i + 1, s + l.length, by omega, by go_num, by go_num, HSN.out, HB2.out⟩
      case measure => simp [intOf]; omega
    · have him : i = L.length := by rw [HM.out]; omega
      have HR : Hid (s = (L.map List.length).sum) := by rw [HS.out, him, List.take_length]; exact Lib.hid rfl
      clear him
      go_wp2_with fail
      go_ret
      exact ⟨retI (by rw [← HR.out]), HBW.out⟩

/-- What slices.Clone hands back. -/
def ClonePost (w : World) (L : List Int) (e : Ending) (w' : World) : Prop :=
  ∃ A c, e = .returned (.slice A L.length c) ∧ IntsV (fun b => w.heap.size ≤ b ∧ b < w'.heap.size) w' (.slice A L.length c) L ∧ Below w.heap.size w w'
theorem clone_own {w w' : World} {v : Value} {L : List Int} {e : TypeId} (h : w'.ownsRow w.heap.size e 1 v L.length (vals L)) (hb : Below w.heap.size w w') : ClonePost w L (.returned v) w' := by
  have hv := intsV_own (P := fun b => w.heap.size ≤ b ∧ b < w'.heap.size) h (fun b h1 h2 => ⟨h1, h2⟩)
  obtain ⟨A, c, rfl, _⟩ := id hv
  exact ⟨A, c, rfl, hv, hb⟩
set_option maxHeartbeats 2000000 in
theorem clone_any (A : Option Addr) (c : Nat) (L : List Int) (P : Nat → Prop) (w : World) (hP : ∀ b, P b → b < w.heap.size) (hv : IntsV P w (.slice A L.length c) L) (hl : L.length ≤ 100000) :
    Calls Try.prog 32 #[.slice A L.length c] w (ClonePost w L) := by
  obtain ⟨A', c', he, h1, h2, h3, h4⟩ := hv
  injection he with e1 _ e2
  subst e1 e2
  obtain ⟨n, hn⟩ : ∃ n, L.length = n := ⟨_, rfl⟩
  have HN := Lib.hid hn
  rw [hn] at h1 hl ⊢
  have HC := Lib.hid h4
  clear h4 hn
  cases A with
  | none =>
    obtain rfl := h3 rfl
    obtain rfl : n = 0 := by omega
    have hL : L = [] := List.length_eq_zero_iff.1 HN.out
    have HL := Lib.hid hL
    have hnil := fun W : World => Lib.run_eql_slice_nil (P := Try.prog) W 31 3 none 0 0 0 0 Try.underlying31
    simp only [Option.isNone_none] at hnil
    clear hL h3
    go_enter Try.func32, Try.ntmps32
    go_wp2_with fail
    go_ret
    exact ⟨none, 0, by rw [HL.out]; rfl, ⟨none, 0, rfl, by rw [HL.out]; exact Nat.zero_le _, h2, fun _ => rfl, by rw [HL.out]; exact IntsAt.nil _ _ _⟩, Below.refl _ _⟩
  | some ad =>
    obtain ⟨i1, hi1, hy0, hy1, hy2⟩ := info_parts Try.infoInt
    have hown := World.ownsRow_made (base := w.heap.size) (e := 3) (size := 1) w #[] 0 (Nat.le_refl _) (by unfold maxLen; omega) rfl
    have hcells : ∀ j u, (vals L)[j]? = some u → (w.alloc (.cells #[] 3)).cell? (ad.add j) = some u := fun j u hu => by
      unfold vals at hu
      rw [List.getElem?_map] at hu
      cases hx : L[j]? with
      | none => rw [hx] at hu; cases hu
      | some y =>
        rw [hx] at hu
        obtain rfl : Value.int .i64 y = u := by simpa using hu
        obtain ⟨b, off, hA, hb, hc⟩ := HC.out (by have := (List.getElem?_eq_some_iff.1 hx).1; omega)
        injection hA with hA
        subst hA
        rw [add_off]
        exact (World.cell?_alloc_lt w _ ⟨b, off + j, none⟩ (hP b hb)).trans (hc j y hx)
    have HCE := Lib.hid hcells
    have HO := Lib.hid hown
    have HLV : Hid ((vals L).length = n * 1) := by rw [← HN.out]; exact Lib.hid (by simp [vals])
    have HO1 : Hid (∀ u ∈ vals L, u.oneCell' = true) := Lib.hid fun u hu => by
      obtain ⟨y, _, rfl⟩ := List.mem_map.1 hu
      rfl
    have hnil := fun W : World => Lib.run_eql_slice_nil (P := Try.prog) W 31 3 (some ad) n c 0 0 Try.underlying31
    simp only [Option.isNone_some] at hnil
    clear hcells hown h3
    go_enter Try.func32, Try.ntmps32
    go_wp2_with (at_builtin; refine wpList_append_own _ rfl (.tmp 5) (.tmp 6) 31 rfl w.heap.size 3 i1 _ 1 8 Try.underlying31 hi1 hy0 hy1 hy2 rfl (by decide) (.slice (some ⟨w.heap.size, 0, none⟩) 0 0) 0 [] rfl HO.out ad n c (vals L) rfl HLV.out HCE.out HO1.out (by unfold maxLen; omega) (by omega) (by simp) ?_)
    intro v' w1 hown' hgrow _
    have hb : Below w.heap.size w w1 := ((Below.refl _ _).alloc (Nat.le_refl _) _).grown hgrow (by simp) (fun k e => by simp [Value.ownBlock] at e; omega)
    have HP := Lib.hid (clone_own (L := L) (by rw [HN.out]; exact hown') hb)
    clear hown' hgrow hb
    go_wp2_with fail
    go_ret
    exact HP.out

/-- A slice of clones. -/
def RowV (P : Nat → Prop) (W : World) (k : Nat) (L : List (List CE)) (vs : List Value) : Prop :=
  vs.length = k ∧ ∀ (i : Nat) (l : List CE), i < k → L[i]? = some l → ∃ A c, vs[i]? = some (.slice A l.length c) ∧ l.length ≤ c ∧ c ≤ maxLen ∧ IntsAt P W A (l.map Prod.fst)
theorem RowV.keep {P Q : Nat → Prop} {W W' : World} {k : Nat} {L : List (List CE)} {vs : List Value} (h : RowV P W k L vs) (hk : ∀ b o u, P b → W.cell? ⟨b, o, none⟩ = some u → Q b ∧ W'.cell? ⟨b, o, none⟩ = some u) : RowV Q W' k L vs := by
  refine ⟨h.1, fun i l hi hl => ?_⟩
  obtain ⟨A, c, e1, e2, e3, e4⟩ := h.2 i l hi hl
  refine ⟨A, c, e1, e2, e3, fun hp => ?_⟩
  obtain ⟨b, off, e5, e6, e7⟩ := e4 hp
  obtain ⟨y, hy⟩ : ∃ y, (l.map Prod.fst)[0]? = some y := ⟨(l.map Prod.fst)[0], List.getElem?_eq_getElem hp⟩
  exact ⟨b, off, e5, (hk b _ _ e6 (e7 0 y hy)).1, fun j z hz => (hk b _ _ e6 (e7 j z hz)).2⟩
theorem RowV.snoc {P : Nat → Prop} {W : World} {k c : Nat} {L : List (List CE)} {vs : List Value} {l : List CE} {A : Option Addr} (h : RowV P W k L vs) (hl : L[k]? = some l) (h1 : l.length ≤ c) (h2 : c ≤ maxLen) (h3 : IntsAt P W A (l.map Prod.fst)) : RowV P W (k + 1) L (vs ++ [.slice A l.length c]) := by
  refine ⟨by simp [h.1], fun i m hi hm => ?_⟩
  rcases Nat.lt_or_ge i k with hik | hik
  · obtain ⟨A', c', e1, e2⟩ := h.2 i m hik hm
    exact ⟨A', c', by rw [List.getElem?_append_left (by rw [h.1]; exact hik)]; exact e1, e2⟩
  · have : i = k := by omega
    subst this
    rw [hl] at hm
    obtain rfl := Option.some.inj hm
    exact ⟨A, c, by rw [← h.1]; simp, h1, h2, h3⟩
theorem RowV.rows {P : Nat → Prop} {W : World} {B k c : Nat} {A : Option Addr} {L : List (List CE)} {vs : List Value} {e : TypeId} (h : RowV P W k L vs) (hk : k = L.length) (ho : W.ownsRow B e 1 (.slice A k c) k vs) (hP : ∀ b, B ≤ b → b < W.heap.size → P b) : RowsAt P W A (L.map fun l => l.map Prod.fst) := fun hp => by
  rw [List.length_map] at hp
  obtain ⟨g, cap, hv, hg, hlt⟩ := ho.form (by omega)
  have hA : A = some ⟨g, 0, none⟩ := by injection hv
  subst hA
  refine ⟨g, 0, rfl, hP g hg hlt, fun i m hm => ?_⟩
  rw [List.getElem?_map] at hm
  cases hl : L[i]? with
  | none => rw [hl] at hm; cases hm
  | some l =>
    rw [hl] at hm
    obtain rfl : l.map Prod.fst = m := by simpa using hm
    obtain ⟨A', c', e1, e2, e3, e4⟩ := h.2 i l (by have := (List.getElem?_eq_some_iff.1 hl).1; omega) hl
    have := ho.cells (g := g) rfl i _ e1
    rw [add_off] at this
    exact ⟨A', c', by rw [List.length_map]; exact this, by rw [List.length_map]; exact e2, e3, e4⟩
theorem Try.infoInts : (Try.prog.info? 31).map (fun i => (i.zero, i.size, i.bytes)) = some (some (.slice none 0 0), 1, 24) := by kernel_rfl
/-- What Lists hands back. -/
def ListsPost (w : World) (L : List (List CE)) (e : Ending) (w' : World) : Prop :=
  ∃ A c, e = .returned (.slice A L.length c) ∧ RowsAt (fun b => w.heap.size ≤ b ∧ b < w'.heap.size) w' A (L.map fun l => l.map Prod.fst) ∧ Below w.heap.size w w'
theorem lists_step {w wr V W1 W2 : World} {i c3 cc g2 : Nat} {A3 Ac : Option Addr} {L : List (List CE)} {l : List CE} {vs : List Value} {e : TypeId} {oc : Obj} (h : RowV (fun b => w.heap.size ≤ b ∧ b < wr.heap.size ∧ (Value.slice A3 i c3).ownBlock ≠ some b) wr i L vs) (hl : L[i]? = some l)
    (ho : wr.ownsRow w.heap.size e 1 (.slice A3 i c3) i vs) (hw : w.heap.size ≤ wr.heap.size) (hV : Below wr.heap.size wr V) (hc : Below V.heap.size V W1) (hcl : IntsV (fun b => V.heap.size ≤ b ∧ b < W1.heap.size) W1 (.slice Ac l.length cc) (l.map Prod.fst))
    (hg : (W1.alloc oc).grownBy W2 (Value.slice A3 i c3).ownBlock) (hat : (Value.slice A3 i c3).ownBlock = some g2 ∨ g2 = W1.heap.size + 1) :
    RowV (fun b => w.heap.size ≤ b ∧ b < W2.heap.size ∧ g2 ≠ b) W2 (i + 1) L (vs ++ [.slice Ac l.length cc]) := by
  have s1 := hV.size
  have s2 := hc.size
  have s3 := hg.size
  simp only [World.size_alloc] at s3
  have hblk : ∀ b, b < W1.heap.size → (Value.slice A3 i c3).ownBlock ≠ some b → W2.heap[b]? = W1.heap[b]? := fun b hb hne =>
    (hg.block b (by simp; omega) (fun e => hne e.symm)).trans (Below.heap_alloc _ _ _ hb)
  obtain ⟨A', c', he, h1, h2, _, h4⟩ := hcl
  injection he with e1 _ e2
  subst e1 e2
  refine RowV.snoc (h.keep fun b o u hb hcell => ?_) hl (by simpa using h1) h2 ?_
  · refine ⟨⟨hb.1, by omega, ?_⟩, ?_⟩
    · rcases hat with h | h
      · intro e; exact hb.2.2 (by rw [h, e])
      · omega
    · exact (World.cell?_of_block (a := ⟨b, o, none⟩) ((hblk b (by omega) hb.2.2).trans ((hc.block b (by omega)).trans (hV.block b hb.2.1)))).trans hcell
  · intro hp
    obtain ⟨b, off, e5, e6, e7⟩ := h4 hp
    have hne : (Value.slice A3 i c3).ownBlock ≠ some b := fun e => by have := (ho.lt b e).2; omega
    refine ⟨b, off, e5, ⟨by omega, by omega, ?_⟩, fun j z hz => (World.cell?_of_block (a := ⟨b, off + j, none⟩) (hblk b e6.2 hne)).trans (e7 j z hz)⟩
    rcases hat with h | h
    · intro e; exact hne (by rw [h, e])
    · omega

set_option maxHeartbeats 4000000 in
theorem lists_any (x g n1 : Nat) (L : List (List CE)) (c : Int) (w : World) (hix : IX x g n1 L c w) (hn : n1 ≤ w.heap.size) (h32 : L.length ≤ 40) (hl : ∀ l ∈ L, l.length ≤ 3000) :
    Calls Try.prog 17 #[.pointer (some ⟨x, 0, none⟩)] w (ListsPost w L) := by
  obtain ⟨⟨c0, c1⟩, f0, f1⟩ := bk2 hix.box
  have HIX := Lib.hid hix
  have HLL := Lib.hid hl
  obtain ⟨m, hm⟩ : ∃ m, L.length = m := ⟨_, rfl⟩
  have HM := Lib.hid hm
  rw [hm] at h32 c0
  obtain ⟨i0, hi0, hz0, hz1, hz2⟩ := info_parts Try.infoInts
  clear hix hl hm
  go_enter Try.func17, Try.ntmps17
  go_wp2_with fail
  clear c0 c1 f0 f1
  go_loopw [3, 13] (fun u j wr => ∃ (i c3 : Nat) (A3 : Option Addr) (vs : List Value), i ≤ m ∧ j = .int .i64 i ∧ u = .slice A3 i c3 ∧ wr.ownsRow w.heap.size 31 1 (.slice A3 i c3) i vs ∧ RowV (fun b => w.heap.size ≤ b ∧ b < wr.heap.size ∧ (Value.slice A3 i c3).ownBlock ≠ some b) wr i L vs ∧ Below w.heap.size w wr) (fun _ j _ => m - (intOf j).toNat)
  case atStart => exact ⟨0, 0, none, [], Nat.zero_le _, rfl, rfl, World.ownsRow_nil _ _ _ _, ⟨rfl, fun i l hi => absurd hi (by omega)⟩, Below.refl _ _⟩
  case round =>
    obtain ⟨i, c3, A3, vs, hi, rfl, rfl, hown, hrow, hbw⟩ := hrel
    have HO := Lib.hid hown
    have HROW := Lib.hid hrow
    have HBW := Lib.hid hbw
    have hsz := hbw.size
    clear hown hrow hbw
    by_cases hlt : i < m
    · obtain ⟨l, hl⟩ : ∃ l, L[i]? = some l := ⟨L[i]'(by rw [HM.out]; exact hlt), List.getElem?_eq_getElem _⟩
      have hix2 := HIX.out.below hn HBW.out
      obtain ⟨A1, c1, A2, c2, q1, q2, q3⟩ := hix2.keys hl
      have hgw : g < wr.heap.size := by have := hix2.gn; omega
      have hl3 := HLL.out l (List.mem_of_getElem? hl)
      have hB1 := (Below.refl wr.heap.size wr).alloc (Nat.le_refl _) (.cells #[.slice A1 l.length c1, .slice A2 (l.length + 1) c2] 51)
      have hlen : (l.map Prod.fst).length = l.length := List.length_map ..
      have HCL := Lib.hid (clone_any A1 c1 (l.map Prod.fst) (fun b => b < wr.heap.size) (wr.alloc (.cells #[.slice A1 l.length c1, .slice A2 (l.length + 1) c2] 51)) (fun b hb => by simp; omega)
        (by rw [hlen]; exact intsV_keep q3 fun b o u hb hc => ⟨by omega, (hB1.cell (p := ⟨b, o, none⟩) (by show b < wr.heap.size; omega)).trans hc⟩) (by rw [hlen]; omega))
      have HB1 := Lib.hid hB1
      rw [hlen] at HCL
      have HLN := Lib.hid hlen
      have HL := Lib.hid hl
      clear hl hix2 q3 hB1 hlen
      go_wp2_with fail
      refine HCL.out.mono ?_
      rintro e W1 ⟨Ac, cc, rfl, hv, hb⟩
      rw [HLN.out] at hv ⊢
      have HV := Lib.hid hv
      have HB2 := Lib.hid hb
      have hs1 := hb.size
      simp only [World.size_alloc] at hs1
      have HO1 := Lib.hid (ownBelow (ownBelow HO.out HB1.out) hb)
      clear hv hb HCL
      go_wp2_with (at_builtin; refine wpList_append_lies _ rfl (.tmp 17) (.tmp 21) 22 rfl w.heap.size 31 i0 _ 1 24 Try.underlying22 hi0 hz0 hz1 hz2 rfl (by decide) (.slice A3 i c3) i vs rfl (HO1.out.alloc _) ⟨W1.heap.size, 0, none⟩ 1 1 [.slice Ac l.length cc] rfl rfl (World.news_of_block (cs := #[.slice Ac l.length cc]) (t := 31) (fr := (0, 0)) (heap_alloc_new W1 _)) (by simp [Value.oneCell']) (by omega) (by unfold maxLen; omega) (by omega) (by simp; omega) (W1.heap.size + 1) (by simp) ?_)
      intro g2 cap2 W2 hown2 hgrow2 hat2 hlt2
      have HR2 := Lib.hid (lists_step HROW.out HL.out HO.out hsz HB1.out HB2.out HV.out hgrow2 hat2)
      have HO2 := Lib.hid hown2
      have HBB := Lib.hid (app_below ((HBW.out.trans (HB1.out.mono hsz)).trans (HB2.out.mono (by simp; omega))) HO1.out (Nat.le_refl _) (by omega) hgrow2)
      clear hown2 hgrow2 hat2 hlt2
      go_wp2_with fail
      go_roundw
      case rel => exact ⟨i + 1, cap2, some ⟨g2, 0, none⟩, _, by omega, by go_num, rfl, HO2.out, HR2.out.keep fun b o u hb hc => ⟨⟨hb.1, hb.2.1, fun e => hb.2.2 (by simpa [Value.ownBlock] using e)⟩, hc⟩, HBB.out⟩
      case measure => simp [intOf]; omega
    · have him : i = L.length := by rw [HM.out]; omega
      have HR := Lib.hid (show ListsPost w L (.returned (.slice A3 i c3)) wr from ⟨A3, c3, by rw [him], (HROW.out.keep (Q := fun b => w.heap.size ≤ b ∧ b < wr.heap.size) fun b o u hb hc => ⟨⟨hb.1, hb.2.1⟩, hc⟩).rows him HO.out fun b h1 h2 => ⟨h1, h2⟩, HBW.out⟩)
      clear him
      go_wp2_with fail
      go_ret
      exact HR.out
end Go.Proofs.Ytedjjleckhclcaa
