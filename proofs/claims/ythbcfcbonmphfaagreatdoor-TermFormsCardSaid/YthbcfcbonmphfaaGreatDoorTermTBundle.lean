/- Parse. -/
import Derived.Test.YthbcfcbonmphfaaGreatDoorTermQBundle
import Derived.StillTailTactics
import Derived.Test.YthbcfcbonmphfaaGreatDoorJoinABundle
import Derived.Test.YthbcfcbonmphfaaGreatDoorPlacCBundle
/- Walks: list, term. -/
namespace Go.Proofs.YthbcfcbonmphfaaGreatDoor
open Go.RowKit Go.Shelf
set_option maxRecDepth 100000

def TermOk (P : Nat) (l : List Tk) (w : World) : Prop := Calls Tryz.prog 55 #[.pointer (some ⟨P, 0, none⟩)] w (TPost P l w)
theorem grown_below {w w' : World} {P n : Nat} (h : w.grownBy w' (some P)) (hn : n ≤ P) (hs : n ≤ w.heap.size) : Below n w w' := (Below.refl n w).grown h hs (fun k e => by cases e; exact hn)
theorem PB.grown {w w' : World} {P : Nat} {l : List Tk} (h : PB w P l) {row : Option Nat} (hg : w.grownBy w' row) (hP : ∀ k, row = some k → P < k) : PB w' P l := by
  have hPw := h.lt
  obtain ⟨b, off, c, h1, h2, h3, h4, h6⟩ := h
  have hs := hg.size
  have hc : ∀ o, w'.cell? ⟨b, o, none⟩ = w.cell? ⟨b, o, none⟩ := fun o => World.cell?_of_block (hg.block b (by omega) (fun e => by have := hP b e.symm; omega))
  exact ⟨b, off, c, (hg.block P hPw (fun e => by have := hP P e.symm; omega)).trans h1, h2, h3, h4, fun i t ht => by
    obtain ⟨c0, c1, c2, c3, c4⟩ := h6 i t ht
    exact ⟨(hc _).trans c0, (hc _).trans c1, (hc _).trans c2, (hc _).trans c3, (hc _).trans c4⟩⟩
theorem l40 : (⟨#[40]⟩ : ByteArray).toList = [40] := by rw [Lib.toList_data]
theorem l41 : (⟨#[41]⟩ : ByteArray).toList = [41] := by rw [Lib.toList_data]
theorem l44 : (⟨#[44]⟩ : ByteArray).toList = [44] := by rw [Lib.toList_data]
theorem l58 : (⟨#[58]⟩ : ByteArray).toList = [58] := by rw [Lib.toList_data]
theorem sym_yes {t : Tk} {s : List UInt8} (h : sym t s) {b : ByteArray} (hb : b.toList = s) : t.t = b.toList := h.2.trans hb.symm
theorem sym_no {t : Tk} {s : List UInt8} (h : ¬ sym t s) {b : ByteArray} (hb : b.toList = s) : t.k ≠ 4 ∨ t.t ≠ b.toList := by
  by_cases hk : t.k = 4
  · exact .inr (fun e => h ⟨hk, e.trans hb⟩)
  · exact .inl hk

set_option maxHeartbeats 4000000 in
theorem list_any (P : Nat) (y : Tk) (l : List Tk) (w : World) (hp : PB w P (y :: l)) (he : EndsK (y :: l)) (hlen : (y :: l).length ≤ 100000)
    (IH : ∀ (lc : List Tk) (wr : World), lc.length < (y :: l).length → PB wr P lc → EndsK lc → TermOk P lc wr) :
    Calls Tryz.prog 83 #[.pointer (some ⟨P, 0, none⟩), .func (.func 55) #[.pointer (some ⟨P, 0, none⟩)] #[]] w (LPost P (y :: l) w) := by
  have HP := Lib.hid hp
  have HE := Lib.hid he
  have HIH := Lib.hid IH
  have HLEN := Lib.hid hlen
  have hPw := hp.lt
  obtain ⟨i0, hi, hz0, hz1, hz2⟩ := info_parts Tryz.infoTerm
  clear hp he IH hlen
  by_cases h40 : sym y [40]
  · have hy5 : y.k ≠ 5 := by rw [h40.1]; decide
    obtain ⟨z, l2, rfl, he2⟩ := HE.out.tail hy5
    have HE2 := Lib.hid he2
    have HS := Lib.hid (symbol_yes P y z l2 ⟨#[40]⟩ w HP.out h40.1 (sym_yes h40 l40))
    have H40 := Lib.hid h40
    clear h40 hy5 he2
    go_enter Tryz.func83, Tryz.ntmps83
    go_wp2_with fail
    refine HS.out.mono ?_
    rintro e w1 ⟨rfl, hp1, hg1⟩
    have HP1 := Lib.hid hp1
    have HG1 := Lib.hid hg1
    clear hp1 hg1
    by_cases h41 : sym z [41]
    · have hz5 : z.k ≠ 5 := by rw [h41.1]; decide
      obtain ⟨u, l3, rfl, he3⟩ := HE2.out.tail hz5
      have HE3 := Lib.hid he3
      have HS2 := Lib.hid (symbol_yes P z u l3 ⟨#[41]⟩ w1 HP1.out h41.1 (sym_yes h41 l41))
      have H41 := Lib.hid h41
      clear h41 hz5 he3
      go_wp2_with fail
      refine HS2.out.mono ?_
      rintro e w2 ⟨rfl, hp2, hg2⟩
      have HP2 := Lib.hid hp2
      have HG2 := Lib.hid hg2
      clear hp2 hg2
      go_wp2_with fail
      go_ret2
      exact ⟨_, HP2.out, HE3.out, by simp only [List.length_cons]; omega, only_trans HG1.out HG2.out, .inl ⟨[], none, 0, .empty H40.out H41.out, rfl, TX.leaf _ _ _ _ _⟩⟩
    · have HS2 := Lib.hid (symbol_no P z l2 ⟨#[41]⟩ w1 HP1.out (sym_no h41 l41))
      have H41 := Lib.hid h41
      clear h41
      go_wp2_with fail
      refine HS2.out.mono ?_
      rintro e w2 ⟨rfl, rfl⟩
      go_wp2_with fail
      go_loopg [6] (l2.length + 1) (fun k v wr => LInv P (z :: l2) w k v wr)
      case atStart => exact ⟨z :: l2, [], HP1.out, HE2.out, by simp, by simp, HG1.out, World.ownsRow_nil _ _ _ _, by simp, fun r l'' h => by simpa using h⟩
      case round =>
        clear HP HP1 HE HE2 HS HS2 HG1
        obtain ⟨lc, ks, hpb, hek, hlk, hln, hgr, hown, hkid, hcont⟩ := hrel
        have HPB := Lib.hid hpb
        have HEK := Lib.hid hek
        have HGR := Lib.hid hgr
        have HOWN := Lib.hid hown
        have HKID := Lib.hid hkid
        have HCONT := Lib.hid hcont
        have hLEN := HLEN.out
        have hws := hgr.size
        simp only [List.length_cons] at hlk hln hLEN
        have HT := Lib.hid (HIH.out lc wr (by simp only [List.length_cons]; omega) hpb hek)
        unfold TermOk at HT
        clear hpb hek hgr hown hkid hcont
        go_wp2_with fail
        refine HT.out.mono ?_
        rintro e w3 ⟨lc', hp3, he3, hl3, hg3, hcase⟩
        have HP3 := Lib.hid hp3
        have HE3 := Lib.hid he3
        have HG3 := Lib.hid hg3
        have hs3 := hg3.size
        clear hp3 he3 hg3 HT
        rcases hcase with ⟨t, A, c, hpt, rfl, htx⟩ | ⟨n, hpt, rfl⟩
        · have HPT := Lib.hid hpt
          have HTX := Lib.hid htx
          obtain ⟨y', lt, rfl⟩ := HE3.out.ne
          have hown3 := ((HOWN.out.kept HG3.out (by
            cases hv : u6.ownBlock with
            | none => exact .inl rfl
            | some g => exact .inr (fun e => by injection e with e; have := (HOWN.out.lt g hv).1; omega))).alloc (.cells #[.string t.nm, .string t.st, .slice A t.ks.length c] 28)).alloc (.cells #[.string t.nm, .string t.st, .slice A t.ks.length c] 28)
          have HO3 := Lib.hid hown3
          clear hpt htx hown3
          unfold TV
          go_wp2_with (at_builtin; refine wpList_append_own_at _ rfl (.tmp 21) (.tmp 23) 26 rfl w.heap.size 28 i0 _ 3 56 Tryz.underlying26 hi hz0 hz1 hz2 rfl (by decide) _ ks.length (kidsC ks) rfl HO3.out ⟨w3.heap.size + 1, 0, none⟩ 1 1 (kidC (t, A, c)) rfl rfl ?c1 ?c2 ?c3 ?c4 ?c5 ?_)
          case c1 => exact World.news_of_block (cs := #[.string t.nm, .string t.st, .slice A t.ks.length c]) (t := 28) (fr := (0, 0)) (by have := heap_alloc_new (w3.alloc (.cells #[.string t.nm, .string t.st, .slice A t.ks.length c] 28)) (.cells #[.string t.nm, .string t.st, .slice A t.ks.length c] 28); simpa using this)
          case c2 => simp [kidC, Value.oneCell']
          case c3 => unfold maxLen; omega
          case c4 => omega
          case c5 => simp; omega
          intro v' w4 ho4 hg4 _ hat
          have hs4 := hg4.size
          simp at hs4
          have hvP : ∀ k, u6.ownBlock = some k → w.heap.size ≤ k ∧ k < wr.heap.size := fun k e => HOWN.out.lt k e
          have HP4 := Lib.hid (((HP3.out.below ((Below.refl _ _).alloc (Nat.le_refl _) (.cells #[.string t.nm, .string t.st, .slice A t.ks.length c] 28))).below ((Below.refl _ _).alloc (Nat.le_refl _) (.cells #[.string t.nm, .string t.st, .slice A t.ks.length c] 28))).grown hg4 (fun k e => by have := (hvP k e).1; omega))
          have hblk : ∀ b, b < w3.heap.size → some b ≠ u6.ownBlock → w4.heap[b]? = w3.heap[b]? := fun b hb hne =>
            (hg4.block b (by simp; omega) hne).trans ((Below.heap_alloc _ _ _ (by simp; omega)).trans (Below.heap_alloc _ _ _ hb))
          have hk4 : ∀ x, x ∈ ks ++ [(t, A, c)] → TX (fun b => w.heap.size ≤ b ∧ b < w4.heap.size ∧ some b ≠ v'.ownBlock) w4 x.1 x.2.1 := by
            intro x hx
            have himp : ∀ b, w.heap.size ≤ b → b < w3.heap.size → some b ≠ u6.ownBlock → w.heap.size ≤ b ∧ b < w4.heap.size ∧ some b ≠ v'.ownBlock := fun b h1 h2 h3 => by
              refine ⟨h1, by omega, ?_⟩
              rcases hat with e | e
              · rw [e]; exact h3
              · rw [e]; intro e'; injection e' with e'; first | omega | (simp at e'; omega)
            rcases List.mem_append.1 hx with hx | hx
            · have h1 := HKID.out x hx
              have h2 := h1.keep (fun b hb => HG3.out.block b hb.2.1 (fun e => by injection e with e; omega))
              have h3 := h2.keep (w' := w4) (fun b hb => hblk b (by have := hb.2.1; omega) hb.2.2)
              exact h3.imp (fun b hb => himp b hb.1 (by have := hb.2.1; omega) hb.2.2)
            · rw [List.mem_singleton.1 hx]
              have hne : ∀ b, wr.heap.size ≤ b → some b ≠ u6.ownBlock := fun b hb e => by have := (hvP b e.symm).2; omega
              have h3 := HTX.out.keep (w' := w4) (fun b hb => hblk b hb.2 (hne b hb.1))
              exact h3.imp (fun b hb => himp b (by omega) hb.2 (hne b hb.1))
          have ho4' : w4.ownsRow w.heap.size 28 3 v' (ks ++ [(t, A, c)]).length (kidsC (ks ++ [(t, A, c)])) := by
            rw [← kidsC_snoc]; simpa using ho4
          have hgr4 : w.grownBy w4 (some P) := by
            have h0 := only_alloc (only_alloc (only_trans HGR.out HG3.out) (.cells #[.string t.nm, .string t.st, .slice A t.ks.length c] 28)) (.cells #[.string t.nm, .string t.st, .slice A t.ks.length c] 28)
            exact ⟨hg4.os.trans h0.os, hg4.tape.trans h0.tape, hg4.output.trans h0.output, Nat.le_trans h0.size hg4.size, fun b hb hne => (hg4.block b (by have := h0.size; omega) (fun e => by have := (hvP b e.symm).1; omega)).trans (h0.block b hb hne)⟩
          have HK4 := Lib.hid hk4
          have HO4 := Lib.hid ho4'
          have HGR4 := Lib.hid hgr4
          clear ho4 hg4 hat hblk hk4 ho4' hgr4 hvP
          by_cases hc41 : sym y' [41]
          · have hz5 : y'.k ≠ 5 := by rw [hc41.1]; decide
            obtain ⟨u, l3, rfl, he4⟩ := HE3.out.tail hz5
            have HE4 := Lib.hid he4
            have HS4 := Lib.hid (symbol_yes P y' u l3 ⟨#[41]⟩ w4 HP4.out hc41.1 (sym_yes hc41 l41))
            have H41b := Lib.hid hc41
            clear hc41 hz5 he4
            go_wp2_with fail
            refine HS4.out.mono ?_
            rintro e w5 ⟨rfl, hp5, hg5⟩
            have HP5 := Lib.hid hp5
            have HG5 := Lib.hid hg5
            obtain ⟨A5, c5, rfl, htx5⟩ := kids_done HO4.out HK4.out
            have HTX5 := Lib.hid htx5
            clear hp5 hg5 htx5
            go_wp2_with fail
            go_ret2
            refine ⟨_, HP5.out, HE4.out, ?_, only_trans HGR4.out HG5.out, .inl ⟨(ks ++ [(t, A, c)]).map (·.1), A5, c5, ?_, by rw [show ((ks ++ [(t, A, c)]).map (·.1)).length = ks.length + 1 by simp]; rfl, ?_⟩⟩
            · simp only [List.length_cons] at hl3 ⊢; omega
            · have := HCONT.out _ _ (.last HPT.out H41b.out)
              rw [List.map_append]
              exact .elems H40.out H41.out (by simpa using this)
            · have hs5 := HG5.out.size
              exact (HTX5.out.keep (fun b hb => HG5.out.block b hb.2 (fun e => by injection e with e; omega))).imp (fun b hb => ⟨hb.1, by omega⟩)
          · have HS4 := Lib.hid (symbol_no P y' lt ⟨#[41]⟩ w4 HP4.out (sym_no hc41 l41))
            have H41b := Lib.hid hc41
            clear hc41
            go_wp2_with fail
            refine HS4.out.mono ?_
            rintro e w5 ⟨rfl, rfl⟩
            by_cases hc44 : sym y' [44]
            · have hz5 : y'.k ≠ 5 := by rw [hc44.1]; decide
              obtain ⟨u, l3, rfl, he4⟩ := HE3.out.tail hz5
              have HE4 := Lib.hid he4
              have HS5 := Lib.hid (symbol_yes P y' u l3 ⟨#[44]⟩ w5 HP4.out hc44.1 (sym_yes hc44 l44))
              have H44 := Lib.hid hc44
              clear hc44 hz5 he4
              go_wp2_with fail
              refine HS5.out.mono ?_
              rintro e w6 ⟨rfl, hp6, hg6⟩
              have HP6 := Lib.hid hp6
              have HG6 := Lib.hid hg6
              clear hp6 hg6
              go_wp2_with fail
              go_roundg (l3.length + 1)
              case rel =>
                refine ⟨u :: l3, ks ++ [(t, A, c)], HP6.out, HE4.out, by simp, ?_, only_trans HGR4.out HG6.out, HO4.out.kept HG6.out (by
                  cases hv : v'.ownBlock with
                  | none => exact .inl rfl
                  | some g => exact .inr (fun e => by injection e with e; have := (HO4.out.lt g hv).1; omega)), ?_, ?_⟩
                · simp only [List.length_append, List.length_cons, List.length_nil] at hl3 ⊢; omega
                · intro x hx
                  have hs6 := HG6.out.size
                  exact ((HK4.out x hx).keep (fun b hb => HG6.out.block b hb.2.1 (fun e => by injection e with e; omega))).imp (fun b hb => ⟨hb.1, by omega, hb.2.2⟩)
                · intro r l'' h
                  have h2 := HCONT.out _ _ (.more HPT.out H41b.out H44.out h)
                  rw [Option.map_map] at h2
                  have e : ((fun x => ks.map (·.1) ++ x) ∘ (fun x => t :: x)) = (fun x => (ks ++ [(t, A, c)]).map (·.1) ++ x) := by
                    funext x; simp
                  rw [← e]; exact h2
              case measure => simp only [List.length_cons] at hl3; omega
            · have HS5 := Lib.hid (symbol_no P y' lt ⟨#[44]⟩ w5 HP4.out (sym_no hc44 l44))
              have H44 := Lib.hid hc44
              clear hc44
              go_wp2_with fail
              refine HS5.out.mono ?_
              rintro e w6 ⟨rfl, rfl⟩
              go_wp2_with fail
              go_ret2
              refine ⟨_, HP4.out, HE3.out, ?_, HGR4.out, .inr ⟨.elems H40.out H41.out ?_, rfl⟩⟩
              · simp only [List.length_cons] at hl3 ⊢; omega
              · exact HCONT.out none _ (.noComma HPT.out H41b.out H44.out)
        · have HPT := Lib.hid hpt
          clear hpt
          go_wp2_with fail
          go_ret2
          refine ⟨_, HP3.out.below ((Below.refl _ _).alloc (Nat.le_refl _) _), HE3.out, ?_, only_alloc (only_trans HGR.out HG3.out) _, .inr ⟨.elems H40.out H41.out ?_, rfl⟩⟩
          · simp only [List.length_cons]; omega
          · exact HCONT.out none _ (.bad HPT.out)
  · have HS := Lib.hid (symbol_no P y l ⟨#[40]⟩ w HP.out (sym_no h40 l40))
    have H40 := Lib.hid h40
    clear h40
    go_enter Tryz.func83, Tryz.ntmps83
    go_wp2_with fail
    refine HS.out.mono ?_
    rintro e w1 ⟨rfl, rfl⟩
    go_wp2_with fail
    go_ret2
    exact ⟨_, HP.out, HE.out, Nat.le_refl _, ⟨rfl, rfl, rfl, Nat.le_refl _, fun _ _ _ => rfl⟩, .inr ⟨.noParen H40.out, rfl⟩⟩

/-- The result's cells are kept while the parser reads. -/
theorem grown_cells {w1 w2 : World} {P : Nat} {o : Obj} {b : Nat} (h : w1.heap[b]? = some o) (hg : w1.grownBy w2 (some P)) (hP : P < b) : w2.heap[b]? = some o :=
  (hg.block b (Array.getElem?_eq_some_iff.1 h).1 (fun e => by injection e with e; omega)).trans h
theorem set3_grown {w w' : World} {P b : Nat} (h : w.grownBy w' (some P)) (hb : w.heap.size ≤ b) (v0 v1 v2 : Value) : w.grownBy (((w'.setCell ⟨b, 0, none⟩ v0).setCell ⟨b, 1, none⟩ v1).setCell ⟨b, 2, none⟩ v2) (some P) :=
  ⟨h.os, h.tape, h.output, by simpa using h.size, fun k hk hne => (set3_heap w' b 0 v0 v1 v2 k (by omega)).trans (h.block k hk hne)⟩
theorem PB.set3 {w : World} {P : Nat} {l : List Tk} (h : PB w P l) {b : Nat} (hb : P < b) (v0 v1 v2 : Value) : PB (((w.setCell ⟨b, 0, none⟩ v0).setCell ⟨b, 1, none⟩ v1).setCell ⟨b, 2, none⟩ v2) P l := by
  refine h.grown (row := some b) ⟨rfl, rfl, rfl, by simp, fun k _ hk => set3_heap w b 0 v0 v1 v2 k (fun e => hk (by rw [e]))⟩ (fun k e => by injection e with e; omega)

set_option maxHeartbeats 4000000 in
theorem term_any (P : Nat) : ∀ (m : Nat) (l : List Tk) (w : World), l.length ≤ m → l.length ≤ 100000 → PB w P l → EndsK l → TermOk P l w := by
  intro m
  induction m with
  | zero => intro l w h _ _ he; obtain ⟨t, r, rfl⟩ := he.ne; simp at h
  | succ m ih =>
    intro l w hm hlen hp he
    obtain ⟨x, l1, rfl⟩ := he.ne
    have hPw := hp.lt
    have HIH := Lib.hid ih
    have HE := Lib.hid he
    have HLEN := Lib.hid hlen
    have HM := Lib.hid hm
    have hp0 := hp.below ((Below.refl w.heap.size w).alloc (Nat.le_refl _) (.cells #[.string ⟨#[]⟩, .string ⟨#[]⟩, .slice none 0 0] 28))
    have HP0 := Lib.hid hp0
    have hr0 := heap_alloc_new w (.cells #[.string ⟨#[]⟩, .string ⟨#[]⟩, .slice none 0 0] 28)
    have HR0 := Lib.hid hr0
    have HG0 : Hid (w.grownBy (w.alloc (.cells #[.string ⟨#[]⟩, .string ⟨#[]⟩, .slice none 0 0] 28)) (some P)) := World.grownBy_alloc _ _ _
    clear ih he hlen hm hp hp0 hr0
    unfold TermOk
    by_cases hx : x.k = 1
    · obtain ⟨y, l2, rfl, he1⟩ := HE.out.tail (by rw [hx]; decide)
      have HE1 := Lib.hid he1
      have HX := Lib.hid hx
      have HN := Lib.hid (name_yes P x y l2 _ HP0.out hx)
      clear hx he1
      go_enter Tryz.func55, Tryz.ntmps55
      go_wp2_with fail
      refine HN.out.mono ?_
      rintro e w1 ⟨rfl, hp1, hg1⟩
      have HP1 := Lib.hid hp1
      have HR1 := Lib.hid (grown_cells HR0.out hg1 hPw)
      have HG1 := Lib.hid (only_trans HG0.out hg1)
      have hs1 := hg1.size
      simp at hs1
      clear hp1 hg1 HN
      by_cases h58 : sym y [58]
      · have hy5 : y.k ≠ 5 := by rw [h58.1]; decide
        obtain ⟨z, l3, rfl, he2⟩ := HE1.out.tail hy5
        have HE2 := Lib.hid he2
        have HS := Lib.hid (symbol_yes P y z l3 ⟨#[58]⟩ w1 HP1.out h58.1 (sym_yes h58 l58))
        have H58 := Lib.hid h58
        clear h58 hy5 he2
        go_wp2_with fail
        refine HS.out.mono ?_
        rintro e w2 ⟨rfl, hp2, hg2⟩
        have HP2 := Lib.hid hp2
        have HR2 := Lib.hid (grown_cells HR1.out hg2 hPw)
        have HG2 := Lib.hid (only_trans HG1.out hg2)
        have hs2 := hg2.size
        clear hp2 hg2 HS
        by_cases hz : z.k = 1
        · obtain ⟨u, l4, rfl, he3⟩ := HE2.out.tail (by rw [hz]; decide)
          have HE3 := Lib.hid he3
          have HZ := Lib.hid hz
          have HN2 := Lib.hid (name_yes P z u l4 w2 HP2.out hz)
          clear hz he3
          go_wp2_with fail
          refine HN2.out.mono ?_
          rintro e w3 ⟨rfl, hp3, hg3⟩
          have HP3 := Lib.hid hp3
          have HG3 := Lib.hid (only_trans HG2.out hg3)
          have hs3 := hg3.size
          obtain ⟨⟨r0, r1, r2⟩, _⟩ := blk3 (grown_cells HR2.out hg3 hPw)
          clear hp3 hg3 HN2
          go_wp2_with fail
          refine bodyPost_ret (v := .tuple #[TV (.mk (nmOf x) (nmOf z) []) none 0, .bool true]) (by simp [results, Tryz.results55, go_sem, r0, r1, r2, TV, nmOf]) rfl ?_
          exact ⟨_, HP3.out.set3 hPw _ _ _, HE3.out, by simp only [List.length_cons]; omega, set3_grown HG3.out (Nat.le_refl _) _ _ _, .inl ⟨_, none, 0, .var HX.out H58.out HZ.out, rfl, TX.leaf _ _ _ _ _⟩⟩
        · have HZ := Lib.hid hz
          have HN2 := Lib.hid (name_no P z l3 w2 HP2.out hz)
          obtain ⟨⟨r0, r1, r2⟩, _⟩ := blk3 HR2.out
          clear hz
          go_wp2_with fail
          refine HN2.out.mono ?_
          rintro e w3 ⟨rfl, rfl⟩
          clear HN2
          go_wp2_with fail
          refine bodyPost_ret (v := .tuple #[.agg #[.string (nmOf x), .string ⟨#[]⟩, .slice none 0 0], .bool false]) (by simp [results, Tryz.results55, go_sem, r0, r1, r2, nmOf]) rfl ?_
          exact ⟨_, HP2.out.set3 hPw _ _ _, HE2.out, by simp only [List.length_cons]; omega, set3_grown HG2.out (Nat.le_refl _) _ _ _, .inr ⟨nmOf x, .noSort HX.out H58.out HZ.out, rfl⟩⟩
      · have HS := Lib.hid (symbol_no P y l2 ⟨#[58]⟩ w1 HP1.out (sym_no h58 l58))
        have H58 := Lib.hid h58
        have hLEN := HLEN.out
        have hMM := HM.out
        simp only [List.length_cons] at hLEN hMM
        have HL := Lib.hid (list_any P y l2 w1 HP1.out HE1.out (by simp only [List.length_cons]; omega) (fun lc wr h1 h2 h3 => HIH.out lc wr (by simp only [List.length_cons] at h1; omega) (by simp only [List.length_cons] at h1; omega) h2 h3))
        clear h58
        go_wp2_with fail
        refine HS.out.mono ?_
        rintro e w2 ⟨rfl, rfl⟩
        go_wp2_with fail
        refine HL.out.mono ?_
        rintro e w3 ⟨l', hp3, he3, hl3, hg3, hcase⟩
        have HP3 := Lib.hid hp3
        have HE3 := Lib.hid he3
        have HG3 := Lib.hid (only_trans HG1.out hg3)
        have hs3 := hg3.size
        obtain ⟨⟨r0, r1, r2⟩, _⟩ := blk3 (grown_cells HR1.out hg3 hPw)
        clear hp3 he3 hg3 HL
        rcases hcase with ⟨ks, A, c, hll, rfl, htx⟩ | ⟨hll, rfl⟩
        · have HLL := Lib.hid hll
          have HTX := Lib.hid htx
          clear hll htx
          go_wp2_with fail
          refine bodyPost_ret (v := .tuple #[TV (.mk (nmOf x) ⟨#[]⟩ ks) A c, .bool true]) (by simp [results, Tryz.results55, go_sem, r0, r1, r2, TV, nmOf]) rfl ?_
          refine ⟨_, HP3.out.set3 hPw _ _ _, HE3.out, by simp only [List.length_cons] at hl3 ⊢; omega, set3_grown HG3.out (Nat.le_refl _) _ _ _, .inl ⟨_, A, c, .parts HX.out H58.out HLL.out, rfl, ?_⟩⟩
          exact ((HTX.out.named (nmOf x) ⟨#[]⟩).keep (fun b hb => set3_heap _ _ 0 _ _ _ b (by omega))).imp (fun b hb => ⟨by omega, by simpa using hb.2⟩)
        · have HLL := Lib.hid hll
          clear hll
          go_wp2_with fail
          refine bodyPost_ret (v := .tuple #[.agg #[.string (nmOf x), .string ⟨#[]⟩, .slice none 0 0], .bool false]) (by simp [results, Tryz.results55, go_sem, r0, r1, r2, nmOf]) rfl ?_
          exact ⟨_, HP3.out.set3 hPw _ _ _, HE3.out, by simp only [List.length_cons] at hl3 ⊢; omega, set3_grown HG3.out (Nat.le_refl _) _ _ _, .inr ⟨nmOf x, .parts HX.out H58.out HLL.out, rfl⟩⟩
    · have HX := Lib.hid hx
      have HN := Lib.hid (name_no P x l1 _ HP0.out hx)
      clear hx
      go_enter Tryz.func55, Tryz.ntmps55
      go_wp2_with fail
      refine HN.out.mono ?_
      rintro e w1 ⟨rfl, rfl⟩
      clear HN
      go_wp2_with fail
      refine bodyPost_ret (v := .tuple #[.agg #[.string ⟨#[]⟩, .string ⟨#[]⟩, .slice none 0 0], .bool false]) (by simp [results, Tryz.results55, go_sem]) rfl ?_
      exact ⟨_, HP0.out, HE.out, Nat.le_refl _, HG0.out, .inr ⟨⟨#[]⟩, .noName HX.out, rfl⟩⟩
end Go.Proofs.YthbcfcbonmphfaaGreatDoor
namespace Go.Proofs.YthbcfcbonmphfaaGreatDoor
open Go.RowKit Go.Shelf
set_option maxRecDepth 100000

theorem ends_k : ∀ {L : List Tk}, Ends L → EndsK L
  | [], h => absurd h (by simp [Ends])
  | [e], h => by
    unfold Ends at h
    by_cases hk : e.k = 5
    · exact hk
    · rw [if_neg hk] at h; exact absurd h (by simp [Ends])
  | x :: y :: l, h => by
    unfold EndsK
    refine ends_k ?_
    unfold Ends at h
    by_cases hk : x.k = 5
    · rw [if_pos hk] at h; cases h
    · rw [if_neg hk] at h; exact h

theorem suf_mem {l l' : List Tk} (h : l' <:+ l) {M : Nat} (hM : ∀ x, x ∈ l → x.t.length ≤ M) : ∀ x, x ∈ l' → x.t.length ≤ M := fun x hx => hM x (h.subset hx)
mutual
theorem PT_ok {M : Nat} : ∀ {l : List Tk} {r : Option Tm} {l' : List Tk}, PT l r l' → (∀ x, x ∈ l → x.t.length ≤ M) → l.length ≤ M → l' <:+ l ∧ ∀ t, r = some t → okT M t ∧ t.size + l'.length ≤ l.length
  | _, _, _, .noName _, _, _ => ⟨List.suffix_refl _, fun t h => by cases h⟩
  | _, _, _, .var (x := x) (y := y) (z := z) (l := l) _ _ _, hM, hl => ⟨⟨[x, y, z], rfl⟩, fun t h => by
      injection h with h
      subst h
      have h1 := hM x (by simp)
      have h2 := hM z (by simp)
      exact ⟨.mk _ _ _ (by show x.t.toArray.size ≤ _; rw [List.size_toArray]; exact h1) (by show z.t.toArray.size ≤ _; rw [List.size_toArray]; exact h2) (by simp) (fun k hk => by cases hk), by simp [Tm.size, sizes]; omega⟩⟩
  | _, _, _, .noSort (x := x) (y := y) _ _ _, _, _ => ⟨⟨[x, y], rfl⟩, fun t h => by cases h⟩
  | _, _, _, .parts (x := x) (y := y) (l := l) (l' := l') (r := r) _ _ hL, hM, hl => by
      obtain ⟨h1, h2⟩ := LL_ok (M := M) hL (fun z hz => hM z (by simp at hz ⊢; exact .inr hz)) (by simp at hl ⊢; omega)
      refine ⟨h1.trans (List.suffix_cons _ _), fun t h => ?_⟩
      cases r with
      | none => cases h
      | some ks =>
        injection h with h
        subst h
        obtain ⟨h3, h4⟩ := h2 ks rfl
        have h5 := hM x (by simp)
        have h6 := len_sizes ks
        simp only [List.length_cons] at h4 hl
        exact ⟨.mk _ _ _ (by show x.t.toArray.size ≤ _; rw [List.size_toArray]; exact h5) (Nat.zero_le _) (by omega) h3, by simp [Tm.size]; omega⟩
theorem LL_ok {M : Nat} : ∀ {l : List Tk} {r : Option (List Tm)} {l' : List Tk}, LL l r l' → (∀ x, x ∈ l → x.t.length ≤ M) → l.length ≤ M → l' <:+ l ∧ ∀ ks, r = some ks → (∀ k, k ∈ ks → okT M k) ∧ sizes ks + l'.length ≤ l.length
  | _, _, _, .noParen _, _, _ => ⟨List.suffix_refl _, fun t h => by cases h⟩
  | _, _, _, .empty (y := y) (z := z) _ _, _, _ => ⟨⟨[y, z], rfl⟩, fun t h => by injection h with h; subst h; exact ⟨(fun k hk => by cases hk), by simp [sizes]; omega⟩⟩
  | _, _, _, .elems (y := y) _ _ hP, hM, hl => by
      obtain ⟨h1, h2⟩ := PL_ok (M := M) hP (fun z hz => hM z (by simp at hz ⊢; exact .inr hz)) (by simp at hl ⊢; omega)
      refine ⟨h1.trans (List.suffix_cons _ _), fun ks h => ?_⟩
      obtain ⟨h3, h4⟩ := h2 ks h
      exact ⟨h3, by simp only [List.length_cons] at h4 ⊢; omega⟩
theorem PL_ok {M : Nat} : ∀ {l : List Tk} {r : Option (List Tm)} {l' : List Tk}, PL l r l' → (∀ x, x ∈ l → x.t.length ≤ M) → l.length ≤ M → l' <:+ l ∧ ∀ ks, r = some ks → (∀ k, k ∈ ks → okT M k) ∧ sizes ks + l'.length ≤ l.length
  | _, _, _, .bad hT, hM, hl => ⟨(PT_ok (M := M) hT hM hl).1, fun t h => by cases h⟩
  | _, _, _, .last (t := t) (y := y) hT _, hM, hl => by
      obtain ⟨h1, h2⟩ := PT_ok (M := M) hT hM hl
      obtain ⟨h3, h4⟩ := h2 t rfl
      refine ⟨(List.suffix_cons _ _).trans h1, fun ks h => ?_⟩
      injection h with h
      subst h
      exact ⟨fun k hk => by rw [List.mem_singleton.1 hk]; exact h3, by simp only [List.length_cons] at h4; simp [sizes]; omega⟩
  | _, _, _, .noComma hT _ _, hM, hl => ⟨(PT_ok (M := M) hT hM hl).1, fun t h => by cases h⟩
  | _, _, _, .more (t := t) (y := y) (l' := l2) (r := r) hT _ _ hP, hM, hl => by
      obtain ⟨h1, h2⟩ := PT_ok (M := M) hT hM hl
      obtain ⟨h3, h4⟩ := h2 t rfl
      have hs : l2 <:+ _ := (List.suffix_cons y l2).trans h1
      obtain ⟨h5, h6⟩ := PL_ok (M := M) hP (suf_mem hs hM) (Nat.le_trans hs.length_le hl)
      refine ⟨h5.trans hs, fun ks h => ?_⟩
      cases r with
      | none => cases h
      | some ks' =>
        injection h with h
        subst h
        obtain ⟨h7, h8⟩ := h6 ks' rfl
        refine ⟨fun k hk => ?_, by simp only [List.length_cons] at h4; simp [sizes]; omega⟩
        rcases List.mem_cons.1 hk with rfl | hk
        · exact h3
        · exact h7 k hk
end

def E0 (a b er : Int) : Ending := .returned (.tuple #[TV0, .agg #[.int .i64 a, .int .i64 b], .int .i64 er])
/-- What Parse hands back. -/
def ParsePost (s : ByteArray) (w : World) (e : Ending) (w' : World) : Prop :=
  Below w.heap.size w w' ∧
    ((65536 < s.size ∧ e = E0 0 0 4) ∨
     (s.size ≤ 65536 ∧ ∃ p, toks s.data.toList 1 1 = .error p ∧ e = E0 p.1 p.2 7) ∨
     (s.size ≤ 65536 ∧ ∃ L r x l', toks s.data.toList 1 1 = .ok L ∧ PT L r (x :: l') ∧ (r = none ∨ x.k ≠ 5) ∧ e = E0 x.a x.b (fE x)) ∨
     (s.size ≤ 65536 ∧ ∃ L t x l', toks s.data.toList 1 1 = .ok L ∧ PT L (some t) (x :: l') ∧ x.k = 5 ∧
       ((fitsL (t.pre 1) = false ∧ e = E0 0 0 4) ∨ (fitsL (t.pre 1) = true ∧ agreeL (t.pre 1) = false ∧ e = E0 0 0 11) ∨
        (fitsL (t.pre 1) = true ∧ agreeL (t.pre 1) = true ∧ ∃ A c, e = .returned (.tuple #[TV t A c, .agg #[.int .i64 0, .int .i64 0], .int .i64 0]) ∧ TX (fun b => w.heap.size ≤ b ∧ b < w'.heap.size) w' t A))))
/-- The cells of Parse's results. -/
structure RW (w w' : World) : Prop where
  below : Below w.heap.size w w'
  c0 : w'.heap[w.heap.size]? = some (.cells #[.string ⟨#[]⟩, .string ⟨#[]⟩, .slice none 0 0] 28 (0, 0))
  c1 : w'.heap[w.heap.size + 1]? = some (.cells #[.int .i64 0, .int .i64 0] 53 (0, 0))
theorem RW.start (w : World) : RW w ((w.alloc (.cells #[.string ⟨#[]⟩, .string ⟨#[]⟩, .slice none 0 0] 28)).alloc (.cells #[.int .i64 0, .int .i64 0] 53)) :=
  ⟨((Below.refl _ _).alloc (Nat.le_refl _) _).alloc (by simp) _, (Below.heap_alloc _ _ _ (by simp)).trans (heap_alloc_new w _), by
    have := heap_alloc_new (w.alloc (.cells #[.string ⟨#[]⟩, .string ⟨#[]⟩, .slice none 0 0] 28)) (.cells #[.int .i64 0, .int .i64 0] 53)
    simpa using this⟩
theorem RW.next {w w1 w2 : World} (h : RW w w1) (hb : Below w1.heap.size w1 w2) : RW w w2 :=
  ⟨h.below.trans (hb.mono h.below.size), cells_below h.c0 hb, cells_below h.c1 hb⟩

theorem grown_block {w1 w2 : World} {P : Nat} {o : Obj} {b : Nat} (h : w1.heap[b]? = some o) (hg : w1.grownBy w2 (some P)) (hP : b ≠ P) : w2.heap[b]? = some o :=
  (hg.block b (Array.getElem?_eq_some_iff.1 h).1 (fun e => hP (by injection e))).trans h
theorem RW.grown {w w1 w2 : World} {P : Nat} (h : RW w w1) (hg : w1.grownBy w2 (some P)) (hP : w.heap.size + 1 < P) : RW w w2 :=
  ⟨h.below.grown hg h.below.size (fun k e => by injection e with e; omega), grown_block h.c0 hg (by omega), grown_block h.c1 hg (by omega)⟩
theorem pb_of_own {w : World} {B : Nat} {v : Value} {L : List Tk} (ho : w.ownsRow B 130 5 v L.length (tksCells L)) (hne : 0 < L.length) : ∃ g c, v = .slice (some ⟨g, 0, none⟩) L.length c ∧ L.length ≤ c ∧ c ≤ maxLen ∧ g < w.heap.size ∧ TkAt w g 0 L := by
  obtain ⟨A, cap, hv, hsl, _⟩ := slT_own ho
  rcases ho.2 with ⟨_, h0⟩ | ⟨g, cap', cur, hv', _, _, hn, hcm, _⟩
  · omega
  · rw [hv'] at hv
    injection hv with e1 e2 e3
    obtain ⟨b, off, e, hlt, hc⟩ := hsl hne
    rw [← e1] at e
    injection e with e
    injection e with e4 e5
    subst e4 e5
    exact ⟨g, cap', hv', hn, hcm, hlt, hc⟩
/-- The parser's box. -/
theorem pb_new {w : World} {g c : Nat} {L : List Tk} (h1 : L.length ≤ c) (h2 : c ≤ maxLen) (h3 : g < w.heap.size) (h4 : TkAt w g 0 L) (o : Obj) :
    PB ((w.alloc o).alloc (.cells #[.slice (some ⟨g, 0, none⟩) L.length c] 106)) (w.heap.size + 1) L := by
  have hb := heap_alloc_new (w.alloc o) (.cells #[.slice (some ⟨g, 0, none⟩) L.length c] 106)
  simp only [World.size_alloc] at hb
  have hB : Below w.heap.size w ((w.alloc o).alloc (.cells #[.slice (some ⟨g, 0, none⟩) L.length c] 106)) := ((Below.refl _ _).alloc (Nat.le_refl _) _).alloc (by simp) _
  refine ⟨g, 0, c, hb, h1, h2, by omega, fun i t ht => ?_⟩
  obtain ⟨c0, c1, c2, c3, c4⟩ := h4 i t ht
  exact ⟨(hB.cell (p := ⟨g, _, none⟩) h3).trans c0, (hB.cell (p := ⟨g, _, none⟩) h3).trans c1, (hB.cell (p := ⟨g, _, none⟩) h3).trans c2, (hB.cell (p := ⟨g, _, none⟩) h3).trans c3, (hB.cell (p := ⟨g, _, none⟩) h3).trans c4⟩

set_option maxHeartbeats 4000000 in
theorem Parse_full (s : ByteArray) (w : World) (hbig : 65536 < s.size) (hp : Pairs w) : Calls Tryz.prog 24 #[.string s] w (ParsePost s w) := by
  have H0 := Lib.hid (RW.start w)
  have HP0 := Lib.hid ((hp.alloc (.cells #[.string ⟨#[]⟩, .string ⟨#[]⟩, .slice none 0 0] 28)).alloc (.cells #[.int .i64 0, .int .i64 0] 53))
  clear hp
  · have HT := Lib.hid (tokens_full s ((w.alloc (.cells #[.string ⟨#[]⟩, .string ⟨#[]⟩, .slice none 0 0] 28)).alloc (.cells #[.int .i64 0, .int .i64 0] 53)) hbig)
    have HBIG := Lib.hid hbig
    clear hbig
    go_enter Tryz.func24, Tryz.ntmps24
    go_wp2_with fail
    refine HT.out.mono ?_
    rintro e w1 ⟨rfl, hb1⟩
    have H1 := Lib.hid (H0.out.next hb1)
    have H2 := Lib.hid (H1.out.next ((Below.refl _ _).alloc (Nat.le_refl _) (.cells #[.int .i64 0, .int .i64 0] 53)))
    have hs1 := hb1.size
    simp at hs1
    have hlt0 : w.heap.size < w1.heap.size := by omega
    have hlt1 : w.heap.size + 1 < w1.heap.size := by omega
    clear hb1 HT
    go_wp2_with fail
    have r0 := heap_alloc_new w1 (.cells #[.int .i64 0, .int .i64 0] 53)
    have H6 := H2.out
    clear H2
    generalize (w1.alloc (.cells #[.int .i64 0, .int .i64 0] 53)) = W5 at r0 H6 ⊢
    obtain ⟨⟨p0, p1⟩, pf0, pf1⟩ := blk2 r0
    obtain ⟨⟨x0, x1, x2⟩, xf0, xf1, xf2⟩ := blk3 H6.c0
    obtain ⟨⟨y0, y1⟩, yf0, yf1⟩ := blk2 H6.c1
    have HB6 := Lib.hid H6.below
    clear r0 H6
    go_region
    all_goals
      go_wp2
      refine bodyPost_ret (v := .tuple #[TV0, .agg #[.int .i64 0, .int .i64 0], .int .i64 4]) (by simp [results, Tryz.results24, go_sem, x0, x1, x2, y0, y1, TV0, hlt0, hlt1, World.size_setCell]) rfl ?_
      refine ⟨?_, .inl ⟨HBIG.out, rfl⟩⟩
      (repeat' (first | exact HB6.out | refine Below.drew ?_ | refine Below.setCell ?_ (by simp) _ | refine Below.alloc ?_ (by simp <;> omega) _))
set_option maxHeartbeats 4000000 in
theorem Parse_err (s : ByteArray) (w : World) (hle : s.size ≤ 65536) (hp : Pairs w) (p : Int × Int) (htk : toks s.data.toList 1 1 = .error p) : Calls Tryz.prog 24 #[.string s] w (ParsePost s w) := by
  have H0 := Lib.hid (RW.start w)
  have HP0 := Lib.hid ((hp.alloc (.cells #[.string ⟨#[]⟩, .string ⟨#[]⟩, .slice none 0 0] 28)).alloc (.cells #[.int .i64 0, .int .i64 0] 53))
  clear hp
  · have HS : Hid (s.size ≤ 65536) := Lib.hid (by omega)
    have HT := Lib.hid (tokens_any s ((w.alloc (.cells #[.string ⟨#[]⟩, .string ⟨#[]⟩, .slice none 0 0] 28)).alloc (.cells #[.int .i64 0, .int .i64 0] 53)) (by omega) HP0.out)
    clear hle
    go_enter Tryz.func24, Tryz.ntmps24
    go_wp2_with fail
    refine HT.out.mono ?_
    rintro e w1 ⟨hb1, hT⟩
    have H1 := Lib.hid (H0.out.next hb1)
    have H2 := Lib.hid (H1.out.next ((Below.refl _ _).alloc (Nat.le_refl _) (.cells #[.int .i64 0, .int .i64 0] 53)))
    have hs1' := hb1.size
    simp at hs1'
    have hlt0 : w.heap.size < w1.heap.size := by omega
    have hlt1 : w.heap.size + 1 < w1.heap.size := by omega
    clear HT
    rw [htk] at hT
    simp only at hT
    subst hT
    have HTK := Lib.hid htk
    have H3 := Lib.hid (H1.out.next ((Below.refl _ _).alloc (Nat.le_refl _) (.cells #[.int .i64 p.1, .int .i64 p.2] 53)))
    clear htk hb1
    go_wp2_with fail
    have r0 := heap_alloc_new w1 (.cells #[.int .i64 p.1, .int .i64 p.2] 53)
    have H6 := H3.out
    clear H2 H3
    generalize (w1.alloc (.cells #[.int .i64 p.1, .int .i64 p.2] 53)) = W5 at r0 H6 ⊢
    obtain ⟨⟨p0, p1⟩, pf0, pf1⟩ := blk2 r0
    obtain ⟨⟨x0, x1, x2⟩, xf0, xf1, xf2⟩ := blk3 H6.c0
    obtain ⟨⟨y0, y1⟩, yf0, yf1⟩ := blk2 H6.c1
    have HB6 := Lib.hid H6.below
    clear r0 H6
    go_region
    all_goals
      go_wp2
      refine bodyPost_ret (v := .tuple #[TV0, .agg #[.int .i64 p.1, .int .i64 p.2], .int .i64 7]) (by simp [results, Tryz.results24, go_sem, x0, x1, x2, y0, y1, TV0, hlt0, hlt1, World.size_setCell]) rfl ?_
      refine ⟨?_, .inr (.inl ⟨HS.out, p, HTK.out, rfl⟩)⟩
      (repeat' (first | exact HB6.out | refine Below.drew ?_ | refine Below.setCell ?_ (by simp) _ | refine Below.alloc ?_ (by simp <;> omega) _))
end Go.Proofs.YthbcfcbonmphfaaGreatDoor
