/- The parser: declarations, signatures. -/
import Derived.Test.YthbcfcbonmphfaaDoorTermLsBundle
namespace Go.Proofs.YthbcfcbonmphfaaDoor
open Go.RowKit Go.Shelf
set_option maxRecDepth 100000

theorem tailL_none (nm : ByteArray) (l : List Tk) : tailL nm (none, l) = (none, l) := rfl
theorem tailL_yes {nm : ByteArray} {ns : List ByteArray} {y z : Tk} {l : List Tk} (h : sym y [45, 62]) (h2 : z.k = 1) : tailL nm (some ns, y :: z :: l) = (some ⟨nm, ns, nmOf z⟩, l) := by
  rw [tailL, if_pos h, if_pos h2]
theorem tailL_bad {nm : ByteArray} {ns : List ByteArray} {y z : Tk} {l : List Tk} (h : sym y [45, 62]) (h2 : z.k ≠ 1) : tailL nm (some ns, y :: z :: l) = (none, z :: l) := by
  rw [tailL, if_pos h, if_neg h2]
theorem tailL_no {nm : ByteArray} {ns : List ByteArray} {y : Tk} {l : List Tk} (h : ¬ sym y [45, 62]) : tailL nm (some ns, y :: l) = (none, y :: l) := by
  cases l with
  | nil => rfl
  | cons z l => rw [tailL, if_neg h]
theorem declL_yes {x : Tk} {l : List Tk} (h : x.k = 1) : declL (x :: l) = tailL (nmOf x) (argsL l) := by rw [declL, if_pos h]
theorem declL_no {x : Tk} {l : List Tk} (h : x.k ≠ 1) : declL (x :: l) = (none, x :: l) := by rw [declL, if_neg h]

/-- What decl hands back. -/
def DPost (P : Nat) (l : List Tk) (w : World) (e : Ending) (w' : World) : Prop :=
  ∃ l', PB w' P l' ∧ EndsK l' ∧ l'.length ≤ l.length ∧ w.grownBy w' (some P) ∧
    ((∃ d A c, declL l = (some d, l') ∧ e = .returned (.tuple #[.agg #[.string d.nm, .slice A d.args.length c, .string d.res], .bool true]) ∧ SlX (fun b => w.heap.size ≤ b ∧ b < w'.heap.size) w' A d.args) ∨
     (∃ s A n c r, declL l = (none, l') ∧ e = .returned (.tuple #[.agg #[.string s, .slice A n c, .string r], .bool false])))

set_option maxHeartbeats 4000000 in
theorem decl_any (P : Nat) (x : Tk) (l1 : List Tk) (w : World) (hp : PB w P (x :: l1)) (he : EndsK (x :: l1)) (hlen : (x :: l1).length ≤ 100000) :
    Calls Tryd.prog 134 #[.pointer (some ⟨P, 0, none⟩)] w (DPost P (x :: l1) w) := by
  have hPw := hp.lt
  have HE := Lib.hid he
  have hp0 := hp.below ((Below.refl w.heap.size w).alloc (Nat.le_refl _) (.cells #[.string ⟨#[]⟩, .slice none 0 0, .string ⟨#[]⟩] 140))
  have HP0 := Lib.hid hp0
  have hr0 := heap_alloc_new w (.cells #[.string ⟨#[]⟩, .slice none 0 0, .string ⟨#[]⟩] 140)
  have HR0 := Lib.hid hr0
  have HG0 : Hid (w.grownBy (w.alloc (.cells #[.string ⟨#[]⟩, .slice none 0 0, .string ⟨#[]⟩] 140)) (some P)) := World.grownBy_alloc _ _ _
  have HLEN := Lib.hid hlen
  clear he hp hp0 hr0 hlen
  by_cases hx : x.k = 1
  · obtain ⟨y, l2, rfl, he1⟩ := HE.out.tail (by rw [hx]; decide)
    have HE1 := Lib.hid he1
    have HD := Lib.hid (declL_yes (l := y :: l2) hx)
    have HN := Lib.hid (name_yes P x y l2 _ HP0.out hx)
    clear hx he1
    go_enter Tryd.func134, Tryd.ntmps134
    go_wp2_with fail
    refine HN.out.mono ?_
    rintro e w1 ⟨rfl, hp1, hg1⟩
    have HP1 := Lib.hid hp1
    have HR1 := Lib.hid (grown_cells HR0.out hg1 hPw)
    have HG1 := Lib.hid (only_trans HG0.out hg1)
    have hs1 := hg1.size
    simp at hs1
    clear hp1 hg1 HN
    have HL := Lib.hid (listS_any P y l2 w1 HP1.out HE1.out (by have := HLEN.out; simp only [List.length_cons] at this ⊢; omega))
    go_wp2_with fail
    refine HL.out.mono ?_
    rintro e w2 ⟨l', hp2, he2, hl2, hg2, hcase⟩
    have HP2 := Lib.hid hp2
    have HE2 := Lib.hid he2
    have HR2 := Lib.hid (grown_cells HR1.out hg2 hPw)
    have HG2 := Lib.hid (only_trans HG1.out hg2)
    have hs2 := hg2.size
    clear hp2 he2 hg2 HL
    rcases hcase with ⟨ns, A, c, hns, rfl, hsl⟩ | ⟨hns, rfl⟩
    · have HSL := Lib.hid hsl
      obtain ⟨y', lr, rfl⟩ := HE2.out.ne
      have HD2 : Hid (declL (x :: y :: l2) = tailL (nmOf x) (some ns, y' :: lr)) := Lib.hid (by rw [HD.out, hns])
      clear hns hsl
      by_cases ha : sym y' [45, 62]
      · obtain ⟨z, l3, rfl, he3⟩ := HE2.out.tail (by rw [ha.1]; decide)
        have HE3 := Lib.hid he3
        have HS := Lib.hid (symbol_yes P y' z l3 ⟨#[45, 62]⟩ w2 HP2.out ha.1 (sym_yes ha lArr))
        have HA := Lib.hid ha
        clear ha he3
        go_wp2_with fail
        refine HS.out.mono ?_
        rintro e w3 ⟨rfl, hp3, hg3⟩
        have HP3 := Lib.hid hp3
        have HR3 := Lib.hid (grown_cells HR2.out hg3 hPw)
        have HG3 := Lib.hid (only_trans HG2.out hg3)
        have HSL3 := Lib.hid (HSL.out.keep (fun b hb => hg3.block b hb.2 (fun e => by injection e with e; have := hb.1; omega)))
        have hs3 := hg3.size
        clear hp3 hg3 HS
        by_cases hz : z.k = 1
        · obtain ⟨u, l4, rfl, he4⟩ := HE3.out.tail (by rw [hz]; decide)
          have HE4 := Lib.hid he4
          have HN2 := Lib.hid (name_yes P z u l4 w3 HP3.out hz)
          have HD3 : Hid (declL (x :: y :: l2) = (some ⟨nmOf x, ns, nmOf z⟩, u :: l4)) := Lib.hid (by rw [HD2.out, tailL_yes HA.out hz])
          clear hz he4
          go_wp2_with fail
          refine HN2.out.mono ?_
          rintro e w4 ⟨rfl, hp4, hg4⟩
          have HP4 := Lib.hid hp4
          have HG4 := Lib.hid (only_trans HG3.out hg4)
          have HSL4 := Lib.hid (HSL3.out.keep (fun b hb => hg4.block b (by have := hb.2; omega) (fun e => by injection e with e; have := hb.1; omega)))
          have hs4 := hg4.size
          obtain ⟨⟨r0, r1, r2⟩, _⟩ := blk3 (grown_cells HR3.out hg4 hPw)
          clear hp4 hg4 HN2
          go_wp2_with fail
          refine bodyPost_ret (v := .tuple #[.agg #[.string (nmOf x), .slice A ns.length c, .string (nmOf z)], .bool true]) (by simp [results, Tryd.results134, go_sem, r0, r1, r2, nmOf]) rfl ?_
          refine ⟨_, HP4.out.set3 hPw _ _ _, HE4.out, by simp only [List.length_cons] at hl2 ⊢; omega, set3_grown HG4.out (Nat.le_refl _) _ _ _, .inl ⟨⟨nmOf x, ns, nmOf z⟩, A, c, HD3.out, rfl, ?_⟩⟩
          exact (HSL4.out.keep (fun b hb => set3_heap _ _ 0 _ _ _ b (by have := hb.1; omega))).imp (fun b hb => ⟨by have := hb.1; omega, by have := hb.2; simp; omega⟩)
        · have HN2 := Lib.hid (name_no P z l3 w3 HP3.out hz)
          have HD3 : Hid (declL (x :: y :: l2) = (none, z :: l3)) := Lib.hid (by rw [HD2.out, tailL_bad HA.out hz])
          obtain ⟨⟨r0, r1, r2⟩, _⟩ := blk3 HR3.out
          clear hz
          go_wp2_with fail
          refine HN2.out.mono ?_
          rintro e w4 ⟨rfl, rfl⟩
          clear HN2
          go_wp2_with fail
          refine bodyPost_ret (v := .tuple #[.agg #[.string (nmOf x), .slice A ns.length c, .string ⟨#[]⟩], .bool false]) (by simp [results, Tryd.results134, go_sem, r0, r1, r2, nmOf]) rfl ?_
          exact ⟨_, HP3.out.set3 hPw _ _ _, HE3.out, by simp only [List.length_cons] at hl2 ⊢; omega, set3_grown HG3.out (Nat.le_refl _) _ _ _, .inr ⟨_, _, _, _, _, HD3.out, rfl⟩⟩
      · have HS := Lib.hid (symbol_no P y' lr ⟨#[45, 62]⟩ w2 HP2.out (sym_no ha lArr))
        have HD3 : Hid (declL (x :: y :: l2) = (none, y' :: lr)) := Lib.hid (by rw [HD2.out, tailL_no ha])
        obtain ⟨⟨r0, r1, r2⟩, _⟩ := blk3 HR2.out
        clear ha
        go_wp2_with fail
        refine HS.out.mono ?_
        rintro e w3 ⟨rfl, rfl⟩
        clear HS
        go_wp2_with fail
        refine bodyPost_ret (v := .tuple #[.agg #[.string ⟨#[]⟩, .slice none 0 0, .string ⟨#[]⟩], .bool false]) (by simp [results, Tryd.results134, go_sem, r0, r1, r2]) rfl ?_
        exact ⟨_, HP2.out.set3 hPw _ _ _, HE2.out, by simp only [List.length_cons] at hl2 ⊢; omega, set3_grown HG2.out (Nat.le_refl _) _ _ _, .inr ⟨_, _, _, _, _, HD3.out, rfl⟩⟩
    · have HD3 : Hid (declL (x :: y :: l2) = (none, l')) := Lib.hid (by rw [HD.out, hns, tailL_none])
      obtain ⟨⟨r0, r1, r2⟩, _⟩ := blk3 HR2.out
      clear hns
      go_wp2_with fail
      refine bodyPost_ret (v := .tuple #[.agg #[.string ⟨#[]⟩, .slice none 0 0, .string ⟨#[]⟩], .bool false]) (by simp [results, Tryd.results134, go_sem, r0, r1, r2]) rfl ?_
      exact ⟨_, HP2.out.set3 hPw _ _ _, HE2.out, by simp only [List.length_cons] at hl2 ⊢; omega, set3_grown HG2.out (Nat.le_refl _) _ _ _, .inr ⟨_, _, _, _, _, HD3.out, rfl⟩⟩
  · have HD := Lib.hid (declL_no (l := l1) hx)
    have HN := Lib.hid (name_no P x l1 _ HP0.out hx)
    obtain ⟨⟨r0, r1, r2⟩, _⟩ := blk3 HR0.out
    clear hx
    go_enter Tryd.func134, Tryd.ntmps134
    go_wp2_with fail
    refine HN.out.mono ?_
    rintro e w1 ⟨rfl, rfl⟩
    clear HN
    go_wp2_with fail
    refine bodyPost_ret (v := .tuple #[.agg #[.string ⟨#[]⟩, .slice none 0 0, .string ⟨#[]⟩], .bool false]) (by simp [results, Tryd.results134, go_sem, r0, r1, r2]) rfl ?_
    exact ⟨_, HP0.out, HE.out, Nat.le_refl _, HG0.out, .inr ⟨_, _, _, _, _, HD.out, rfl⟩⟩

theorem Tryd.infoDecl : (Tryd.prog.info? 140).map (fun i => (i.zero, i.size, i.bytes)) = some (some (.agg #[.string ⟨#[]⟩, .slice none 0 0, .string ⟨#[]⟩]), 3, 56) := by kernel_rfl
theorem grown_setA {w w' : World} {P : Nat} (h : w.grownBy w' (some P)) {a : Addr} (hb : w.heap.size ≤ a.block) (v : Value) : w.grownBy (w'.setCell a v) (some P) :=
  ⟨h.os, h.tape, h.output, by simpa using h.size, fun k hk hne => (Below.heap_setCell _ _ _ _ (by omega)).trans (h.block k hk hne)⟩
theorem PB.set {w : World} {P : Nat} {l : List Tk} (h : PB w P l) {a : Addr} (hb : P < a.block) (v : Value) : PB (w.setCell a v) P l :=
  h.grown (row := some a.block) ⟨rfl, rfl, rfl, by simp, fun k _ hk => Below.heap_setCell _ _ _ _ (fun e => hk (by rw [e]))⟩ (fun k e => by injection e with e; omega)

/-- What signature hands back. -/
def SgPost (P : Nat) (l : List Tk) (w : World) (e : Ending) (w' : World) : Prop :=
  ∃ l', PB w' P l' ∧ EndsK l' ∧ l'.length ≤ l.length ∧ w.grownBy w' (some P) ∧
    ((∃ g A1 c1 A2 c2, sigL l = (some g, l') ∧ e = .returned (.tuple #[GV g A1 c1 A2 c2, .bool true]) ∧ (∀ w'' : World, (∀ b, w.heap.size ≤ b → b < w'.heap.size → w''.heap[b]? = w'.heap[b]?) → SlS w'.heap.size w'' A1 g.sorts ∧ SlD w'.heap.size w'' A2 g.ops) ∧ g.sorts.length ≤ c1 ∧ c1 ≤ maxLen) ∨
     (∃ A1 n1 c1 A2 n2 c2, sigL l = (none, l') ∧ e = .returned (.tuple #[.agg #[.slice A1 n1 c1, .slice A2 n2 c2], .bool false])))
/-- At the head of the first loop. -/
def SgInv1 (P : Nat) (L0 : List Tk) (w : World) (k : Nat) (wr : World) : Prop :=
  ∃ (lc : List Tk) (ss : List ByteArray) (A1 : Option Addr) (c1 : Nat), PB wr P lc ∧ EndsK lc ∧ lc.length ≤ k ∧ ss.length + lc.length ≤ L0.length ∧ w.grownBy wr (some P) ∧
    wr.heap[w.heap.size]? = some (.cells #[.slice none 0 0, .slice none 0 0] 82 (0, 0)) ∧
    wr.heap[w.heap.size + 1]? = some (.cells #[.slice A1 ss.length c1, .slice none 0 0] 82 (0, 0)) ∧
    wr.ownsRow (w.heap.size + 2) 9 1 (.slice A1 ss.length c1) ss.length (strsC ss) ∧ w.heap.size + 2 ≤ wr.heap.size ∧
    sortsL L0 = ((sortsL lc).1, ss ++ (sortsL lc).2.1, (sortsL lc).2.2)
/-- At the head of the second loop. -/
def SgInv2 (P : Nat) (L1 : List Tk) (w : World) (n2 : Nat) (ss : List ByteArray) (A1 : Option Addr) (c1 : Nat) (k : Nat) (wr : World) : Prop :=
  ∃ (lc : List Tk) (ks : List DK) (A2 : Option Addr) (c2 m : Nat), PB wr P lc ∧ EndsK lc ∧ lc.length ≤ k ∧ ks.length + lc.length ≤ L1.length ∧ w.grownBy wr (some P) ∧
    wr.heap[w.heap.size]? = some (.cells #[.slice none 0 0, .slice none 0 0] 82 (0, 0)) ∧
    wr.heap[w.heap.size + 1]? = some (.cells #[.slice A1 ss.length c1, .slice A2 ks.length c2] 82 (0, 0)) ∧
    SlX (fun b => w.heap.size + 2 ≤ b ∧ b < n2) wr A1 ss ∧
    wr.ownsRow n2 140 3 (.slice A2 ks.length c2) ks.length (dksC ks) ∧ n2 ≤ wr.heap.size ∧
    (∀ x, x ∈ ks → SlX (fun b => n2 ≤ b ∧ b < wr.heap.size ∧ some b ≠ (Value.slice A2 ks.length c2).ownBlock) wr x.2.1 x.1.args) ∧
    lc.length ≤ m ∧ opsL L1.length L1 = ((opsL m lc).1, ks.map (·.1) ++ (opsL m lc).2.1, (opsL m lc).2.2)

theorem sigL_bad1 {l : List Tk} (h : (sortsL l).1 = false) : sigL l = (none, (sortsL l).2.2) := by unfold sigL; rw [h]; rfl
theorem sigL_bad2 {l : List Tk} (h : (sortsL l).1 = true) (h2 : (opsL (sortsL l).2.2.length (sortsL l).2.2).1 = false) : sigL l = (none, (opsL (sortsL l).2.2.length (sortsL l).2.2).2.2) := by unfold sigL; rw [h, h2]; rfl
theorem sigL_yes {l l1 l2 : List Tk} {ss : List ByteArray} {ds : List Dc} (h : sortsL l = (true, ss, l1)) (h2 : opsL l1.length l1 = (true, ds, l2)) : sigL l = (some ⟨ss, ds⟩, l2) := by
  unfold sigL; rw [h]; simp only; rw [h2]; rfl

set_option maxHeartbeats 8000000 in
theorem signature_any (P : Nat) (L : List Tk) (w : World) (hp : PB w P L) (he : EndsK L) (hlen : L.length ≤ 100000) :
    Calls Tryd.prog 98 #[.pointer (some ⟨P, 0, none⟩)] w (SgPost P L w) := by
  have hPw := hp.lt
  obtain ⟨i0, hi, hz0, hz1, hz2⟩ := info_parts Tryd.infoString
  obtain ⟨j0, hj, hy0, hy1, hy2⟩ := info_parts Tryd.infoDecl
  have H0 : Hid (SgInv1 P L w L.length ((w.alloc (.cells #[.slice none 0 0, .slice none 0 0] 82)).alloc (.cells #[.slice none 0 0, .slice none 0 0] 82))) := Lib.hid (by
    have hb : Below w.heap.size w ((w.alloc (.cells #[.slice none 0 0, .slice none 0 0] 82)).alloc (.cells #[.slice none 0 0, .slice none 0 0] 82)) := ((Below.refl _ _).alloc (Nat.le_refl _) _).alloc (by simp) _
    have h1 := heap_alloc_new (w.alloc (.cells #[.slice none 0 0, .slice none 0 0] 82)) (.cells #[.slice none 0 0, .slice none 0 0] 82)
    refine ⟨L, [], none, 0, hp.below hb, he, Nat.le_refl _, by simp, only_alloc (World.grownBy_alloc _ _ _) _, (Below.heap_alloc _ _ _ (by simp)).trans (heap_alloc_new w _), by simpa using h1, World.ownsRow_nil _ _ _ _, by simp, by simp⟩)
  have HLEN := Lib.hid hlen
  clear hp he hlen
  go_enter Tryd.func98, Tryd.ntmps98
  go_wp2_with fail
  go_loopg [] L.length (fun k wr => SgInv1 P L w k wr)
  case atStart => exact H0.out
  case round =>
    clear H0
    obtain ⟨lc, ss, A1, c1, hpb, hek, hlk, hln, hgr, hb0, hb1, hown, hws, hcont⟩ := hrel
    have HPB := Lib.hid hpb
    have HEK := Lib.hid hek
    have HGR := Lib.hid hgr
    have HB0 := Lib.hid hb0
    have HB1 := Lib.hid hb1
    have HOWN := Lib.hid hown
    have HCONT := Lib.hid hcont
    have hLEN := HLEN.out
    obtain ⟨x, lr, rfl⟩ := hek.ne
    simp only [List.length_cons] at hlk hln
    clear hpb hek hgr hb0 hb1 hown hcont
    by_cases hx : kw x [115, 111, 114, 116]
    · obtain ⟨z, l2, rfl, he2⟩ := HEK.out.tail (by rw [hx.1]; decide)
      have HE2 := Lib.hid he2
      have HX := Lib.hid hx
      have HK := Lib.hid (keyword_yes P x z l2 ⟨#[115, 111, 114, 116]⟩ wr HPB.out hx.1 (kw_yes hx lSort))
      simp only [List.length_cons] at hlk hln
      clear hx he2
      go_wp2_with fail
      refine HK.out.mono ?_
      rintro e w3 ⟨rfl, hp3, hg3⟩
      have HP3 := Lib.hid hp3
      have HG3 := Lib.hid (only_trans HGR.out hg3)
      have hs3 := hg3.size
      have HR0 := Lib.hid (grown_cells HB0.out hg3 hPw)
      have HR1 := Lib.hid (grown_cells HB1.out hg3 (by omega))
      have HO3 := Lib.hid (HOWN.out.kept hg3 (by
        cases hv : (Value.slice A1 ss.length c1).ownBlock with
        | none => exact .inl rfl
        | some g => exact .inr (fun e => by injection e with e; have := (HOWN.out.lt g hv).1; omega)))
      clear hp3 hg3 HK HPB HB0 HB1 HOWN HGR HEK
      by_cases hz : z.k = 1
      · obtain ⟨u, l3, rfl, he3⟩ := HE2.out.tail (by rw [hz]; decide)
        have HE3 := Lib.hid he3
        have HN := Lib.hid (name_yes P z u l3 w3 HP3.out hz)
        have HC2 : Hid (sortsL L = ((sortsL (u :: l3)).1, (ss ++ [nmOf z]) ++ (sortsL (u :: l3)).2.1, (sortsL (u :: l3)).2.2)) := Lib.hid (by
          rw [HCONT.out, sortsL_yes HX.out hz]; simp)
        clear hz he3
        go_wp2_with fail
        refine HN.out.mono ?_
        rintro e w4 ⟨rfl, hp4, hg4⟩
        have HP4 := Lib.hid hp4
        have HG4 := Lib.hid (only_trans HG3.out hg4)
        have hs4 := hg4.size
        have HR0' := Lib.hid (grown_cells HR0.out hg4 hPw)
        have HR1' := Lib.hid (grown_cells HR1.out hg4 (by omega))
        have HO4 := Lib.hid ((HO3.out.kept hg4 (by
          cases hv : (Value.slice A1 ss.length c1).ownBlock with
          | none => exact .inl rfl
          | some g => exact .inr (fun e => by injection e with e; have := (HO3.out.lt g hv).1; omega))).alloc (.cells #[.string ⟨z.t.toArray⟩] 9))
        obtain ⟨⟨r0, r1⟩, rf0, rf1⟩ := blk2 HR1'.out
        clear hp4 hg4 HN HP3 HO3 HR0 HR1
        simp only [List.length_cons] at hlk hln
        go_wp2_with (at_builtin; refine wpList_append_own _ rfl (.tmp 20) (.tmp 22) 51 rfl (w.heap.size + 2) 9 i0 _ 1 16 Tryd.underlying51 hi hz0 hz1 hz2 rfl (by decide) _ ss.length _ rfl HO4.out ⟨w4.heap.size, 0, none⟩ 1 1 [.string ⟨z.t.toArray⟩] rfl rfl ?c1 ?c2 ?c3 ?c4 ?c5 ?_)
        case c1 =>
          intro j u hu
          have : j = 0 := by have := (List.getElem?_eq_some_iff.1 hu).1; simpa using this
          subst this
          simp at hu
          subst hu
          simp [Addr.add]
        case c2 => intro u hu; simp at hu; subst hu; rfl
        case c3 => unfold maxLen; omega
        case c4 => omega
        case c5 => simp; omega
        intro v' w5 ho5 hg5 _
        have hs5 := hg5.size
        simp at hs5
        have hvP : ∀ k, (Value.slice A1 ss.length c1).ownBlock = some k → w.heap.size + 2 ≤ k := fun k e => (HO4.out.lt k e).1
        have hb45 : ∀ b, b < w.heap.size + 2 → w5.heap[b]? = w4.heap[b]? := fun b hb => (hg5.block b (by simp; omega) (fun e => by have := hvP b e.symm; omega)).trans (Below.heap_alloc _ _ _ (by omega))
        have HP5 := Lib.hid ((HP4.out.below ((Below.refl _ _).alloc (Nat.le_refl _) (.cells #[.string ⟨z.t.toArray⟩] 9))).grown hg5 (fun k e => by have := hvP k e; omega))
        have hgr5 : w.grownBy w5 (some P) := by
          have h0 := only_alloc HG4.out (.cells #[.string ⟨z.t.toArray⟩] 9)
          exact ⟨hg5.os.trans h0.os, hg5.tape.trans h0.tape, hg5.output.trans h0.output, Nat.le_trans h0.size hg5.size, fun b hb hne => (hg5.block b (by have := h0.size; omega) (fun e => by have := hvP b e.symm; omega)).trans (h0.block b hb hne)⟩
        have HGR5 := Lib.hid hgr5
        have ho5' : w5.ownsRow (w.heap.size + 2) 9 1 v' (ss ++ [nmOf z]).length (strsC (ss ++ [nmOf z])) := by
          rw [← strsC_snoc]; simpa [nmOf] using ho5
        obtain ⟨A5, c5, rfl⟩ := own_slice ho5'
        have HO5 := Lib.hid ho5'
        have HR0'' := Lib.hid ((hb45 w.heap.size (by omega)).trans HR0'.out)
        have HR1'' := Lib.hid ((hb45 (w.heap.size + 1) (by omega)).trans HR1'.out)
        clear ho5 hg5 ho5' hgr5 hvP hb45 r0 r1 rf0 rf1
        obtain ⟨⟨r0, r1⟩, rf0, rf1⟩ := blk2 HR1''.out
        go_wp2_with fail
        go_roundg (u :: l3).length
        case rel =>
          refine ⟨u :: l3, ss ++ [nmOf z], A5, c5, HP5.out.set (show P < w.heap.size + 1 by omega) _, HE3.out, by simp, ?_, grown_setA HGR5.out (show w.heap.size ≤ w.heap.size + 1 by omega) _, (Below.heap_setCell _ _ _ _ (show w.heap.size ≠ w.heap.size + 1 by omega)).trans HR0''.out, ?_, ownsRow_setCell_below HO5.out (a := ⟨w.heap.size + 1, 0, none⟩) (show w.heap.size + 1 < w.heap.size + 2 by omega) _, by simp; omega, HC2.out⟩
          · simp only [List.length_append, List.length_cons, List.length_nil]; omega
          · have := HR1''.out
            simp [World.setCell, Array.getElem?_modify, this]
        case measure => simp only [List.length_cons]; omega
      · have HN := Lib.hid (name_no P z l2 w3 HP3.out hz)
        have HC2 : Hid (sigL L = (none, z :: l2)) := Lib.hid (by
          rw [sortsL_bad HX.out hz] at HCONT
          rw [sigL_bad1 (by rw [HCONT.out]), HCONT.out])
        obtain ⟨⟨r0, r1⟩, rf0, rf1⟩ := blk2 HR1.out
        obtain ⟨⟨q0, q1⟩, qf0, qf1⟩ := blk2 HR0.out
        clear hz
        go_wp2_with fail
        refine HN.out.mono ?_
        rintro e w4 ⟨rfl, rfl⟩
        clear HN
        go_wp2_with fail
        refine bodyPost_ret (v := .tuple #[.agg #[.slice A1 ss.length c1, .slice none 0 0], .bool false]) (by simp [results, Tryd.results98, go_sem, q0, q1]) rfl ?_
        exact ⟨_, (HP3.out.set (show P < w.heap.size by omega) _).set (show P < w.heap.size by omega) _, HE2.out, by simp only [List.length_cons]; omega, grown_setA (grown_setA HG3.out (Nat.le_refl _) _) (Nat.le_refl _) _, .inr ⟨_, _, _, _, _, _, HC2.out, rfl⟩⟩
    · have HK := Lib.hid (keyword_no P x lr ⟨#[115, 111, 114, 116]⟩ wr HPB.out (kw_no hx lSort))
      have HC1 : Hid (sortsL L = (true, ss, x :: lr)) := Lib.hid (by rw [HCONT.out, sortsL_no hx]; simp)
      clear hx HCONT
      go_wp2_with fail
      refine HK.out.mono ?_
      rintro e w3 ⟨rfl, rfl⟩
      clear HK
      go_wp2_with fail
      obtain ⟨A1', c1', e1, hcl, hcm, hsl⟩ := slX_own HOWN.out rfl
      injection e1 with e1 _ e2
      subst e1 e2
      have HCL := Lib.hid hcl
      have HCM := Lib.hid hcm
      have HSL := Lib.hid hsl
      clear hcl hcm hsl
      obtain ⟨n2, hn2⟩ : ∃ n2, n2 = w3.heap.size := ⟨_, rfl⟩
      have H2 : Hid (SgInv2 P (x :: lr) w n2 ss A1 c1 (x :: lr).length w3) := Lib.hid ⟨x :: lr, [], none, 0, (x :: lr).length, HPB.out, HEK.out, Nat.le_refl _, by simp, HGR.out, HB0.out, HB1.out, HSL.out.imp (fun b hb => ⟨hb.1, by have := hb.2.1; omega⟩), World.ownsRow_nil _ _ _ _, by omega, by simp, Nat.le_refl _, by simp⟩
      have hn2w : w.heap.size + 2 ≤ n2 := by omega
      clear hn2 HPB HEK HGR HB0 HB1 HOWN HSL hws
      go_loopg [] (x :: lr).length (fun k wr => SgInv2 P (x :: lr) w n2 ss A1 c1 k wr)
      case atStart => exact H2.out
      case round =>
        clear H2
        obtain ⟨lc, ks, A2, c2, m, hpb, hek, hlk2, hln2, hgr, hb0, hb1, hsl, hown, hws, hkid, hlm, hcont⟩ := hrel
        have HPB := Lib.hid hpb
        have HEK := Lib.hid hek
        have HGR := Lib.hid hgr
        have HB0 := Lib.hid hb0
        have HB1 := Lib.hid hb1
        have HSL := Lib.hid hsl
        have HOWN := Lib.hid hown
        have HKID := Lib.hid hkid
        have HCONT := Lib.hid hcont
        obtain ⟨y, lt, rfl⟩ := hek.ne
        simp only [List.length_cons] at hlk2 hln2 hlm
        clear hpb hek hgr hb0 hb1 hsl hown hkid hcont
        by_cases hx : kw y [111, 112]
        · obtain ⟨z, l2, rfl, he2⟩ := HEK.out.tail (by rw [hx.1]; decide)
          have HE2 := Lib.hid he2
          have HX := Lib.hid hx
          have HK := Lib.hid (keyword_yes P y z l2 ⟨#[111, 112]⟩ wr HPB.out hx.1 (kw_yes hx lOp))
          obtain ⟨m', rfl⟩ : ∃ m', m = m' + 1 := ⟨m - 1, by omega⟩
          simp only [List.length_cons] at hlk2 hln2 hlm
          clear hx he2
          go_wp2_with fail
          refine HK.out.mono ?_
          rintro e w3 ⟨rfl, hp3, hg3⟩
          have HP3 := Lib.hid hp3
          have HG3 := Lib.hid hg3
          have hs3 := hg3.size
          have HD := Lib.hid (decl_any P z l2 w3 hp3 HE2.out (by simp only [List.length_cons]; omega))
          clear hp3 hg3 HK
          go_wp2_with fail
          refine HD.out.mono ?_
          rintro e w4 ⟨l', hp4, he4, hl4, hg4, hcase⟩
          have HP4 := Lib.hid hp4
          have HE4 := Lib.hid he4
          have HG4' := Lib.hid hg4
          have HG4 := Lib.hid (only_trans (only_trans HGR.out HG3.out) hg4)
          have hs4 := hg4.size
          have HR0 := Lib.hid (grown_cells (grown_cells HB0.out HG3.out hPw) hg4 hPw)
          have HR1 := Lib.hid (grown_cells (grown_cells HB1.out HG3.out (by omega)) hg4 (by omega))
          simp only [List.length_cons] at hl4
          clear hp4 he4 hg4 HD HB0 HB1 HPB HEK HGR
          have hneP : ∀ b, n2 ≤ b → some b ≠ some P := fun b hb e => by injection e with e; omega
          rcases hcase with ⟨d, A, c, hd, rfl, hsx⟩ | ⟨sn, A, n, c, r, hd, rfl⟩
          · have HSX := Lib.hid hsx
            have HC2 : Hid (opsL (x :: lr).length (x :: lr) = ((opsL m' l').1, (ks ++ [(d, A, c)]).map (·.1) ++ (opsL m' l').2.1, (opsL m' l').2.2)) := Lib.hid (by
              rw [HCONT.out, opsL_yes m' HX.out hd]; simp)
            have hown4 : w4.ownsRow n2 140 3 (.slice A2 ks.length c2) ks.length (dksC ks) := (HOWN.out.kept HG3.out (by
                cases hv : (Value.slice A2 ks.length c2).ownBlock with
                | none => exact .inl rfl
                | some g => exact .inr (hneP g (HOWN.out.lt g hv).1))).kept HG4'.out (by
                cases hv : (Value.slice A2 ks.length c2).ownBlock with
                | none => exact .inl rfl
                | some g => exact .inr (hneP g (HOWN.out.lt g hv).1))
            have HO4 := Lib.hid ((hown4.alloc (.cells #[.string d.nm, .slice A d.args.length c, .string d.res] 140)).alloc (.cells #[.string d.nm, .slice A d.args.length c, .string d.res] 140))
            have hR1b := cells_below HR1.out ((Below.refl _ _).alloc (Nat.le_refl _) (.cells #[.string d.nm, .slice A d.args.length c, .string d.res] 140))
            obtain ⟨⟨r0, r1⟩, rf0, rf1⟩ := blk2 hR1b
            clear hd hsx hown4 hR1b
            go_wp2_with (at_builtin; refine wpList_append_own_at _ rfl (.tmp 36) (.tmp 38) 80 rfl n2 140 j0 _ 3 56 Tryd.underlying80 hj hy0 hy1 hy2 rfl (by decide) _ ks.length (dksC ks) rfl HO4.out ⟨w4.heap.size + 1, 0, none⟩ 1 1 (dkC (d, A, c)) rfl rfl ?c1 ?c2 ?c3 ?c4 ?c5 ?_)
            case c1 => exact World.news_of_block (cs := #[.string d.nm, .slice A d.args.length c, .string d.res]) (t := 140) (fr := (0, 0)) (by have := heap_alloc_new (w4.alloc (.cells #[.string d.nm, .slice A d.args.length c, .string d.res] 140)) (.cells #[.string d.nm, .slice A d.args.length c, .string d.res] 140); simpa using this)
            case c2 => simp [dkC, Value.oneCell']
            case c3 => unfold maxLen; omega
            case c4 => omega
            case c5 => simp; omega
            intro v' w5 ho5 hg5 _ hat
            have hs5 := hg5.size
            simp at hs5
            have hvP : ∀ k, (Value.slice A2 ks.length c2).ownBlock = some k → n2 ≤ k ∧ k < wr.heap.size := fun k e => HOWN.out.lt k e
            have hblk : ∀ b, b < w4.heap.size → some b ≠ (Value.slice A2 ks.length c2).ownBlock → w5.heap[b]? = w4.heap[b]? := fun b hb hne =>
              (hg5.block b (by simp; omega) hne).trans ((Below.heap_alloc _ _ _ (by simp; omega)).trans (Below.heap_alloc _ _ _ hb))
            have hlow : ∀ b, b < n2 → w5.heap[b]? = w4.heap[b]? := fun b hb => hblk b (by omega) (fun e => by have := (hvP b e.symm).1; omega)
            have HR0'' := Lib.hid ((hlow w.heap.size (by omega)).trans HR0.out)
            have HR1'' := Lib.hid ((hlow (w.heap.size + 1) (by omega)).trans HR1.out)
            have HSL5 := Lib.hid (((HSL.out.keep (fun b hb => HG3.out.block b (by have := hb.2; omega) (fun e => by injection e with e; have := hb.1; omega))).keep (fun b hb => HG4'.out.block b (by have := hb.2; omega) (fun e => by injection e with e; have := hb.1; omega))).keep (fun b hb => hlow b hb.2))
            have hk5 : ∀ x, x ∈ ks ++ [(d, A, c)] → SlX (fun b => n2 ≤ b ∧ b < w5.heap.size ∧ some b ≠ v'.ownBlock) w5 x.2.1 x.1.args := by
              intro x hx
              have himp : ∀ b, n2 ≤ b → b < w4.heap.size → some b ≠ (Value.slice A2 ks.length c2).ownBlock → n2 ≤ b ∧ b < w5.heap.size ∧ some b ≠ v'.ownBlock := fun b h1 h2 h3 => by
                refine ⟨h1, by omega, ?_⟩
                rcases hat with e | e
                · rw [e]; exact h3
                · rw [e]; intro e'; injection e' with e'; first | omega | (simp at e'; omega)
              rcases List.mem_append.1 hx with hx | hx
              · have h1 := HKID.out x hx
                have h2 := h1.keep (fun b hb => HG3.out.block b hb.2.1 (hneP b hb.1))
                have h3 := h2.keep (fun b hb => HG4'.out.block b (by have := hb.2.1; omega) (hneP b hb.1))
                have h4 := h3.keep (w' := w5) (fun b hb => hblk b (by have := hb.2.1; omega) hb.2.2)
                exact h4.imp (fun b hb => himp b hb.1 (by have := hb.2.1; omega) hb.2.2)
              · rw [List.mem_singleton.1 hx]
                have hne : ∀ b, w3.heap.size ≤ b → some b ≠ (Value.slice A2 ks.length c2).ownBlock := fun b hb e => by have := (hvP b e.symm).2; omega
                have h3 := HSX.out.keep (w' := w5) (fun b hb => hblk b hb.2 (hne b hb.1))
                exact h3.imp (fun b hb => himp b (by have := hb.1; omega) hb.2 (hne b hb.1))
            have hbAA : Below w4.heap.size w4 ((w4.alloc (.cells #[.string d.nm, .slice A d.args.length c, .string d.res] 140)).alloc (.cells #[.string d.nm, .slice A d.args.length c, .string d.res] 140)) := ((Below.refl _ _).alloc (Nat.le_refl _) _).alloc (by simp) _
            have HP5 := Lib.hid ((HP4.out.below hbAA).grown hg5 (fun k e => by have := (hvP k e).1; omega))
            have hgr5 : w.grownBy w5 (some P) := by
              have h0 := only_alloc (only_alloc HG4.out (.cells #[.string d.nm, .slice A d.args.length c, .string d.res] 140)) (.cells #[.string d.nm, .slice A d.args.length c, .string d.res] 140)
              exact ⟨hg5.os.trans h0.os, hg5.tape.trans h0.tape, hg5.output.trans h0.output, Nat.le_trans h0.size hg5.size, fun b hb hne => (hg5.block b (by have := h0.size; omega) (fun e => by have := (hvP b e.symm).1; omega)).trans (h0.block b hb hne)⟩
            have HGR5 := Lib.hid hgr5
            have ho5' : w5.ownsRow n2 140 3 v' (ks ++ [(d, A, c)]).length (dksC (ks ++ [(d, A, c)])) := by
              rw [← dksC_snoc, List.length_append]; exact ho5
            obtain ⟨A5, c5, rfl⟩ := own_slice ho5'
            have HO5 := Lib.hid ho5'
            have HK5 := Lib.hid hk5
            clear ho5 hg5 ho5' hgr5 hvP hlow hblk hk5 hat hbAA r0 r1 rf0 rf1
            obtain ⟨⟨r0, r1⟩, rf0, rf1⟩ := blk2 HR1''.out
            go_wp2_with fail
            go_roundg l'.length
            case rel =>
              have hne1 : w.heap.size ≠ w.heap.size + 1 := by omega
              refine ⟨l', ks ++ [(d, A, c)], A5, c5, m', HP5.out.set (show P < w.heap.size + 1 by omega) _, HE4.out, Nat.le_refl _, ?_, grown_setA HGR5.out (show w.heap.size ≤ w.heap.size + 1 by omega) _, (Below.heap_setCell _ _ _ _ (show w.heap.size ≠ w.heap.size + 1 by omega)).trans HR0''.out, ?_, HSL5.out.keep (fun b hb => Below.heap_setCell _ _ _ _ (show b ≠ w.heap.size + 1 by have := hb.1; omega)), ownsRow_setCell_below HO5.out (a := ⟨w.heap.size + 1, 1, none⟩) (show w.heap.size + 1 < n2 by omega) _, by simp; omega, ?_, by omega, HC2.out⟩
              · simp only [List.length_append, List.length_cons, List.length_nil] at hln2 ⊢; omega
              · have := HR1''.out
                simp [World.setCell, Array.getElem?_modify, this]
              · intro x hx
                exact ((HK5.out x hx).keep (fun b hb => Below.heap_setCell _ _ _ _ (show b ≠ w.heap.size + 1 by have := hb.1; omega))).imp (fun b hb => ⟨hb.1, by simpa using hb.2.1, hb.2.2⟩)
            case measure => omega
          · have HC2 : Hid (sigL L = (none, l')) := Lib.hid (by
              have h := HCONT.out
              rw [opsL_bad m' HX.out hd] at h
              rw [sigL_bad2 (by rw [HC1.out]) (by rw [HC1.out]; show (opsL (x :: lr).length (x :: lr)).1 = false; rw [h]), HC1.out]
              show (none, (opsL (x :: lr).length (x :: lr)).2.2) = _
              rw [h])
            have hb4 : Below w4.heap.size w4 (w4.alloc (.cells #[.string sn, .slice A n c, .string r] 140)) := (Below.refl _ _).alloc (Nat.le_refl _) _
            have HR0b := cells_below HR0.out hb4
            have HR1b := cells_below HR1.out hb4
            obtain ⟨⟨r0, r1⟩, rf0, rf1⟩ := blk2 HR1b
            obtain ⟨⟨q0, q1⟩, qf0, qf1⟩ := blk2 HR0b
            clear hd HR0b HR1b
            go_wp2_with fail
            refine bodyPost_ret (v := .tuple #[.agg #[.slice A1 ss.length c1, .slice A2 ks.length c2], .bool false]) (by simp [results, Tryd.results98, go_sem, q0, q1]) rfl ?_
            exact ⟨_, ((HP4.out.below hb4).set (show P < w.heap.size by omega) _).set (show P < w.heap.size by omega) _, HE4.out, by omega, grown_setA (grown_setA (only_alloc HG4.out _) (Nat.le_refl _) _) (Nat.le_refl _) _, .inr ⟨_, _, _, _, _, _, HC2.out, rfl⟩⟩
        · have HK := Lib.hid (keyword_no P y lt ⟨#[111, 112]⟩ wr HPB.out (kw_no hx lOp))
          have HC2 : Hid (sigL L = (some ⟨ss, ks.map (·.1)⟩, y :: lt)) := Lib.hid (sigL_yes HC1.out (by rw [HCONT.out, opsL_no m hx]; simp))
          obtain ⟨⟨r0, r1⟩, rf0, rf1⟩ := blk2 HB1.out
          obtain ⟨⟨q0, q1⟩, qf0, qf1⟩ := blk2 HB0.out
          clear hx
          go_wp2_with fail
          refine HK.out.mono ?_
          rintro e w3 ⟨rfl, rfl⟩
          clear HK
          go_wp2_with fail
          refine bodyPost_ret (v := .tuple #[GV ⟨ss, ks.map (·.1)⟩ A1 c1 A2 c2, .bool true]) (by simp [results, Tryd.results98, go_sem, q0, q1, GV]) rfl ?_
          refine ⟨_, (HPB.out.set (show P < w.heap.size by omega) _).set (show P < w.heap.size by omega) _, HEK.out, by simp only [List.length_cons] at hln2 ⊢; omega, grown_setA (grown_setA HGR.out (Nat.le_refl _) _) (Nat.le_refl _) _, .inl ⟨_, _, _, _, _, HC2.out, rfl, fun w'' hw => ?_, HCL.out, HCM.out⟩⟩
          have hw2 : ∀ b, w.heap.size + 2 ≤ b → b < w3.heap.size → w''.heap[b]? = w3.heap[b]? := fun b h1 h2 =>
            (hw b (by omega) (by simpa using h2)).trans ((Below.heap_setCell _ _ _ _ (show b ≠ w.heap.size by omega)).trans (Below.heap_setCell _ _ _ _ (show b ≠ w.heap.size by omega)))
          refine ⟨(HSL.out.keep (fun b hb => hw2 b hb.1 (by have := hb.2; omega))).rep (fun b hb => by have := hb.2; simp; omega), ?_⟩
          obtain ⟨A6, c6, e6, h6⟩ := dks_done (n₀ := w3.heap.size) HOWN.out rfl HKID.out (fun b h1 h2 => hw2 b (by omega) h2) (Nat.le_refl _)
          injection e6 with e6 _ _
          subst e6
          exact h6.mono (by simp)
end Go.Proofs.YthbcfcbonmphfaaDoor
