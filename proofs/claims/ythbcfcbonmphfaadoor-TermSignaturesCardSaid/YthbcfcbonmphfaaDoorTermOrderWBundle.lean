/- TermOrder: the law's walk, where the reference's Formed says what it should. -/
import Derived.IntWalk
import Derived.Test.YthbcfcbonmphfaaDoorTermJBundle
import Derived.Test.YthbcfcbonmphfaaDoorTermKBundle
import Derived.Test.YthbcfcbonmphfaaDoorTermNBundle
import Derived.Test.YthbcfcbonmphfaaDoorTermYBundle
namespace Go.Proofs.YthbcfcbonmphfaaDoor
open Go.RowKit Go.Shelf
set_option maxRecDepth 100000

theorem tcmp_vals (a : Tm) : ∀ b, -1 ≤ tcmp a b ∧ tcmp a b ≤ 1 := by
  have hb : ∀ s t : ByteArray, -1 ≤ bcmp s t ∧ bcmp s t ≤ 1 := fun s t => by rcases bcmp_vals s t with h | h | h <;> rw [h] <;> omega
  have hn : ∀ s t : Nat, -1 ≤ ncmp s t ∧ ncmp s t ≤ 1 := fun s t => by
    unfold ncmp
    by_cases h1 : s < t
    · rw [if_pos h1]; omega
    · by_cases h2 : t < s
      · rw [if_neg h1, if_pos h2]; omega
      · rw [if_neg h1, if_neg h2]; omega
  have ho : ∀ x y : Int, -1 ≤ x ∧ x ≤ 1 → -1 ≤ y ∧ y ≤ 1 → -1 ≤ or2 x y ∧ or2 x y ≤ 1 := fun x y hx hy => by
    unfold or2
    by_cases h : x = 0
    · rw [if_neg (neg_ne h)]; exact hy
    · rw [if_pos h]; exact hx
  induction a using Tm.ind with
  | h nm st ks ih =>
    intro b
    have hl : ∀ (L M : List Tm), (∀ k, k ∈ L → ∀ b, -1 ≤ tcmp k b ∧ tcmp k b ≤ 1) → -1 ≤ tcmps L M ∧ tcmps L M ≤ 1 := by
      intro L
      induction L with
      | nil => intro M _; simp [tcmps]
      | cons x L ihL =>
        intro M h
        cases M with
        | nil => simp [tcmps]
        | cons y M => rw [tcmps_cons]; exact ho _ _ (h x (by simp) y) (ihL M (fun k hk => h k (by simp [hk])))
    cases hva : isV (.mk nm st ks) with
    | true =>
      cases hvb : isV b with
      | true => rw [tcmp_vv hva hvb]; exact ho _ _ (hb _ _) (hb _ _)
      | false => rw [tcmp_vn hva hvb]; omega
    | false =>
      cases hvb : isV b with
      | true => rw [tcmp_nv hva hvb]; omega
      | false => rw [tcmp_or2 hva hvb]; exact ho _ _ (ho _ _ (hb _ _) (hn _ _)) (hl _ _ ih)

/-- What the reference's Formed owes. -/
def FormedOk : Prop := ∀ (t : Tm) (A : Option Addr) (c n₀ : Nat) (w : World), TRep n₀ w t A → n₀ ≤ w.heap.size → okT 100 t →
  Calls Tryd.prog 36 #[TV t A c] w fun e w' => e = .returned (.bool (formed t)) ∧ Below w.heap.size w w'

/-- The boxes of the law. -/
structure OW (w w' : World) (a b c : Tm) (A B C : Option Addr) (ca cb cc : Nat) : Prop where
  below : Below w.heap.size w w'
  ba : w'.heap[w.heap.size]? = some (.cells (tcells a A ca) 56 (0, 0))
  bb : w'.heap[w.heap.size + 1]? = some (.cells (tcells b B cb) 56 (0, 0))
  bc : w'.heap[w.heap.size + 1 + 1]? = some (.cells (tcells c C cc) 56 (0, 0))
theorem OW.next {w w1 w2 : World} {a b c : Tm} {A B C : Option Addr} {ca cb cc : Nat} (h : OW w w1 a b c A B C ca cb cc) (hb : Below w1.heap.size w1 w2) : OW w w2 a b c A B C ca cb cc :=
  ⟨h.below.trans (hb.mono h.below.size), cells_below h.ba hb, cells_below h.bb hb, cells_below h.bc hb⟩
theorem OW.start (w : World) (a b c : Tm) (A B C : Option Addr) (ca cb cc : Nat) : OW w (((w.alloc (.cells (tcells a A ca) 56)).alloc (.cells (tcells b B cb) 56)).alloc (.cells (tcells c C cc) 56)) a b c A B C ca cb cc := by
  have h1 := heap_alloc_new w (.cells (tcells a A ca) 56)
  have h2 := heap_alloc_new (w.alloc (.cells (tcells a A ca) 56)) (.cells (tcells b B cb) 56)
  have h3 := heap_alloc_new ((w.alloc (.cells (tcells a A ca) 56)).alloc (.cells (tcells b B cb) 56)) (.cells (tcells c C cc) 56)
  simp only [World.size_alloc] at h2 h3
  exact ⟨(((Below.refl _ _).alloc (Nat.le_refl _) _).alloc (by simp) _).alloc (by simp; omega) _,
    (Below.heap_alloc _ _ _ (by simp; omega)).trans ((Below.heap_alloc _ _ _ (by simp)).trans h1),
    (Below.heap_alloc _ _ _ (by simp)).trans h2, h3⟩
theorem trep_three {n₀ : Nat} {w : World} {x : Nat} {a b c : Tm} {A B C : Option Addr} {ca cb cc : Nat} (nm st : ByteArray) (h : w.heap[x]? = some (.cells #[.string a.nm, .string a.st, .slice A a.ks.length ca, .string b.nm, .string b.st, .slice B b.ks.length cb, .string c.nm, .string c.st, .slice C c.ks.length cc] 56 (0, 0))) (hx : x < n₀)
    (ha : TRep n₀ w a A) (hb : TRep n₀ w b B) (hc : TRep n₀ w c C) : TRep n₀ w (.mk nm st [a, b, c]) (some ⟨x, 0, none⟩) := by
  have c0 := cell_of_row w x 0 _ _ (0, 0) h
  have c1 := cell_of_row w x 1 _ _ (0, 0) h
  have c2 := cell_of_row w x 2 _ _ (0, 0) h
  have c3 := cell_of_row w x 3 _ _ (0, 0) h
  have c4 := cell_of_row w x 4 _ _ (0, 0) h
  have c5 := cell_of_row w x 5 _ _ (0, 0) h
  have c6 := cell_of_row w x 6 _ _ (0, 0) h
  have c7 := cell_of_row w x 7 _ _ (0, 0) h
  have c8 := cell_of_row w x 8 _ _ (0, 0) h
  refine .mk nm st [a, b, c] _ x 0 (fun i => if i = 0 then A else if i = 1 then B else C) (fun i => if i = 0 then ca else if i = 1 then cb else cc) (fun _ => ⟨rfl, hx⟩) (fun i y hi => ?_) (fun i y hi => ?_) (fun i y hi => ?_) (fun i y hi => ?_) <;>
    (match i, hi with
      | 0, hi => injection hi with hi; subst hi; first | exact c0 | exact c1 | exact c2 | exact ha
      | 1, hi => injection hi with hi; subst hi; first | exact c3 | exact c4 | exact c5 | exact hb
      | 2, hi => injection hi with hi; subst hi; first | exact c6 | exact c7 | exact c8 | exact hc)
theorem cmpRes_ok {a b : Tm} (ha : formed a = true) (hb : formed b = true) : cmpRes a b = .tuple #[.int .i64 (tcmp a b), .int .i64 0] := by unfold cmpRes; rw [ha, hb]; rfl
theorem cmpRes_bad {a b : Tm} (h : (formed a && formed b) = false) : cmpRes a b = .tuple #[.int .i64 0, .int .i64 1] := by unfold cmpRes; rw [h]; rfl

set_option maxHeartbeats 8000000 in
theorem termOrder_any (HF : FormedOk) (a b c : Tm) (A B C : Option Addr) (ca cb cc : Nat) (w : World) (hp : Pairs w) (hra : TRep w.heap.size w a A) (hrb : TRep w.heap.size w b B) (hrc : TRep w.heap.size w c C) (hoa : okT maxLen a) (hob : okT maxLen b) (hoc : okT maxLen c) :
    Calls Tryd.prog 9 #[TV a A ca, TV b B cb, TV c C cc] w fun e w' => e = .returned (.bool true) ∧ Below w.heap.size w w' := by
  have HRA := Lib.hid hra
  have HRB := Lib.hid hrb
  have HRC := Lib.hid hrc
  have HOA := Lib.hid hoa
  have HOB := Lib.hid hob
  have HOC := Lib.hid hoc
  have HFH := Lib.hid HF
  have H0 := Lib.hid (OW.start w a b c A B C ca cb cc)
  have HP := Lib.hid (((hp.alloc (.cells (tcells a A ca) 56)).alloc (.cells (tcells b B cb) 56)).alloc (.cells (tcells c C cc) 56))
  clear hp hra hrb hrc hoa hob hoc HF
  unfold TV
  go_enter Tryd.func9, Tryd.ntmps9
  go_wp2_with fail
  refine (awake02_any _ HP.out).mono ?_
  rintro e w1 ⟨rfl, hb1⟩
  have H1 := Lib.hid (H0.out.next hb1)
  obtain ⟨⟨x0, x1, x2⟩, _⟩ := blk3 H1.out.ba
  obtain ⟨⟨y0, y1, y2⟩, _⟩ := blk3 H1.out.bb
  obtain ⟨⟨z0, z1, z2⟩, _⟩ := blk3 H1.out.bc
  clear hb1 H0 HP
  have H2 := Lib.hid (H1.out.next ((Below.refl _ _).alloc (Nat.le_refl _) (.cells #[.string a.nm, .string a.st, .slice A a.ks.length ca, .string b.nm, .string b.st, .slice B b.ks.length cb, .string c.nm, .string c.st, .slice C c.ks.length cc] 56)))
  have hrep := trep_three (n₀ := w1.heap.size + 1) ⟨#[]⟩ ⟨#[]⟩ (heap_alloc_new w1 (.cells #[.string a.nm, .string a.st, .slice A a.ks.length ca, .string b.nm, .string b.st, .slice B b.ks.length cb, .string c.nm, .string c.st, .slice C c.ks.length cc] 56)) (by omega)
    ((HRA.out.later H2.out.below).mono (by have := H1.out.below.size; omega)) ((HRB.out.later H2.out.below).mono (by have := H1.out.below.size; omega)) ((HRC.out.later H2.out.below).mono (by have := H1.out.below.size; omega))
  have hok3 : okT maxLen (.mk ⟨#[]⟩ ⟨#[]⟩ [a, b, c]) := .mk _ _ _ (Nat.zero_le _) (Nat.zero_le _) (by show 3 ≤ maxLen; unfold maxLen; omega) (fun k hk => by
    simp at hk
    rcases hk with h | h | h <;> rw [h]
    · exact HOA.out
    · exact HOB.out
    · exact HOC.out)
  have HBIG := Lib.hid (bigTerms_any ⟨#[]⟩ ⟨#[]⟩ [a, b, c] (some ⟨w1.heap.size, 0, none⟩) 3 _ (hrep.mono (by simp)) hok3 (by simp))
  clear hrep hok3
  go_wp2_with fail
  refine HBIG.out.mono ?_
  rintro e w2 ⟨rfl, hb2⟩
  have H3 := Lib.hid (H2.out.next hb2)
  clear hb2 x0 x1 x2 y0 y1 y2 z0 z1 z2 HBIG
  obtain ⟨⟨x0, x1, x2⟩, _⟩ := blk3 H3.out.ba
  obtain ⟨⟨y0, y1, y2⟩, _⟩ := blk3 H3.out.bb
  generalize hbg : bigL [a, b, c] = bg
  cases bg
  · have hsm := bigL_false hbg
    have HSA := Lib.hid (hsm a (by simp))
    have HSB := Lib.hid (hsm b (by simp))
    have HSC := Lib.hid (hsm c (by simp))
    have rA := fun (W : World) (h : OW w W a b c A B C ca cb cc) => (HRA.out.later h.below).mono h.below.size
    have rB := fun (W : World) (h : OW w W a b c A B C ca cb cc) => (HRB.out.later h.below).mono h.below.size
    have rC := fun (W : World) (h : OW w W a b c A B C ca cb cc) => (HRC.out.later h.below).mono h.below.size
    have RA := Lib.hid rA
    have RB := Lib.hid rB
    have RC := Lib.hid rC
    clear hsm hbg rA rB rC
    go_wp2_with fail
    refine (Compare_any a b A B ca cb _ (RA.out _ H3.out) (RB.out _ H3.out) HOA.out HOB.out (by have := HSA.out.2; omega) (by have := HSB.out.2; omega)).mono ?_
    rintro e w3 ⟨rfl, hb3⟩
    have H4 := Lib.hid (H3.out.next hb3)
    clear hb3 x0 x1 x2 y0 y1 y2
    obtain ⟨⟨x0, x1, x2⟩, _⟩ := blk3 H4.out.ba
    obtain ⟨⟨y0, y1, y2⟩, _⟩ := blk3 H4.out.bb
    have HFA := Lib.hid (HFH.out a A ca _ w3 (RA.out _ H4.out) (Nat.le_refl _) HSA.out.1)
    unfold TV at HFA
    by_cases hfa : formed a = true
    · by_cases hfb : formed b = true
      · have HVA := Lib.hid hfa
        have HVB := Lib.hid hfb
        rw [cmpRes_ok hfa hfb]
        rw [hfa] at HFA
        clear hfa hfb
        go_wp2_with fail
        refine HFA.out.mono ?_
        rintro e w4 ⟨rfl, hb4⟩
        have H5 := Lib.hid (H4.out.next hb4)
        clear hb4 x0 x1 x2 y0 y1 y2 HFA
        obtain ⟨⟨y0, y1, y2⟩, _⟩ := blk3 H5.out.bb
        have HFB := Lib.hid (HFH.out b B cb _ w4 (RB.out _ H5.out) (Nat.le_refl _) HSB.out.1)
        unfold TV at HFB
        rw [HVB.out] at HFB
        go_wp2_with fail
        refine HFB.out.mono ?_
        rintro e w5 ⟨rfl, hb5⟩
        have H6 := Lib.hid (H5.out.next hb5)
        clear hb5 y0 y1 y2 HFB
        obtain ⟨⟨x0, x1, x2⟩, _⟩ := blk3 H6.out.ba
        obtain ⟨⟨y0, y1, y2⟩, _⟩ := blk3 H6.out.bb
        have hvals := tcmp_vals a b
        have HSW := Lib.hid (tcmp_swap a b)
        have HRC2 := Lib.hid (rcmp_tcmp a b (formed_okV HVA.out) (formed_okV HVB.out))
        have HT3 := Lib.hid (tcmp_trans a b c)
        have hwn : IntKind.i64.wrap (-(tcmp a b)) = -(tcmp a b) := IntWalk.i64_in _ (by omega)
        go_wp2_with fail
        refine (Compare_any b a B A cb ca _ (RB.out _ H6.out) (RA.out _ H6.out) HOB.out HOA.out (by have := HSB.out.2; omega) (by have := HSA.out.2; omega)).mono ?_
        rintro e w6 ⟨rfl, hb6⟩
        rw [cmpRes_ok HVB.out HVA.out, HSW.out]
        have H7 := Lib.hid (H6.out.next hb6)
        clear hb6 x0 x1 x2 y0 y1 y2
        obtain ⟨⟨x0, x1, x2⟩, _⟩ := blk3 H7.out.ba
        obtain ⟨⟨y0, y1, y2⟩, _⟩ := blk3 H7.out.bb
        go_wp2_with fail
        refine (refCompare_any a b A B ca cb w6.heap.size _ (RA.out _ H7.out) (RB.out _ H7.out) (Nat.le_refl _) HOA.out HOB.out).mono ?_
        rintro e w7 ⟨rfl, hb7⟩
        rw [HRC2.out]
        have H8 := Lib.hid (H7.out.next hb7)
        clear hb7 x0 x1 x2 y0 y1 y2
        obtain ⟨⟨z0, z1, z2⟩, _⟩ := blk3 H8.out.bc
        have HFC := Lib.hid (HFH.out c C cc _ w7 (RC.out _ H8.out) (Nat.le_refl _) HSC.out.1)
        unfold TV at HFC
        go_wp2_with fail
        refine HFC.out.mono ?_
        rintro e w8 ⟨rfl, hb8⟩
        have H9 := Lib.hid (H8.out.next hb8)
        clear hb8 z0 z1 z2 HFC
        by_cases hfc : formed c = true
        · have HVC := Lib.hid hfc
          rw [hfc]
          clear hfc
          obtain ⟨⟨x0, x1, x2⟩, _⟩ := blk3 H9.out.ba
          obtain ⟨⟨y0, y1, y2⟩, _⟩ := blk3 H9.out.bb
          obtain ⟨⟨z0, z1, z2⟩, _⟩ := blk3 H9.out.bc
          go_wp2_with fail
          refine (Compare_any b c B C cb cc _ (RB.out _ H9.out) (RC.out _ H9.out) HOB.out HOC.out (by have := HSB.out.2; omega) (by have := HSC.out.2; omega)).mono ?_
          rintro e w9 ⟨rfl, hb9⟩
          rw [cmpRes_ok HVB.out HVC.out]
          have H10 := Lib.hid (H9.out.next hb9)
          clear hb9 x0 x1 x2 y0 y1 y2 z0 z1 z2
          obtain ⟨⟨x0, x1, x2⟩, _⟩ := blk3 H10.out.ba
          obtain ⟨⟨z0, z1, z2⟩, _⟩ := blk3 H10.out.bc
          go_wp2_with fail
          refine (Compare_any a c A C ca cc _ (RA.out _ H10.out) (RC.out _ H10.out) HOA.out HOC.out (by have := HSA.out.2; omega) (by have := HSC.out.2; omega)).mono ?_
          rintro e w10 ⟨rfl, hb10⟩
          rw [cmpRes_ok HVA.out HVC.out]
          have H11 := Lib.hid (H10.out.next hb10)
          clear hb10 x0 x1 x2 z0 z1 z2 hwn
          have hT3 := HT3.out
          clear HT3 HSW HRC2
          generalize tcmp a b = x at *
          generalize tcmp b c = y at *
          generalize tcmp a c = z at *
          by_cases h1 : 0 < x
          · have d1 : decide (0 < x) = true := decide_eq_true h1
            clear hT3
            go_wp2_with fail
            go_ret
            exact ⟨rfl, H11.out.below⟩
          · have d1 : decide (0 < x) = false := decide_eq_false h1
            by_cases h2 : 0 < y
            · have d2 : decide (0 < y) = true := decide_eq_true h2
              clear hT3
              go_wp2_with fail
              go_ret
              exact ⟨rfl, H11.out.below⟩
            · have d2 : decide (0 < y) = false := decide_eq_false h2
              obtain ⟨h3, h4⟩ := hT3.1 (by omega) (by omega)
              have d3 : decide (z ≤ 0) = true := decide_eq_true h3
              by_cases h5 : z < 0
              · have d4 : decide (z < 0) = true := decide_eq_true h5
                clear hT3 h4
                go_wp2_with fail
                go_ret
                exact ⟨rfl, H11.out.below⟩
              · have d4 : decide (z < 0) = false := decide_eq_false h5
                obtain ⟨h6, h7⟩ := h4 (by omega)
                have d5 : (x == 0) = true := by rw [h6]; rfl
                have d6 : (y == 0) = true := by rw [h7]; rfl
                clear hT3 h4 h6 h7
                go_wp2_with fail
                go_ret
                exact ⟨rfl, H11.out.below⟩
        · have hfc' : formed c = false := by simpa using hfc
          rw [hfc']
          clear hfc hfc'
          go_wp2_with fail
          go_ret
          exact ⟨rfl, H9.out.below⟩
      · have hfb' : formed b = false := by simpa using hfb
        have HVB := Lib.hid hfb'
        rw [cmpRes_bad (by rw [hfa, hfb']; rfl)]
        rw [hfa] at HFA
        clear hfa hfb hfb'
        go_wp2_with fail
        refine HFA.out.mono ?_
        rintro e w4 ⟨rfl, hb4⟩
        have H5 := Lib.hid (H4.out.next hb4)
        clear hb4 x0 x1 x2 y0 y1 y2 HFA
        obtain ⟨⟨y0, y1, y2⟩, _⟩ := blk3 H5.out.bb
        have HFB := Lib.hid (HFH.out b B cb _ w4 (RB.out _ H5.out) (Nat.le_refl _) HSB.out.1)
        unfold TV at HFB
        rw [HVB.out] at HFB
        go_wp2_with fail
        refine HFB.out.mono ?_
        rintro e w5 ⟨rfl, hb5⟩
        have H6 := Lib.hid (H5.out.next hb5)
        clear hb5 y0 y1 y2 HFB
        go_wp2_with fail
        go_ret
        exact ⟨rfl, H6.out.below⟩
    · have hfa' : formed a = false := by simpa using hfa
      rw [cmpRes_bad (by rw [hfa']; rfl)]
      rw [hfa'] at HFA
      clear hfa hfa'
      go_wp2_with fail
      refine HFA.out.mono ?_
      rintro e w4 ⟨rfl, hb4⟩
      have H5 := Lib.hid (H4.out.next hb4)
      clear hb4 x0 x1 x2 y0 y1 y2 HFA
      go_wp2_with fail
      go_ret
      exact ⟨rfl, H5.out.below⟩
  · go_wp2_with fail
    go_ret
    exact ⟨rfl, H3.out.below⟩
end Go.Proofs.YthbcfcbonmphfaaDoor
