/- TermPaths: the law's walk. -/
import Derived.IntWalk
import Derived.Test.YthbcfcbonmphfaaDoorTermOrderW
import Derived.Test.YthbcfcbonmphfaaDoorTermRef
namespace Go.Proofs.YthbcfcbonmphfaaDoor
open Go.RowKit Go.Shelf
set_option maxRecDepth 100000

/-- The term that is returned with an error. -/
def tm0 : Tm := .mk ⟨#[]⟩ ⟨#[]⟩ []
theorem tv0 : TV0 = TV tm0 none 0 := rfl
theorem okB0 : okB tm0 := .mk _ _ _ (Nat.zero_le _) (Nat.zero_le _) (Nat.zero_le _) (fun k hk => by cases hk)
theorem big0 : bigL [tm0] = false := bigL_one okB0 (by decide) (by decide)
/-- What At answers: its number, its term. -/
def atCode (t : Tm) (L : List Int) : Int := if formed t = true then (if (subAt t L).isSome = true then 0 else 2) else 1
def atTerm (t : Tm) (L : List Int) : Tm := if formed t = true then (subAt t L).getD tm0 else tm0
theorem at_all {t : Tm} {L : List Int} {w w' : World} {e : Ending} (h : atPost t L w e w') : (∃ A' c', e = .returned (.tuple #[TV (atTerm t L) A' c', .int .i64 (atCode t L)]) ∧ TRep w'.heap.size w' (atTerm t L) A') ∧ Below w.heap.size w w' := by
  unfold atPost at h
  unfold atTerm atCode
  by_cases hf : formed t = true
  · rw [if_pos hf] at h
    rw [if_pos hf, if_pos hf]
    cases hs : subAt t L with
    | none =>
      rw [hs] at h
      exact ⟨⟨none, 0, h.1, TRep.leaf _ _ _ _ rfl⟩, h.2⟩
    | some s =>
      rw [hs] at h
      obtain ⟨⟨A, c, he, ho⟩, hb⟩ := h
      exact ⟨⟨A, c, he, ho.rep⟩, hb⟩
  · rw [if_neg hf] at h
    rw [if_neg hf, if_neg hf]
    exact ⟨⟨none, 0, h.1, TRep.leaf _ _ _ _ rfl⟩, h.2⟩
/-- What Replace answers: its term. -/
def replTerm (t : Tm) (L : List Int) (u : Tm) : Tm := if replCode t L u = 0 then putAt t L u else tm0
theorem repl_all {t u : Tm} {L : List Int} {w w' : World} {e : Ending} (h : replPost t L u w e w') : (∃ A' c', e = .returned (.tuple #[TV (replTerm t L u) A' c', .int .i64 (replCode t L u)]) ∧ TRep w'.heap.size w' (replTerm t L u) A') ∧ Below w.heap.size w w' := by
  unfold replTerm
  by_cases hc : replCode t L u = 0
  · rw [if_pos hc]
    obtain ⟨⟨A, c, he, hr⟩, hb⟩ := replPost_yes h hc
    exact ⟨⟨A, c, by rw [he, hc], hr⟩, hb⟩
  · rw [if_neg hc]
    obtain ⟨he, hb⟩ := replPost_no h hc
    exact ⟨⟨none, 0, he, TRep.leaf _ _ _ _ rfl⟩, hb⟩
theorem atTerm_big {t : Tm} {L : List Int} (ht : okB t) (hd : t.depth ≤ 80) (hs : t.size ≤ 1100) : okB (atTerm t L) ∧ bigL [atTerm t L] = false := by
  unfold atTerm
  by_cases hf : formed t = true
  · rw [if_pos hf]
    cases h : subAt t L with
    | none => exact ⟨okB0, big0⟩
    | some s => exact ⟨(subAt_okB L t s ht h).1, big_sub ht hd hs h⟩
  · rw [if_neg hf]; exact ⟨okB0, big0⟩
theorem replTerm_big {t u : Tm} {L : List Int} (ht : okB t) (hu : okB u) : okB (replTerm t L u) ∧ bigL [replTerm t L u] = false := by
  unfold replTerm
  by_cases hc : replCode t L u = 0
  · rw [if_pos hc]
    obtain ⟨_, _, _, hf⟩ := repl_zero hc
    exact ⟨putAt_okB L t u ht hu, big_put ht hu hf⟩
  · rw [if_neg hc]; exact ⟨okB0, big0⟩

theorem at_bad {t : Tm} {L : List Int} (hf : formed t = false) : atTerm t L = tm0 ∧ atCode t L = 1 := by unfold atTerm atCode; rw [hf]; exact ⟨rfl, rfl⟩
theorem at_none {t : Tm} {L : List Int} (hf : formed t = true) (hs : subAt t L = none) : atTerm t L = tm0 ∧ atCode t L = 2 := by unfold atTerm atCode; rw [hf, hs]; exact ⟨rfl, rfl⟩
theorem at_some {t s : Tm} {L : List Int} (hf : formed t = true) (hs : subAt t L = some s) : atTerm t L = s ∧ atCode t L = 0 := by unfold atTerm atCode; rw [hf, hs]; exact ⟨rfl, rfl⟩
/-- The law's zero, of the term that is returned with an error. -/
theorem zero_any (A : Option Addr) (c : Nat) (w : World) : Calls Tryd.prog 37 #[.agg #[.string ⟨#[]⟩, .string ⟨#[]⟩, .slice A 0 c]] w fun e w' => e = .returned (.bool true) ∧ Below w.heap.size w w' := by
  go_enter Tryd.func37, Tryd.ntmps37
  go_wp2_with fail
  go_ret
  exact ⟨rfl, (Below.refl _ _).alloc (Nat.le_refl _) _⟩
theorem blk0 {w : World} {b : Nat} {A : Option Addr} {c : Nat} (h : w.heap[b]? = some (.cells (tcells tm0 A c) 56 (0, 0))) :
    w.heap[b]? = some (.cells #[.string ⟨#[]⟩, .string ⟨#[]⟩, .slice A 0 c] 56 (0, 0)) := h

theorem trep_pair {n₀ : Nat} {w : World} {x : Nat} {a b : Tm} {A B : Option Addr} {ca cb : Nat} (nm st : ByteArray) (h : w.heap[x]? = some (.cells #[.string a.nm, .string a.st, .slice A a.ks.length ca, .string b.nm, .string b.st, .slice B b.ks.length cb] 56 (0, 0))) (hx : x < n₀)
    (ha : TRep n₀ w a A) (hb : TRep n₀ w b B) : TRep n₀ w (.mk nm st [a, b]) (some ⟨x, 0, none⟩) := by
  have c0 := cell_of_row w x 0 _ _ (0, 0) h
  have c1 := cell_of_row w x 1 _ _ (0, 0) h
  have c2 := cell_of_row w x 2 _ _ (0, 0) h
  have c3 := cell_of_row w x 3 _ _ (0, 0) h
  have c4 := cell_of_row w x 4 _ _ (0, 0) h
  have c5 := cell_of_row w x 5 _ _ (0, 0) h
  refine .mk nm st [a, b] _ x 0 (fun i => if i = 0 then A else B) (fun i => if i = 0 then ca else cb) (fun _ => ⟨rfl, hx⟩) (fun i y hi => ?_) (fun i y hi => ?_) (fun i y hi => ?_) (fun i y hi => ?_) <;>
    (match i, hi with
      | 0, hi => injection hi with hi; subst hi; first | exact c0 | exact c1 | exact c2 | exact ha
      | 1, hi => injection hi with hi; subst hi; first | exact c3 | exact c4 | exact c5 | exact hb)
/-- big of two terms, of one. -/
theorem bigTwo_any (a b : Tm) (A B : Option Addr) (ca cb : Nat) (w : World) (x : Nat) (h : w.heap[x]? = some (.cells #[.string a.nm, .string a.st, .slice A a.ks.length ca, .string b.nm, .string b.st, .slice B b.ks.length cb] 56 (0, 0)))
    (ha : TRep w.heap.size w a A) (hb : TRep w.heap.size w b B) (hoa : okT maxLen a) (hob : okT maxLen b) :
    Calls Tryd.prog 31 #[.slice (some ⟨x, 0, none⟩) 2 2] w fun e w' => e = .returned (.bool (bigL [a, b])) ∧ Below w.heap.size w w' :=
  bigTerms_any ⟨#[]⟩ ⟨#[]⟩ [a, b] (some ⟨x, 0, none⟩) 2 w (trep_pair _ _ h (Array.getElem?_eq_some_iff.1 h).1 ha hb)
    (.mk _ _ _ (Nat.zero_le _) (Nat.zero_le _) (by show 2 ≤ maxLen; unfold maxLen; omega) (fun k hk => by
      simp at hk
      rcases hk with h | h <;> rw [h]
      · exact hoa
      · exact hob)) (by simp)
theorem bigOne_any (a : Tm) (A : Option Addr) (ca : Nat) (w : World) (x : Nat) (h : w.heap[x]? = some (.cells #[.string a.nm, .string a.st, .slice A a.ks.length ca] 56 (0, 0))) (ha : TRep w.heap.size w a A) (hoa : okB a) :
    Calls Tryd.prog 31 #[.slice (some ⟨x, 0, none⟩) 1 1] w fun e w' => e = .returned (.bool (bigL [a])) ∧ Below w.heap.size w w' :=
  bigTerms_any ⟨#[]⟩ ⟨#[]⟩ [a] (some ⟨x, 0, none⟩) 1 w (trep_one _ _ h (Array.getElem?_eq_some_iff.1 h).1 ha)
    (.mk _ _ _ (Nat.zero_le _) (Nat.zero_le _) (by show 1 ≤ maxLen; unfold maxLen; omega) (fun k hk => by
      simp at hk
      rw [hk]; exact hoa.okT.mono (by unfold maxLen; omega))) (by simp)

/-- A term in a box. -/
def BX (w : World) (b : Nat) (t : Tm) (A : Option Addr) (c : Nat) : Prop := w.heap[b]? = some (.cells (tcells t A c) 56 (0, 0)) ∧ TRep w.heap.size w t A
theorem BX.next {w w' : World} {b : Nat} {t : Tm} {A : Option Addr} {c : Nat} (h : BX w b t A c) (hb : Below w.heap.size w w') : BX w' b t A c := ⟨cells_below h.1 hb, (h.2.later hb).mono hb.size⟩
theorem BX.new (w : World) (t : Tm) (A : Option Addr) (c : Nat) (h : TRep w.heap.size w t A) : BX (w.alloc (.cells (tcells t A c) 56)) w.heap.size t A c :=
  ⟨heap_alloc_new _ _, (h.later ((Below.refl _ _).alloc (Nat.le_refl _) _)).mono (by simp)⟩
/-- The boxes of the law. -/
structure QW (t u : Tm) (A Au : Option Addr) (c cu : Nat) (w w' : World) : Prop where
  below : Below w.heap.size w w'
  bt : BX w' w.heap.size t A c
  bu : BX w' (w.heap.size + 1) u Au cu
theorem QW.next {t u : Tm} {A Au : Option Addr} {c cu : Nat} {w w1 w2 : World} (h : QW t u A Au c cu w w1) (hb : Below w1.heap.size w1 w2) : QW t u A Au c cu w w2 :=
  ⟨h.below.trans (hb.mono h.below.size), h.bt.next hb, h.bu.next hb⟩
theorem QW.start (t u : Tm) (A Au : Option Addr) (c cu : Nat) (w : World) (h : TRep w.heap.size w t A) (h2 : TRep w.heap.size w u Au) : QW t u A Au c cu w ((w.alloc (.cells (tcells t A c) 56)).alloc (.cells (tcells u Au cu) 56)) := by
  have hb1 := (Below.refl w.heap.size w).alloc (Nat.le_refl _) (.cells (tcells t A c) 56)
  have hb2 : Below (w.alloc (.cells (tcells t A c) 56)).heap.size (w.alloc (.cells (tcells t A c) 56)) _ := (Below.refl _ _).alloc (Nat.le_refl _) (.cells (tcells u Au cu) 56)
  have h3 := BX.new (w.alloc (.cells (tcells t A c) 56)) u Au cu ((h2.later hb1).mono (by simp))
  simp only [World.size_alloc] at h3
  exact ⟨hb1.alloc (by simp) _, (BX.new w t A c h).next hb2, h3⟩

set_option maxHeartbeats 8000000 in
theorem termPaths_any (t u : Tm) (A Au : Option Addr) (c cu : Nat) (P : Option Addr) (cp : Nat) (L : List Int) (w : World) (hp : Pairs w) (hrt : TRep w.heap.size w t A) (hru : TRep w.heap.size w u Au) (hpl : SlI w.heap.size w P L) (hcp : L.length ≤ cp) (hcm : cp ≤ maxLen) (hot : okT maxLen t) (hou : okT maxLen u) :
    Calls Tryd.prog 8 #[TV t A c, .slice P L.length cp, TV u Au cu] w fun e w' => e = .returned (.bool true) ∧ Below w.heap.size w w' := by
  have H0 := Lib.hid (QW.start t u A Au c cu w hrt hru)
  have HP := Lib.hid ((hp.alloc (.cells (tcells t A c) 56)).alloc (.cells (tcells u Au cu) 56))
  have HPL := Lib.hid hpl
  have HCP := Lib.hid hcp
  have HCM := Lib.hid hcm
  have HOT := Lib.hid hot
  have HOU := Lib.hid hou
  have hll : (L.length : Int) ≤ 9223372036854775807 := by unfold maxLen at hcm; omega
  clear hp hrt hru hpl hcp hcm hot hou
  unfold TV
  go_enter Tryd.func8, Tryd.ntmps8
  go_wp2_with fail
  refine (awake02_any _ HP.out).mono ?_
  rintro e w1 ⟨rfl, hb1⟩
  have H1 := Lib.hid (H0.out.next hb1)
  obtain ⟨⟨x0, x1, x2⟩, _⟩ := blk3 H1.out.bt.1
  obtain ⟨⟨y0, y1, y2⟩, _⟩ := blk3 H1.out.bu.1
  clear hb1 H0 HP
  have H2 := Lib.hid (H1.out.next ((Below.refl _ _).alloc (Nat.le_refl _) (.cells #[.string t.nm, .string t.st, .slice A t.ks.length c, .string u.nm, .string u.st, .slice Au u.ks.length cu] 56)))
  have HBIG := Lib.hid (bigTwo_any t u A Au c cu _ w1.heap.size (heap_alloc_new w1 (.cells #[.string t.nm, .string t.st, .slice A t.ks.length c, .string u.nm, .string u.st, .slice Au u.ks.length cu] 56)) H2.out.bt.2 H2.out.bu.2 HOT.out HOU.out)
  go_wp2_with fail
  refine HBIG.out.mono ?_
  rintro e w2 ⟨rfl, hb2⟩
  have H3 := Lib.hid (H2.out.next hb2)
  clear hb2 x0 x1 x2 y0 y1 y2 HBIG H1 H2
  obtain ⟨⟨x0, x1, x2⟩, _⟩ := blk3 H3.out.bt.1
  generalize hbg : bigL [t, u] = bg
  cases bg
  · obtain ⟨hsm, hsz⟩ := bigL_small hbg
    have HST := Lib.hid (hsm t (by simp))
    have HSU := Lib.hid (hsm u (by simp))
    have hszt : t.size ≤ 1100 := by simp [sizes] at hsz; omega
    have HOT6 := Lib.hid ((HST.out.1.okT).mono (m' := 1000000) (by omega))
    have HOU6 := Lib.hid ((HSU.out.1.okT).mono (m' := 1000000) (by omega))
    clear hsm hsz hbg
    by_cases hl : 80 < L.length
    · have hlI : decide ((80 : Int) < (L.length : Int)) = true := decide_eq_true (by omega)
      clear hl
      go_wp2_with fail
      go_ret
      exact ⟨rfl, H3.out.below⟩
    · have hlI : decide ((80 : Int) < (L.length : Int)) = false := decide_eq_false (by omega)
      have HPW := Lib.hid (fun (W : World) (h : Below w.heap.size w W) => (HPL.out.later h).mono h.size)
      have HLM := Lib.hid (show L.length ≤ maxLen from Nat.le_trans HCP.out HCM.out)
      go_wp2_with fail
      refine (At_any t A c P cp L w2 H3.out.bt.2 (HPW.out _ H3.out.below) HLM.out HOT6.out (by have := HST.out.2; omega)).mono ?_
      rintro e w3 hat
      obtain ⟨⟨AX, cX, rfl, hrx⟩, hb3⟩ := at_all hat
      have H4 := Lib.hid ((H3.out.next hb3).next ((Below.refl _ _).alloc (Nat.le_refl _) (.cells (tcells (atTerm t L) AX cX) 56)))
      have HX4 := Lib.hid (BX.new w3 _ AX cX hrx)
      clear hat hrx hb3 x0 x1 x2 hlI H3
      unfold TV
      go_upto_region 6 with fail
      generalize w3.alloc (.cells (tcells (atTerm t L) AX cX) 56) = W4 at H4 HX4 ⊢
      obtain ⟨⟨x0, x1, x2⟩, _⟩ := blk3 H4.out.bt.1
      obtain ⟨⟨y0, y1, y2⟩, _⟩ := blk3 H4.out.bu.1
      have HC := Lib.hid (Replace_any t u A Au c cu P cp L W4 H4.out.bt.2 H4.out.bu.2 (HPW.out _ H4.out.below) HLM.out HOT6.out HOU6.out (by have := HST.out.2; omega) (by have := HSU.out.2; omega))
      unfold TV at HC
      go_wp2_with fail
      refine HC.out.mono ?_
      rintro e w5 hre
      obtain ⟨⟨AY, cY, rfl, hry⟩, hb5⟩ := repl_all hre
      have hbA : Below w5.heap.size w5 (w5.alloc (.cells (tcells (replTerm t L u) AY cY) 56)) := (Below.refl _ _).alloc (Nat.le_refl _) _
      have H6 := Lib.hid ((H4.out.next hb5).next hbA)
      have HX6 := Lib.hid ((HX4.out.next hb5).next hbA)
      have HY6 := Lib.hid (BX.new w5 _ AY cY hry)
      clear hre hry hb5 hbA x0 x1 x2 y0 y1 y2 HC H4 HX4
      unfold TV
      go_upto_region 7 with fail
      generalize w5.alloc (.cells (tcells (replTerm t L u) AY cY) 56) = W6 at H6 HX6 HY6 ⊢
      obtain ⟨⟨x0, x1, x2⟩, _⟩ := blk3 H6.out.bt.1
      obtain ⟨⟨y0, y1, y2⟩, _⟩ := blk3 H6.out.bu.1
      have HC := Lib.hid (refReplace_any t u A Au c cu P cp L W6 H6.out.bt.2 H6.out.bu.2 (HPW.out _ H6.out.below) HCP.out HCM.out HOT6.out HOU6.out)
      unfold TV at HC
      go_wp2_with fail
      refine HC.out.mono ?_
      rintro e w7 hre
      obtain ⟨⟨AZ, cZ, rfl, hrz⟩, hb7⟩ := repl_all hre
      have hbA : Below w7.heap.size w7 (w7.alloc (.cells (tcells (replTerm t L u) AZ cZ) 56)) := (Below.refl _ _).alloc (Nat.le_refl _) _
      have H8 := Lib.hid ((H6.out.next hb7).next hbA)
      have HX8 := Lib.hid ((HX6.out.next hb7).next hbA)
      have HY8 := Lib.hid ((HY6.out.next hb7).next hbA)
      have HZ8 := Lib.hid (BX.new w7 _ AZ cZ hrz)
      clear hre hrz hb7 hbA x0 x1 x2 y0 y1 y2 HC H6 HX6 HY6
      unfold TV
      go_upto_region 8 with fail
      generalize w7.alloc (.cells (tcells (replTerm t L u) AZ cZ) 56) = W8 at H8 HX8 HY8 HZ8 ⊢
      have HXB := Lib.hid (atTerm_big (L := L) HST.out.1 HST.out.2 hszt)
      have HYB := Lib.hid (replTerm_big (L := L) HST.out.1 HSU.out.1)
      obtain ⟨⟨x0, x1, x2⟩, _⟩ := blk3 HX8.out.1
      have hbN : Below W8.heap.size W8 (W8.alloc (.cells #[.string (atTerm t L).nm, .string (atTerm t L).st, .slice AX (atTerm t L).ks.length cX] 56)) := (Below.refl _ _).alloc (Nat.le_refl _) _
      have HBIG := Lib.hid (bigOne_any (atTerm t L) AX cX _ W8.heap.size (heap_alloc_new W8 (.cells #[.string (atTerm t L).nm, .string (atTerm t L).st, .slice AX (atTerm t L).ks.length cX] 56)) (HX8.out.next hbN).2 HXB.out.1)
      rw [HXB.out.2] at HBIG
      have H9 := Lib.hid (H8.out.next hbN)
      have HX9 := Lib.hid (HX8.out.next hbN)
      have HY9 := Lib.hid (HY8.out.next hbN)
      have HZ9 := Lib.hid (HZ8.out.next hbN)
      obtain ⟨⟨y0, y1, y2⟩, _⟩ := blk3 HY9.out.1
      clear hbN H8 HX8 HY8 HZ8
      go_wp2_with fail
      refine HBIG.out.mono ?_
      rintro e w9 ⟨rfl, hb9⟩
      have H10 := Lib.hid (H9.out.next hb9)
      have HX10 := Lib.hid (HX9.out.next hb9)
      have HY10 := Lib.hid (HY9.out.next hb9)
      have HZ10 := Lib.hid (HZ9.out.next hb9)
      clear hb9 x0 x1 x2 y0 y1 y2 HBIG H9 HX9 HY9 HZ9
      obtain ⟨⟨y0, y1, y2⟩, _⟩ := blk3 HY10.out.1
      have hbN : Below w9.heap.size w9 (w9.alloc (.cells #[.string (replTerm t L u).nm, .string (replTerm t L u).st, .slice AY (replTerm t L u).ks.length cY] 56)) := (Below.refl _ _).alloc (Nat.le_refl _) _
      have HBIG := Lib.hid (bigOne_any (replTerm t L u) AY cY _ w9.heap.size (heap_alloc_new w9 (.cells #[.string (replTerm t L u).nm, .string (replTerm t L u).st, .slice AY (replTerm t L u).ks.length cY] 56)) (HY10.out.next hbN).2 HYB.out.1)
      rw [HYB.out.2] at HBIG
      have H11 := Lib.hid (H10.out.next hbN)
      have HX11 := Lib.hid (HX10.out.next hbN)
      have HY11 := Lib.hid (HY10.out.next hbN)
      have HZ11 := Lib.hid (HZ10.out.next hbN)
      clear hbN H10 HX10 HY10 HZ10
      go_wp2_with fail
      refine HBIG.out.mono ?_
      rintro e w11 ⟨rfl, hb11⟩
      have H12 := Lib.hid (H11.out.next hb11)
      have HX12 := Lib.hid (HX11.out.next hb11)
      have HY12 := Lib.hid (HY11.out.next hb11)
      have HZ12 := Lib.hid (HZ11.out.next hb11)
      clear hb11 y0 y1 y2 HBIG H11 HX11 HY11 HZ11
      obtain ⟨⟨y0, y1, y2⟩, _⟩ := blk3 HY12.out.1
      obtain ⟨⟨z0, z1, z2⟩, _⟩ := blk3 HZ12.out.1
      have HC := Lib.hid (refSame_any (replTerm t L u) (replTerm t L u) AY AZ cY cZ w11.heap.size w11 HY12.out.2 HZ12.out.2 (Nat.le_refl _) (HYB.out.1.okT.mono (by unfold maxLen; omega)) (HYB.out.1.okT.mono (by unfold maxLen; omega)))
      rw [rcmp_self] at HC
      unfold TV at HC
      have hrr : (replCode t L u != replCode t L u) = false := by simp
      generalize replCode t L u = rc at hrr ⊢
      go_wp2_with fail
      refine HC.out.mono ?_
      rintro e w13 ⟨rfl, hb13⟩
      have H14 := Lib.hid (H12.out.next hb13)
      have HX14 := Lib.hid (HX12.out.next hb13)
      clear hb13 y0 y1 y2 z0 z1 z2 HC H12 HX12 HY12 HZ12 hrr
      obtain ⟨⟨x0, x1, x2⟩, _⟩ := blk3 H14.out.bt.1
      have HC := Lib.hid (formed_any t A c w13.heap.size w13 H14.out.bt.2 (Nat.le_refl _) (HST.out.1.okT.mono (by unfold maxLen; omega)))
      unfold TV at HC
      cases hf : formed t
      · rw [hf] at HC
        obtain ⟨ha1, ha2⟩ := at_bad (L := L) hf
        rw [ha1] at HX14
        rw [ha2]
        clear hf ha1 ha2
        go_wp2_with fail
        refine HC.out.mono ?_
        rintro e w14 ⟨rfl, hb14⟩
        have H15 := Lib.hid (H14.out.next hb14)
        have HX15 := Lib.hid (HX14.out.next hb14)
        clear hb14 x0 x1 x2 HC H14 HX14
        obtain ⟨⟨x0, x1, x2⟩, _⟩ := blk3 (blk0 HX15.out.1)
        have HC := Lib.hid (zero_any AX cX w14)
        go_wp2_with fail
        refine HC.out.mono ?_
        rintro e w15 ⟨rfl, hb15⟩
        have H16 := Lib.hid (H15.out.next hb15)
        clear hb15 x0 x1 x2 HC
        go_wp2_with fail
        go_ret
        exact ⟨rfl, H16.out.below⟩
      · rw [hf] at HC
        have HF := Lib.hid hf
        clear hf
        go_wp2_with fail
        refine HC.out.mono ?_
        rintro e w14 ⟨rfl, hb14⟩
        have H15 := Lib.hid (H14.out.next hb14)
        have HX15 := Lib.hid (HX14.out.next hb14)
        clear hb14 x0 x1 x2 HC H14 HX14
        obtain ⟨⟨x0, x1, x2⟩, _⟩ := blk3 H15.out.bt.1
        have HC := Lib.hid (refAt_any t A c P cp L w14.heap.size w14 H15.out.bt.2 (HPW.out _ H15.out.below) (Nat.le_refl _) HLM.out (HST.out.1.okT.mono (by unfold maxLen; omega)))
        unfold TV at HC
        go_wp2_with fail
        refine HC.out.mono ?_
        rintro e w15 hat
        unfold refAtPost at hat
        cases hs : subAt t L with
        | none =>
          rw [hs] at hat
          obtain ⟨rfl, hb15⟩ := hat
          obtain ⟨ha1, ha2⟩ := at_none HF.out hs
          rw [ha1] at HX15
          rw [ha2]
          have hbA : Below w15.heap.size w15 (w15.alloc (.cells #[.string ⟨#[]⟩, .string ⟨#[]⟩, .slice none 0 0] 56)) := (Below.refl _ _).alloc (Nat.le_refl _) _
          have H16 := Lib.hid ((H15.out.next hb15).next hbA)
          have HX16 := Lib.hid ((HX15.out.next hb15).next hbA)
          clear hs ha1 ha2 hb15 hbA x0 x1 x2 HC H15 HX15
          unfold TV0
          go_upto_region 15 with fail
          generalize w15.alloc (.cells #[.string ⟨#[]⟩, .string ⟨#[]⟩, .slice none 0 0] 56) = W16 at H16 HX16 ⊢
          obtain ⟨⟨x0, x1, x2⟩, _⟩ := blk3 (blk0 HX16.out.1)
          have HC := Lib.hid (zero_any AX cX W16)
          go_wp2_with fail
          refine HC.out.mono ?_
          rintro e w17 ⟨rfl, hb17⟩
          have H18 := Lib.hid (H16.out.next hb17)
          clear hb17 x0 x1 x2 HC
          go_wp2_with fail
          go_ret
          exact ⟨rfl, H18.out.below⟩
        | some s =>
          rw [hs] at hat
          obtain ⟨⟨AS, cS, rfl, hrs⟩, hb15⟩ := hat
          obtain ⟨ha1, ha2⟩ := at_some HF.out hs
          rw [ha1] at HX15 HXB
          rw [ha2]
          have hbA : Below w15.heap.size w15 (w15.alloc (.cells (tcells s AS cS) 56)) := (Below.refl _ _).alloc (Nat.le_refl _) _
          have H16 := Lib.hid ((H15.out.next hb15).next hbA)
          have HX16 := Lib.hid ((HX15.out.next hb15).next hbA)
          have HS16 := Lib.hid (BX.new w15 s AS cS ((hrs.later hb15).mono hb15.size))
          clear hs ha1 ha2 hb15 hbA hrs x0 x1 x2 HC H15 HX15
          unfold TV
          go_upto_region 15 with fail
          generalize w15.alloc (.cells (tcells s AS cS) 56) = W16 at H16 HX16 HS16 ⊢
          obtain ⟨⟨x0, x1, x2⟩, _⟩ := blk3 HX16.out.1
          obtain ⟨⟨y0, y1, y2⟩, _⟩ := blk3 HS16.out.1
          have HC := Lib.hid (refSame_any s s AX AS cX cS W16.heap.size W16 HX16.out.2 HS16.out.2 (Nat.le_refl _) (HXB.out.1.okT.mono (by unfold maxLen; omega)) (HXB.out.1.okT.mono (by unfold maxLen; omega)))
          rw [rcmp_self] at HC
          unfold TV at HC
          go_wp2_with fail
          refine HC.out.mono ?_
          rintro e w17 ⟨rfl, hb17⟩
          have H18 := Lib.hid (H16.out.next hb17)
          clear hb17 x0 x1 x2 y0 y1 y2 HC
          go_wp2_with fail
          go_ret
          exact ⟨rfl, H18.out.below⟩
  · go_wp2_with fail
    go_ret
    exact ⟨rfl, H3.out.below⟩
end Go.Proofs.YthbcfcbonmphfaaDoor
