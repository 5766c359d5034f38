/- Walks: Join, of the package and of its reference. -/
import Derived.Test.YthbcfcbonmphfaaDoorLexH
import Derived.Test.YthbcfcbonmphfaaDoorJoinA
import Derived.Test.YthbcfcbonmphfaaDoorLexC
import Derived.Lib.BufferRead
namespace Go.Proofs.YthbcfcbonmphfaaDoor
set_option maxRecDepth 100000
open Go.RowKit

/-- A slice of tokens in memory: nil, or at an address. -/
def SlT (w : World) (A : Option Addr) (L : List Tk) : Prop :=
  0 < L.length → ∃ b off, A = some ⟨b, off, none⟩ ∧ b < w.heap.size ∧ ∀ (i : Nat) (t : Tk), L[i]? = some t → w.cell? ⟨b, off + i * 5, none⟩ = some (.int .i64 t.k) ∧ w.cell? ⟨b, off + i * 5 + 1, none⟩ = some (.string ⟨t.t.toArray⟩) ∧
    w.cell? ⟨b, off + i * 5 + 2, none⟩ = some (.int .i64 t.n) ∧ w.cell? ⟨b, off + i * 5 + 3, none⟩ = some (.int .i64 t.a) ∧ w.cell? ⟨b, off + i * 5 + 4, none⟩ = some (.int .i64 t.b)
theorem SlT.below {w w' : World} {A : Option Addr} {L : List Tk} (h : SlT w A L) (hb : Below w.heap.size w w') : SlT w' A L := fun hl => by
  obtain ⟨b, off, rfl, hlt, hc⟩ := h hl
  have hs := hb.size
  exact ⟨b, off, rfl, by omega, fun i t ht => by
    obtain ⟨h0, h1, h2, h3, h4⟩ := hc i t ht
    exact ⟨(hb.cell (p := ⟨b, _, none⟩) hlt).trans h0, (hb.cell (p := ⟨b, _, none⟩) hlt).trans h1, (hb.cell (p := ⟨b, _, none⟩) hlt).trans h2, (hb.cell (p := ⟨b, _, none⟩) hlt).trans h3, (hb.cell (p := ⟨b, _, none⟩) hlt).trans h4⟩⟩
/-- The cells of one token, in a later world. -/
theorem cells5 {w w' : World} {b o : Nat} {t : Tk} (hb : Below w.heap.size w w') (hlt : b < w.heap.size) (h : w.cell? ⟨b, o, none⟩ = some (.int .i64 t.k) ∧ w.cell? ⟨b, o + 1, none⟩ = some (.string ⟨t.t.toArray⟩) ∧ w.cell? ⟨b, o + 2, none⟩ = some (.int .i64 t.n) ∧ w.cell? ⟨b, o + 3, none⟩ = some (.int .i64 t.a) ∧ w.cell? ⟨b, o + 4, none⟩ = some (.int .i64 t.b)) :
    w'.cell? ⟨b, o, none⟩ = some (.int .i64 t.k) ∧ w'.cell? ⟨b, o + 1, none⟩ = some (.string ⟨t.t.toArray⟩) ∧ w'.cell? ⟨b, o + 2, none⟩ = some (.int .i64 t.n) ∧ w'.cell? ⟨b, o + 3, none⟩ = some (.int .i64 t.a) ∧ w'.cell? ⟨b, o + 4, none⟩ = some (.int .i64 t.b) := by
  obtain ⟨h0, h1, h2, h3, h4⟩ := h
  exact ⟨(hb.cell (p := ⟨b, _, none⟩) hlt).trans h0, (hb.cell (p := ⟨b, _, none⟩) hlt).trans h1, (hb.cell (p := ⟨b, _, none⟩) hlt).trans h2, (hb.cell (p := ⟨b, _, none⟩) hlt).trans h3, (hb.cell (p := ⟨b, _, none⟩) hlt).trans h4⟩
/-- Short texts. -/
def Small (L : List Tk) : Prop := L.length ≤ 500 ∧ ∀ (i : Nat) (t : Tk), L[i]? = some t → t.t.length ≤ 1000

/-- What Join hands back. -/
def joinV (L : List Tk) : Value := .tuple #[.string ⟨(jres L).1.toArray⟩, .int .i64 (jres L).2]
theorem valid_tk (t : Tk) (w : World) (hs : t.t.length ≤ 1000) (hp : Pairs w) (v : Bool) (hv : validT t.k t.t t.n = v) :
    Calls Tryd.prog 18 #[.agg #[.int .i64 t.k, .string ⟨t.t.toArray⟩, .int .i64 t.n, .int .i64 t.a, .int .i64 t.b]] w fun e w' => e = .returned (.bool v) ∧ Below w.heap.size w w' := by
  have := valid_any t.k ⟨t.t.toArray⟩ t.n t.a t.b w (by unfold maxLen; show t.t.toArray.size ≤ _; simp; omega) hp
  have e : (ByteArray.mk t.t.toArray).data.toList = t.t := by simp
  rw [e, hv] at this
  exact this

theorem tkOk_no (L : List Tk) (k : Nat) (t : Tk) (h : validT t.k t.t t.n = false) : tkOk L k t = false := by unfold tkOk; rw [h]; rfl
theorem tkOk_mid (L : List Tk) (k : Nat) (t : Tk) (h5 : t.k = 5) (hk : ((k : Int) != (L.length : Int) - 1) = true) : tkOk L k t = false := by
  unfold tkOk
  have e : decide (k + 1 ≠ L.length) = true := by simp at hk ⊢; omega
  rw [e, h5]; simp
theorem tkOk_last (L : List Tk) (k : Nat) (t : Tk) (hv : validT t.k t.t t.n = true) (hk : ((k : Int) != (L.length : Int) - 1) = false) : tkOk L k t = true := by
  unfold tkOk
  have e : decide (k + 1 ≠ L.length) = false := by simp at hk ⊢; omega
  rw [e, hv]; simp
theorem tkOk_plain (L : List Tk) (k : Nat) (t : Tk) (hv : validT t.k t.t t.n = true) (h5 : ¬ t.k = 5) : tkOk L k t = true := by
  unfold tkOk
  have e : decide (t.k = 5) = false := by simpa using h5
  rw [e, hv]; rfl
theorem valid_n (k : Int) (s : List UInt8) (n : Int) (h : validT k s n = true) : 0 ≤ n ∧ n ≤ 1099511627776 := by
  unfold validT at h
  repeat' split at h
  all_goals simp at h
  all_goals omega
theorem joinV_bad (L : List Tk) (i : Nat) (t : Tk) (h : L[i]? = some t) (hb : tkOk L i t = false) : joinV L = .tuple #[.string ⟨#[]⟩, .int .i64 1] := by
  unfold joinV; rw [jres_bad L i t h hb]
theorem joinV_none (L : List Tk) (h : jval L = true) (hg : jgo L true [] = none) : joinV L = .tuple #[.string ⟨#[]⟩, .int .i64 4] := by
  unfold joinV jres; rw [if_pos h, hg]
theorem joinV_some (L : List Tk) (x : List UInt8) (h : jval L = true) (hg : jgo L true [] = some x) : joinV L = .tuple #[.string ⟨x.toArray⟩, .int .i64 0] := by
  unfold joinV jres; rw [if_pos h, hg]

/-- The bytes that the call owns, as a string. -/
theorem conv_own {w : World} {base : Nat} {v : Value} {xs : List UInt8} (ho : w.ownsRow base 5 1 v xs.length (bsC xs)) : (convert 43 9 v).run Tryd.prog w = .ok (.string ⟨xs.toArray⟩) w := by
  rcases ho.2 with ⟨rfl, h0⟩ | ⟨g, cap, cur, rfl, _⟩
  · have e : xs = [] := List.eq_nil_of_length_eq_zero h0
    subst e
    exact Lib.run_convert_nil_bytes w 43 9 5 0 Tryd.underlying43 Tryd.underlying5 Tryd.underlying9
  · have hs : (ByteArray.mk xs.toArray).size = xs.length := by show xs.toArray.size = _; simp
    have hB : Lib.Bytes w g 0 ⟨xs.toArray⟩ := by
      intro i hi
      rw [hs] at hi
      rw [Nat.zero_add, ho.cellAt i (by omega)]
      unfold bsC
      rw [List.getElem?_map, List.getElem?_eq_getElem hi]
      rfl
    have h := Lib.run_convert_whole (P := Tryd.prog) w 43 5 9 Tryd.underlying43 Tryd.underlying5 Tryd.underlying9 g 0 ⟨xs.toArray⟩ hB cap
    rw [hs] at h
    exact h
theorem jgo_end (L : List Tk) (k : Nat) (t : Tk) (f : Bool) (acc : List UInt8) (h : L[k]? = some t) (h5 : t.k = 5) : jgo (L.drop k) f acc = some acc := by
  rw [drop_of L k t h, jgo, if_pos h5]
theorem jgo_full (L : List Tk) (k : Nat) (t : Tk) (f : Bool) (acc : List UInt8) (h : L[k]? = some t) (h5 : ¬ t.k = 5) (hf : 65536 < ((acc ++ (if f then [] else [32])) ++ tkText t).length) : jgo (L.drop k) f acc = none := by
  rw [drop_of L k t h, jgo, if_neg h5, if_pos hf]
theorem jgo_step (L : List Tk) (k : Nat) (t : Tk) (f : Bool) (acc : List UInt8) (h : L[k]? = some t) (h5 : ¬ t.k = 5) (hf : ((acc ++ (if f then [] else [32])) ++ tkText t).length ≤ 65536) : jgo (L.drop k) f acc = jgo (L.drop (k + 1)) false ((acc ++ (if f then [] else [32])) ++ tkText t) := by
  rw [drop_of L k t h, jgo, if_neg h5, if_neg (by omega)]
theorem jgo_done (L : List Tk) (k : Nat) (f : Bool) (acc : List UInt8) (h : k = L.length) : jgo (L.drop k) f acc = some acc := by
  rw [h, List.drop_length, jgo]

theorem appTok (base : Nat) (v : Value) (xs : List UInt8) (t : Tk) (w : World) (hv : validT t.k t.t t.n = true) (hx : xs.length ≤ 900000) (hs : t.t.length ≤ 1000) (hb : base ≤ w.heap.size) (ho : w.ownsRow base 5 1 v xs.length (bsC xs)) :
    Calls Tryd.prog 69 #[v, .agg #[.int .i64 t.k, .string ⟨t.t.toArray⟩, .int .i64 t.n, .int .i64 t.a, .int .i64 t.b]] w (AppPost base (xs ++ tkText t) w) := by
  have hn := valid_n _ _ _ hv
  have := appendToken_any base v xs t.k ⟨t.t.toArray⟩ t.n t.a t.b w hn.1 hn.2 hx (by show t.t.toArray.size ≤ _; simpa using hs) hb ho
  have e : (ByteArray.mk t.t.toArray).data.toList = t.t := by simp
  rw [e] at this
  exact this

theorem own_slice {w : World} {base : Nat} {e : TypeId} {size n : Nat} {v : Value} {xs : List Value} (h : w.ownsRow base e size v n xs) : ∃ A cap, v = .slice A n cap := by
  rcases h.2 with ⟨rfl, h0⟩ | ⟨g, cap, cur, rfl, _⟩
  · exact ⟨none, 0, by rw [h0]⟩
  · exact ⟨_, cap, rfl⟩
theorem sep0 (k : Nat) (acc : List UInt8) (h : k = 0) : acc ++ (if decide (k = 0) = true then [] else [32]) = acc := by rw [h]; simp
theorem sep1 (k : Nat) (acc : List UInt8) (h : ¬ k = 0) : acc ++ (if decide (k = 0) = true then [] else [32]) = acc ++ [32] := by rw [if_neg (by simpa using h)]
theorem dec_succ (k : Nat) : decide (k + 1 = 0) = false := by simp
def JInv (L : List Tk) (w : World) (k : Nat) (v : Value) (wr : World) (acc : List UInt8) : Prop :=
  wr.ownsRow w.heap.size 5 1 v acc.length (bsC acc) ∧ Below w.heap.size w wr ∧ jgo L true [] = jgo (L.drop k) (decide (k = 0)) acc ∧ acc.length ≤ 65536

set_option maxRecDepth 100000 in
set_option maxHeartbeats 1000000 in
theorem join_any (A : Option Addr) (cap : Nat) (L : List Tk) (w : World) (hp : Pairs w) (hsm : Small L) (hl : SlT w A L) :
    Calls Tryd.prog 24 #[.slice A L.length cap] w fun e w' => e = .returned (joinV L) ∧ Below w.heap.size w w' := by
  have HP := Lib.hid hp
  have HS := Lib.hid hsm
  have HL := Lib.hid hl
  have hlen := hsm.1
  clear hp hsm hl
  go_enter Tryd.func24, Tryd.ntmps24
  go_wp2_with fail
  go_loopw [9] (fun i wr => ∃ k : Nat, k ≤ L.length ∧ i = .int .i64 k ∧ jvalTo L k ∧ Below w.heap.size w wr) (fun i _ => L.length - (intOf i).toNat)
  case atStart => exact ⟨0, by omega, rfl, fun i t hi => absurd hi (by omega), Below.refl _ _⟩
  case round =>
    obtain ⟨k, hk, rfl, hjv, hbw⟩ := hrel
    have HJ := Lib.hid hjv
    have HB := Lib.hid hbw
    clear hjv hbw
    by_cases hlt : k < L.length
    · obtain ⟨t, ht⟩ : ∃ t, L[k]? = some t := ⟨L[k], List.getElem?_eq_getElem hlt⟩
      obtain ⟨b, off, hA, hblt, hc⟩ := (HL.out.below HB.out) (by omega)
      subst hA
      obtain ⟨h0, h1, h2, h3, h4⟩ := hc k t ht
      have HT := Lib.hid ht
      have hts := HS.out.2 k t ht
      have HTS := Lib.hid hts
      have HPr := Lib.hid (HP.out.below HB.out HP.out.lt)
      clear hc ht hts
      cases hv : validT t.k t.t t.n
      · go_wp2_with (go_at_call 18; refine (valid_tk t _ HTS.out HPr.out _ hv).mono ?_; rintro e w1 ⟨rfl, hb1⟩)
        go_ret2
        exact ⟨(joinV_bad L k t HT.out (tkOk_no L k t hv)).symm ▸ rfl, HB.out.trans (hb1.mono HB.out.size)⟩
      · go_wp2_with (go_at_call 18; refine (valid_tk t _ HTS.out HPr.out _ hv).mono ?_; rintro e w1 ⟨rfl, hb1⟩; have h0' : w1.cell? ⟨b, off + k * 5, none⟩ = some (.int .i64 t.k) := (hb1.cell (p := ⟨b, off + k * 5, none⟩) hblt).trans h0)
        all_goals
          have HB1 := Lib.hid (HB.out.trans (hb1.mono HB.out.size))
          clear hb1
        · have a1 : t.k = 5 := by assumption
          have a2 : ((k : Int) != (L.length : Int) - 1) = true := by assumption
          go_ret2
          exact ⟨(joinV_bad L k t HT.out (tkOk_mid L k t a1 a2)).symm ▸ rfl, HB1.out⟩
        · have a2 : ((k : Int) != (L.length : Int) - 1) = false := by assumption
          have HN := Lib.hid (jvalTo_snoc L k t HJ.out HT.out (tkOk_last L k t hv a2))
          clear a2
          go_roundw
          case rel => exact ⟨k + 1, by omega, by go_num, HN.out, HB1.out⟩
          case measure => simp [intOf]; omega
        · have a1 : ¬ t.k = 5 := by assumption
          have HN := Lib.hid (jvalTo_snoc L k t HJ.out HT.out (tkOk_plain L k t hv a1))
          clear a1
          go_roundw
          case rel => exact ⟨k + 1, by omega, by go_num, HN.out, HB1.out⟩
          case measure => simp [intOf]; omega
    · have hkL : k = L.length := by omega
      have HV := Lib.hid (jval_of L (hkL ▸ HJ.out))
      have HJ2 := Lib.hid (hkL ▸ HJ.out)
      clear HJ hkL
      go_wp2_with fail
      obtain ⟨w2, hw2⟩ : ∃ w2 : World, w2 = wr := ⟨_, rfl⟩
      subst hw2
      go_loopw [5, 36] (fun v i wr => ∃ (k : Nat) (acc : List UInt8), k ≤ L.length ∧ i = .int .i64 k ∧ JInv L w k v wr acc) (fun _ i _ => L.length - (intOf i).toNat)
      case atStart => exact ⟨0, [], by omega, rfl, World.ownsRow_nil _ _ _ _, HB.out, rfl, by simp⟩
      case round =>
        obtain ⟨k, acc, hk, rfl, ho, hb, hg, hacc⟩ := hrel
        have HO := Lib.hid ho
        have HB2 := Lib.hid hb
        have HG := Lib.hid hg
        clear ho hb hg
        by_cases hlt : k < L.length
        · obtain ⟨t, ht⟩ : ∃ t, L[k]? = some t := ⟨L[k], List.getElem?_eq_getElem hlt⟩
          obtain ⟨b, off, hA, hblt, hc⟩ := HL.out (by omega)
          subst hA
          have HC := Lib.hid (hc k t ht)
          obtain ⟨h0, h1, h2, h3, h4⟩ := cells5 HB2.out hblt HC.out
          have HT := Lib.hid ht
          have HTS := Lib.hid (HS.out.2 k t ht)
          have hok := HJ2.out k t hlt ht
          have hval := hok
          unfold tkOk at hval
          rw [Bool.and_eq_true] at hval
          have HVL := Lib.hid hval.1
          clear hc ht hok hval
          obtain ⟨i0, hi, hz0, hz1, hz2⟩ := info_parts Tryd.infoByte
          by_cases hk5 : t.k = 5
          · have hcv := conv_own HO.out
            have HE := Lib.hid (joinV_some L acc HV.out (by rw [HG.out]; exact jgo_end L k t _ acc HT.out hk5))
            have hk5b : (t.k == 5) = true := beq_iff_eq.2 hk5
            have HK5 := Lib.hid hk5
            clear hk5
            go_wp2
            go_ret2
            exact ⟨HE.out.symm ▸ rfl, HB2.out⟩
          · have hk5b : (t.k == 5) = false := beq_eq_false_iff_ne.2 hk5
            have HK5 := Lib.hid hk5
            clear hk5
            by_cases hk0 : k = 0
            · have hkI : ¬ (0 : Int) < (k : Int) := by omega
              have HK0 := Lib.hid hk0
              clear hk0
              go_wp2_with fail
              refine (appTok w.heap.size _ acc t _ HVL.out (by omega) HTS.out HB2.out.size HO.out).mono ?_
              rintro e w3 ⟨v3, rfl, ho3, hb3⟩
              obtain ⟨A3, cap3, rfl⟩ := own_slice ho3
              have HR := Lib.hid (And.intro ho3 (HB2.out.trans hb3))
              clear ho3 hb3
              by_cases hfull : 65536 < (acc ++ tkText t).length
              · have hfI : (65536 : Int) < ((acc ++ tkText t).length : Int) := by omega
                simp only [List.length_append, Int.natCast_add] at hfI
                have HE := Lib.hid (joinV_none L HV.out (by rw [HG.out]; exact jgo_full L k t _ acc HT.out HK5.out (by rw [sep0 k acc HK0.out]; exact hfull)))
                go_wp2
                go_ret2
                exact ⟨HE.out.symm ▸ rfl, HR.out.2⟩
              · have hfI : ((acc ++ tkText t).length : Int) ≤ 65536 := by omega
                simp only [List.length_append, Int.natCast_add] at hfI
                have HN : Hid (JInv L w (k + 1) (.slice A3 (acc ++ tkText t).length cap3) w3 (acc ++ tkText t)) := ⟨HR.out.1, HR.out.2, by rw [HG.out, dec_succ, jgo_step L k t _ acc HT.out HK5.out (by rw [sep0 k acc HK0.out]; omega), sep0 k acc HK0.out], by omega⟩
                simp only [List.length_append] at HN
                go_wp2
                go_roundw
                case rel => exact ⟨k + 1, _, by omega, by go_num, HN.out⟩
                case measure => simp [intOf]; omega
            · have hkI : (0 : Int) < (k : Int) := by omega
              have HK0 := Lib.hid hk0
              clear hk0
              have h1m : acc.length + 1 ≤ maxLen := by unfold maxLen; omega
              have hwr := HB2.out.size
              go_wp2_with (at_builtin; refine wpList_append_own _ rfl (.tmp 47) (.tmp 48) 43 rfl w.heap.size 5 i0 _ 1 1 Tryd.underlying43 hi hz0 hz1 hz2 rfl (by decide) _ acc.length (bsC acc) rfl (HO.out.alloc _) _ 1 1 [.int .u8 32] rfl rfl ?c1 ?c2 h1m ?c4 ?c5 ?_)
              case c1 => exact World.news_of_block (cs := #[.int .u8 32]) (t := 5) (fr := (0, 0)) (heap_alloc_new _ _)
              case c2 => simp [Value.oneCell']
              case c4 => omega
              case c5 => simp; omega
              intro vs ws hos hgs _
              have R := app_one (xs := acc ++ [32]) (c := 32) (Below.refl _ _) hwr HO.out rfl hos hgs
              have HOS := Lib.hid R.1
              have HBS := Lib.hid (HB2.out.trans R.2)
              clear R hos hgs h0 h1 h2 h3 h4
              obtain ⟨e0, e1, e2, e3, e4⟩ := cells5 HBS.out hblt HC.out
              go_wp2_with fail
              obtain ⟨N, hN⟩ : ∃ N, N = ((acc ++ [32]) ++ tkText t).length := ⟨_, rfl⟩
              have HN0 := Lib.hid hN
              refine (appTok w.heap.size _ (acc ++ [32]) t _ HVL.out (by simp; omega) HTS.out HBS.out.size HOS.out).mono ?_
              rintro e w3 ⟨v3, rfl, ho3, hb3⟩
              obtain ⟨A3, cap3, hv3⟩ := own_slice ho3
              rw [← hN] at hv3
              subst hv3
              have HR := Lib.hid (And.intro ho3 (HBS.out.trans hb3))
              clear ho3 hb3 hN
              by_cases hfull : 65536 < N
              · have hfI : (65536 : Int) < (N : Int) := by omega
                have HE := Lib.hid (joinV_none L HV.out (by rw [HG.out]; exact jgo_full L k t _ acc HT.out HK5.out (by rw [sep1 k acc HK0.out, ← HN0.out]; exact hfull)))
                clear hfull
                go_wp2
                go_ret2
                exact ⟨HE.out.symm ▸ rfl, HR.out.2⟩
              · have hfI : (N : Int) ≤ 65536 := by omega
                have HN : Hid (JInv L w (k + 1) (.slice A3 N cap3) w3 ((acc ++ [32]) ++ tkText t)) := ⟨HR.out.1, HR.out.2, by rw [HG.out, dec_succ, jgo_step L k t _ acc HT.out HK5.out (by rw [sep1 k acc HK0.out, ← HN0.out]; omega), sep1 k acc HK0.out], by rw [← HN0.out]; omega⟩
                clear hfull
                go_wp2
                go_roundw
                case rel => exact ⟨k + 1, _, by omega, by go_num, HN.out⟩
                case measure => simp [intOf]; omega
        · have hcv := conv_own HO.out
          have HE := Lib.hid (joinV_some L acc HV.out (by rw [HG.out]; exact jgo_done L k _ acc (by omega)))
          go_wp2
          go_ret2
          exact ⟨HE.out.symm ▸ rfl, HB2.out⟩
end Go.Proofs.YthbcfcbonmphfaaDoor
