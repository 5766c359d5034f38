/- LexPlaces: the law's walk. -/
import Derived.Test.YthbcfcbonmphfaaDoorPlacB
import Derived.Test.YthbcfcbonmphfaaDoorBackA
import Derived.BigQuiet
import Derived.Deep.DeepCutAuto
import Derived.Deep.CutBlock
import Derived.IntWalk
namespace Go.Proofs.YthbcfcbonmphfaaDoor
set_option maxRecDepth 100000
open Go.RowKit

theorem own_cap {w : World} {B n c : Nat} {A : Option Addr} {xs : List Value} (h : w.ownsRow B 25 5 (.slice A n c) n xs) : n ≤ c := by
  rcases h.2 with ⟨h, h0⟩ | ⟨_, cap, _, hv, _, _, h1, _⟩
  · omega
  · injection hv with _ _ e; omega
theorem Bld.below {w w' : World} {b : Nat} {xs : List UInt8} (h : Bld w b xs) (hb : Below w.heap.size w w') : Bld w' b xs := by
  obtain ⟨p, v, hp, h1, h2⟩ := h.ex
  have hlt := (Array.getElem?_eq_some_iff.1 h1).1
  exact ⟨p, v, hp, (hb.block _ hlt).trans h1, h2.kept (row := none) ⟨hb.os, hb.tape, hb.output, hb.size, fun i hi _ => hb.block i hi⟩ (by cases v.ownBlock <;> simp)⟩
theorem Bld.drewN {w : World} {b : Nat} {xs : List UInt8} (h : Bld w b xs) (q : Nat) : Bld (w.drewN q) b xs := h.below (below_drewN (Below.refl _ _) q)
theorem app_le (a : List UInt8) (g : ByteArray) (h : g.size ≤ 7) : ((⟨a.toArray⟩ : ByteArray) ++ g).size ≤ a.length + 7 := by
  rw [ByteArray.size_append]
  show a.toArray.size + _ ≤ _
  rw [List.size_toArray]; omega
theorem app_data (a : List UInt8) (g : ByteArray) : ((⟨a.toArray⟩ : ByteArray) ++ g).data.toList = a ++ g.data.toList := by
  rw [ByteArray.data_append, Array.toList_append]
theorem Bld.isF {w : World} {b : Nat} {xs : List UInt8} (h : Bld w (b + 1) xs) : Lib.IsBuilderF 46 5 b (b + 1) (Lib.byteCells xs) w := by
  obtain ⟨p, v, hp, h1, h2⟩ := h.ex
  have hl : (Lib.byteCells xs).length = xs.length := Lib.byteCells_length xs
  have key : Lib.BuilderAtF 46 5 b (b + 1) p (Lib.byteCells xs) w :=
    ⟨by omega, v, h1, by rw [hl]; exact World.ownsRowF_of (h2.mono (by omega)), fun e => by have := (h2.lt (b + 1) e).1; omega⟩
  rcases hp with rfl | rfl
  · exact .inl key
  · exact .inr key
theorem small_one (t : Tk) (h : t.t.length ≤ 1000) : Small [t] := ⟨by simp, fun i u hu => by
  rcases Nat.eq_zero_or_pos i with h0 | h0
  · subst h0
    have e : t = u := by simpa using hu
    rw [← e]; exact h
  · rw [List.getElem?_eq_none (by simp; omega)] at hu; cases hu⟩
theorem tlen_le : ∀ (L : List Tk) (i : Nat) (t : Tk), L[i]? = some t → t.t.length ≤ tlen L
  | [], _, _, h => by simp at h
  | u :: L, 0, t, h => by
    have e : u = t := by simpa using h
    subst e
    unfold tlen; omega
  | u :: L, i + 1, t, h => by
    have := tlen_le L i t (by simpa using h)
    unfold tlen; omega
set_option maxRecDepth 100000 in
set_option maxHeartbeats 4000000 in
theorem lexPlaces_ok (s : ByteArray) (G : Option Addr) (gc : Nat) (gs : List UInt8) (L : List Tk) (w : World) (hp : Pairs w) (hg : ByT w G gs) (htk : toks s.data.toList 1 1 = .ok L) (hs : s.size ≤ 400) (hgs : gs.length ≤ 100) :
    Calls Tryd.prog 7 #[.string s, .slice G gs.length gc] w fun e w' => e = .returned (.bool true) ∧ Below w.heap.size w w' := by
  have HP := Lib.hid hp
  have HG := Lib.hid hg
  have HTK := Lib.hid htk
  obtain ⟨hv, hasc, hend, htl, hll⟩ := toks_places _ _ htk
  rw [size_toList] at htl hll
  have HV := Lib.hid hv
  have HA := Lib.hid hasc
  have HE := Lib.hid hend
  have hLp : 0 < L.length := by cases L with | nil => exact hend.elim | cons _ _ => simp
  have d1 : decide ((400 : Int) < (s.size : Int)) = false := by simp; omega
  have d2 : decide ((100 : Int) < (gs.length : Int)) = false := by simp; omega
  clear hp hg htk hv hasc hend
  go_enter Tryd.func7, Tryd.ntmps7
  go_wp2_with fail
  refine (awake_any _ HP.out).mono ?_
  rintro e w1 ⟨rfl, hb1⟩
  have HB1 := Lib.hid hb1
  clear hb1
  go_wp2_with fail
  refine (tokens_any s w1 (by omega) (HP.out.below HB1.out HP.out.lt)).mono ?_
  rintro e w2 ⟨hb2, hT⟩
  rw [HTK.out] at hT
  obtain ⟨v, rfl, ho⟩ := hT
  obtain ⟨A, cap, rfl, hsl, _⟩ := slT_own ho
  obtain ⟨b, off, rfl, hblt, _⟩ := hsl hLp
  have HB2 := Lib.hid (HB1.out.trans (hb2.mono HB1.out.size))
  have HSL := Lib.hid hsl
  have HP2 := Lib.hid (HP.out.below HB2.out HP.out.lt)
  have HG2 := Lib.hid (HG.out.below HB2.out)
  have hcap := own_cap ho
  clear hb2 hsl ho
  go_wp2_with fail
  have HX0 : Hid (Bld ((w2.alloc (.cells #[.int .i64 0, .int .i64 0] 23)).alloc (.cells #[.pointer none, .slice none 0 0] 46)) (w2.heap.size + 1) []) := by
    refine ⟨_, _, .inl rfl, ?_, World.ownsRow_nil _ _ _ _⟩
    have := heap_alloc_new (w2.alloc (.cells #[.int .i64 0, .int .i64 0] 23)) (.cells #[.pointer none, .slice none 0 0] 46)
    simpa using this
  have HX1 : Hid (Below w2.heap.size w2 ((w2.alloc (.cells #[.int .i64 0, .int .i64 0] 23)).alloc (.cells #[.pointer none, .slice none 0 0] 46))) := ((Below.refl _ _).alloc (Nat.le_refl _) _).alloc (by simp) _
  go_loopw [40] (fun i wr => ∃ (k : Nat) (xs : List UInt8), k ≤ L.length ∧ i = .int .i64 k ∧ Bld wr (w2.heap.size + 1) xs ∧ xs ++ ptxt (gIdx gs) k (L.drop k) = ptxt (gIdx gs) 0 L ∧ Below w2.heap.size w2 wr) (fun i _ => L.length - (intOf i).toNat)
  case atStart => exact ⟨0, [], by omega, rfl, HX0.out, rfl, HX1.out⟩
  case round =>
    clear HX0 HX1
    obtain ⟨k, xs, hk, rfl, hbld, hxs, hbw⟩ := hrel
    have HBL := Lib.hid hbld
    have HXS := Lib.hid hxs
    have HBW := Lib.hid hbw
    clear hbld hxs hbw
    by_cases hlt : k < L.length
    · obtain ⟨t, ht⟩ : ∃ t, L[k]? = some t := ⟨L[k]'hlt, List.getElem?_eq_getElem _⟩
      have HT := Lib.hid ht
      have HSr := Lib.hid (HSL.out.below HBW.out)
      obtain ⟨b', off', e, hbr, hc⟩ := HSr.out hLp
      injection e with e; injection e with e1 e2 _; subst e1 e2
      obtain ⟨x0, x1, x2, x3, x4⟩ := hc k t ht
      have hltI : decide ((k : Int) < (L.length : Int)) = true := by simp; omega
      have hltI2 : (k : Int) < (L.length : Int) := by omega
      clear hc ht
      go_wp2_with fail
      have htlen : t.t.length ≤ 400 := by have := tlen_le L k t HT.out; omega
      refine (valid_tk t _ (by omega) ((HP2.out.below HBW.out HP2.out.lt).alloc _) true (HV.out t (List.mem_of_getElem? HT.out))).mono ?_
      rintro e w3 ⟨rfl, hb3⟩
      obtain ⟨⟨z0, z1, z2, z3, z4⟩, f0, f1, f2, f3, f4⟩ := blk5 ((hb3.block _ (by simp)).trans (heap_alloc_new wr _))
      have HB3 := Lib.hid (((Below.refl _ _).alloc (Nat.le_refl _) _).trans (hb3.mono (by simp)))
      have hs3 := HB3.out.size
      have hz3 : wr.heap.size < w3.heap.size := by have := hb3.size; simp at this; omega
      clear hb3 x0 x1 x2 x3 x4
      have ha := Asc_at L 1 1 k t HA.out HT.out
      have g3 : decide (t.a < 1) = false := by simp; omega
      have g4 : decide (t.b < 1) = false := by simp; omega
      have g12 : ∃ v5 : Bool, (t.k == 5) = v5 ∧ ((k : Int) == (L.length : Int) - 1) = v5 := by
        have := Ends_at L k t HE.out HT.out
        by_cases h5 : t.k = 5
        · have := this.1 h5
          exact ⟨true, by simp [h5], by simp; omega⟩
        · have : ¬ (k + 1 = L.length) := fun h => h5 (this.2 h)
          exact ⟨false, beq_eq_false_iff_ne.2 h5, beq_eq_false_iff_ne.2 (by omega)⟩
      obtain ⟨v5, g1, g2⟩ := g12
      have HS3 := Lib.hid (HSr.out.below HB3.out)
      go_upto_region 14 with fail
      go_cut [111] from 41 to 140 (fun v wx => v = .bool false ∧ ∃ q, wx = w3.drewN q)
      case first =>
        clear g1 g2 g3 g4
        rcases Nat.eq_zero_or_pos k with h0 | h0
        · subst h0
          go_quiet (fail)
          go_wp2_with fail
          go_meet
          exact ⟨rfl, _, rfl⟩
        · obtain ⟨m, hm⟩ : ∃ m, k = m + 1 := ⟨k - 1, by omega⟩
          obtain ⟨u, hu⟩ : ∃ u, L[m]? = some u := ⟨L[m]'(by omega), List.getElem?_eq_getElem _⟩
          have hn := Asc_next L 1 1 m u t HA.out hu (by rw [← hm]; exact HT.out)
          obtain ⟨b', off', e, hbr3, hc⟩ := HS3.out hLp
          injection e with e; injection e with e1 e2 _; subst e1 e2
          obtain ⟨_, _, _, y3, y4⟩ := hc m u hu
          have k0 : decide ((0 : Int) < (k : Int)) = true := by simp; omega
          have q1 : decide (t.a < u.a) = false := by simp; omega
          have n0 : (m : Int) < (L.length : Int) := by omega
          have n1 : True → IntKind.i64.wrap ((k : Int) - 1) = (m : Int) := fun _ => by rw [IntWalk.i64_in _ (by omega)]; omega
          by_cases hae : t.a = u.a
          · have q2 : (t.a == u.a) = true := beq_iff_eq.2 hae
            have q3 : decide (t.b ≤ u.b) = false := by simp; omega
            clear hn hc hu hm hae
            go_quiet (fail)
            go_wp2_with fail
            go_meet
            exact ⟨rfl, _, rfl⟩
          · have q2 : (t.a == u.a) = false := beq_eq_false_iff_ne.2 hae
            clear hn hc hu hm hae
            go_quiet (fail)
            go_wp2_with fail
            go_meet
            exact ⟨rfl, _, rfl⟩
      case rest =>
        obtain ⟨rfl, q, rfl⟩ := hcut
        have hkc : k + 1 ≤ cap := by omega
        have hkcI : (k : Int) + 1 ≤ (cap : Int) := by omega
        have HB4 := Lib.hid (below_drewN (HBW.out.trans (HB3.out.mono HBW.out.size)) q)
        have HBL4 := Lib.hid ((HBL.out.below HB3.out).drewN q)
        go_wp2_with fail
        have hjn := join_any (some ⟨b, off + k * 5, none⟩) (cap - k) [t] (w3.drewN q) (HP2.out.below HB4.out HP2.out.lt) (small_one t (by omega)) (SlT.one (HSL.out.below HB4.out) HT.out)
        unfold joinV at hjn
        rw [jres_one t (HV.out t (List.mem_of_getElem? HT.out)) (by omega)] at hjn
        refine hjn.mono ?_
        rintro e w5 ⟨rfl, hb5⟩
        have HBL5 := Lib.hid (HBL4.out.below hb5)
        have HB5 := Lib.hid (HB4.out.trans (hb5.mono HB4.out.size))
        clear hjn hb5
        go_upto_if 126 with fail
        go_cut [13] from 41 to 140 (fun v wx => ∃ kk : Nat, v = .int .i64 kk ∧ kk < 256 ∧ kk % 5 = gIdx gs k ∧ w5 = wx)
        case first =>
          by_cases hkg : k < gs.length
          · obtain ⟨c, hc⟩ : ∃ c, gs[k]? = some c := ⟨gs[k]'hkg, List.getElem?_eq_getElem _⟩
            obtain ⟨gb, goff, hG, hglt, hgc⟩ := (HG2.out.below HB5.out) (by omega)
            have y := hgc k c hc
            have HCC := Lib.hid hc
            have hI : decide ((k : Int) < (gs.length : Int)) = true := by simp; omega
            have hI2 : (k : Int) < (gs.length : Int) := by omega
            have hcl : (c.toNat : Int) < 256 := by have := c.toNat_lt; omega
            subst hG
            clear hgc hc
            go_wp2_with fail
            go_meet
            exact ⟨c.toNat, rfl, by omega, by unfold gIdx; rw [HCC.out], rfl⟩
          · have hI : decide ((k : Int) < (gs.length : Int)) = false := by simp; omega
            go_wp2_with fail
            go_meet
            exact ⟨0, rfl, by omega, by unfold gIdx; rw [List.getElem?_eq_none (by omega)], rfl⟩
        case rest =>
          obtain ⟨kk, rfl, hkk, hmod, rfl⟩ := hcut
          have HXL : Hid (xs.length ≤ 8500) := by
            have h1 := congrArg List.length HXS.out
            have h2 := ptxt_len (gIdx gs) L 0
            rw [List.length_append] at h1
            show _ ≤ _
            omega
          have HPL : Hid ((part t).length ≤ 413) := by
            have := tkText_le13 t
            show _ ≤ _
            unfold part
            split
            · simp
            · omega
          have HNX : Hid (∀ y : List UInt8, y = gapL (gIdx gs k) → (xs ++ (part t ++ y)) ++ ptxt (gIdx gs) (k + 1) (L.drop (k + 1)) = ptxt (gIdx gs) 0 L) := fun y hy => by
            rw [← HXS.out, ptxt_step _ _ _ _ HT.out, hy]; simp
          have hj : kk % 5 = 0 ∨ kk % 5 = 1 ∨ kk % 5 = 2 ∨ kk % 5 = 3 ∨ kk % 5 = 4 := by omega
          rcases hj with hj | hj | hj | hj | hj
          all_goals
            have HGP := Lib.hid (hmod.symm.trans hj)
            have hmd : (kk : Int).tmod 5 = ((kk % 5 : Nat) : Int) := by rw [Int.tmod_eq_emod_of_nonneg (by omega)]; omega
            rw [hj] at hmd
            clear hmod hj
            have hpl : (part t).length ≤ 413 := HPL.out
            go_wp2_with fail
            refine (writeString_any (w2.heap.size + 1) xs _ _ (HBL5.out.below ((Below.refl _ _).alloc (Nat.le_refl _) _)) (Nat.le_trans (Nat.add_le_add_left (app_le _ _ (by decide)) _) (by have := HXL.out; omega))).mono ?_
            rintro e w6 ⟨rfl, hbl6, hb6⟩
            rw [app_data] at hbl6
            have HBL6 := Lib.hid hbl6
            have HB6 := Lib.hid (HB5.out.trans (((Below.refl _ _).alloc HB5.out.size _).trans (hb6.mono (Nat.le_succ _))))
            clear hbl6 hb6
            go_wp2
            go_roundw
            case rel => exact ⟨k + 1, _, by omega, by go_num, HBL6.out, HNX.out _ (by rw [HGP.out]; rfl), HB6.out⟩
            case measure => simp [intOf]; omega
    · have hkL : k = L.length := by omega
      have HXE : Hid (xs = ptxt (gIdx gs) 0 L) := by
        have h := HXS.out
        rw [hkL, List.drop_length, ptxt, List.append_nil] at h
        exact h
      have HXL : Hid (xs.length ≤ 8500) := by
        have h1 := congrArg List.length HXE.out
        have h2 := ptxt_len (gIdx gs) L 0
        show _ ≤ _
        omega
      obtain ⟨r, hr, hm⟩ := toks_ptxt (gIdx gs) L 0 1 1 HV.out HE.out
      have HR : Hid (toks (ByteArray.mk xs.toArray).data.toList 1 1 = .ok r) := by
        show _ = _
        rw [show (ByteArray.mk xs.toArray).data.toList = xs by simp, HXE.out]
        exact hr
      have HRM := Lib.hid hm
      have HRL : Hid (r.length = L.length) := by have := congrArg List.length hm; simp at this; exact this
      have HF := Lib.hid HBL.out.isF
      have hI : decide ((k : Int) < (L.length : Int)) = false := by simp; omega
      clear hr hm hkL
      go_wp2_with fail
      refine (string_any w2.heap.size (w2.heap.size + 1) xs wr HF.out HBW.out.size).mono ?_
      rintro e w5 ⟨rfl, _, hb5, _⟩
      have HB5 := Lib.hid (HBW.out.trans hb5)
      clear hb5
      go_wp2_with fail
      refine (tokens_any ⟨xs.toArray⟩ w5 (by show xs.toArray.size ≤ _; rw [List.size_toArray]; have := HXL.out; omega) (HP2.out.below HB5.out HP2.out.lt)).mono ?_
      rintro e w6 ⟨hb6, hT⟩
      rw [HR.out] at hT
      obtain ⟨v, rfl, ho⟩ := hT
      obtain ⟨A', cap', hv', hsl', _⟩ := slT_own ho
      rw [HRL.out] at hv'
      subst hv'
      have HS6 := Lib.hid hsl'
      have HB6 := Lib.hid (HB5.out.trans (hb6.mono HB5.out.size))
      clear hb6 hsl' ho
      go_wp2_with fail
      refine (same_true A' (some ⟨b, off, none⟩) cap' cap L.length r L _ HRL.out (by unfold maxLen; omega) (HS6.out.below ((Below.refl _ _).alloc (Nat.le_refl _) _)) (HSL.out.below (HB6.out.alloc HB6.out.size _)) HRM.out).mono ?_
      rintro e w7 ⟨rfl, q, rfl⟩
      have HFIN := Lib.hid (HB2.out.trans ((HB6.out.alloc HB6.out.size (.cells #[.int .i64 0, .int .i64 0] 23)).mono HB2.out.size))
      go_wp2
      go_ret
      exact ⟨rfl, below_drewN HFIN.out q⟩
end Go.Proofs.YthbcfcbonmphfaaDoor
