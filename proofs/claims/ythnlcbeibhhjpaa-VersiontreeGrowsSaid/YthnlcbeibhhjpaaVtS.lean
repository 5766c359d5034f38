/- Nearest: the program's. -/
import Derived.Carry
import Derived.Test.YthnlcbeibhhjpaaMapI
import Derived.Test.YthnlcbeibhhjpaaVtQ
namespace Go.Proofs.Ythnlcbeibhhjpaa
open Go.RowKit
set_option maxRecDepth 100000
/-- The deepest marked version on the way up, or none. -/
def NearP (Vs : List Vn) (M : List Int) (n : Nat) (r : Int × Int) : Prop :=
  (∃ k : Nat, r = ((k : Int), 0) ∧ AncV Vs k n ∧ (k : Int) ∈ M ∧ ∀ d : Nat, AncV Vs d n → (d : Int) ∈ M → AncV Vs d k) ∨ (r = (0, 12) ∧ ∀ d : Nat, AncV Vs d n → (d : Int) ∉ M)
theorem NearP.one {Vs : List Vn} (h : VsOk Vs) {M : List Int} {n : Nat} {r r' : Int × Int} (h1 : NearP Vs M n r) (h2 : NearP Vs M n r') : r = r' := by
  rcases h1 with ⟨k, rfl, a1, a2, a3⟩ | ⟨rfl, a1⟩
  · rcases h2 with ⟨k', rfl, b1, b2, b3⟩ | ⟨rfl, b1⟩
    · have e1 := (a3 k' b1 b2).le h
      have e2 := (b3 k a1 a2).le h
      have : k = k' := by omega
      rw [this]
    · exact absurd a2 (b1 k a1)
  · rcases h2 with ⟨k', rfl, b1, b2, b3⟩ | ⟨rfl, b1⟩
    · exact absurd b2 (a1 k' b1)
    · rfl
/-- A set of integers, as a map holds it. -/
def inM (l : List Int) : Int → Option Value := fun x => if x ∈ l then some (.agg #[]) else none
theorem inM_snoc (l : List Int) (s : Int) : (fun x => if x = s then some (.agg #[]) else inM l x) = inM (l ++ [s]) := by
  funext x
  unfold inM
  by_cases h1 : x = s
  · simp [h1]
  · simp [h1]
theorem inM_nil : (fun _ => none) = inM [] := by
  funext x
  simp [inM]
theorem zeroUnit (W : World) : (zeroValue 72).run Try.prog W = .ok (.agg #[]) W := Try.zeroValue72 W
/-- A list of marked versions that came in. -/
structure Mk (w : World) (AM : Option Addr) (cM q : Nat) (M : List Int) : Prop where
  len : M.length = q
  at' : IntsAt (· < w.heap.size) w AM M
  nil : AM = none → q = 0 ∧ cM = 0
theorem Mk.below {w w' : World} {AM : Option Addr} {cM q : Nat} {M : List Int} (h : Mk w AM cM q M) (hb : Below w.heap.size w w') : Mk w' AM cM q M := ⟨h.len, (h.at'.below hb).more fun b hx => by have := hb.size; omega, h.nil⟩
theorem Mk.news {w w' : World} {AM : Option Addr} {cM q : Nat} {M : List Int} (h : Mk w AM cM q M) (hb : Below w.heap.size w w') : ∀ ad, AM = some ad → ∀ j u, (M.map (Value.int .i64))[j]? = some u → w'.cell? (ad.add j) = some u := fun ad had j u hu => by
  rw [List.getElem?_map] at hu
  obtain ⟨y, hy, rfl⟩ := Option.map_eq_some_iff.1 hu
  obtain ⟨b, off, hA, hbl, hc⟩ := h.at' (by have := (List.getElem?_eq_some_iff.1 hy).1; omega)
  rw [had] at hA
  obtain rfl := Option.some.inj hA
  rw [addr_add]
  exact (hb.cell (p := ⟨b, off + j, none⟩) hbl).trans (hc j y hy)
set_option maxHeartbeats 8000000 in
theorem near_no (B x m q cM : Nat) (n : Int) (AM : Option Addr) (M : List Int) (Vs : List Vn) (w : World) (h : IxM B x Vs w) (hm : Vs.length = m) (_hml : m ≤ 1000) (hM : Mk w AM cM q M) (hq : q ≤ 1000) (hno : ¬ InV m (n :: M)) :
    Calls Try.prog 29 #[.pointer (some ⟨x, 0, none⟩), .slice AM q cM, .int .i64 n] w fun e w' => e = .returned (.tuple #[.int .i64 0, .int .i64 24]) ∧ Below w.heap.size w w' := by
  obtain ⟨⟨tl, G, cap, mv, E, hr, ht⟩, hok⟩ := h
  rw [hm] at hr
  obtain ⟨i1, hi1, hy0, hy1, hy2⟩ := info_parts Try.infoInt
  have HM := Lib.hid hM
  have HR := Lib.hid hr
  have HNO := Lib.hid hno
  have d1 : decide ((1000 : Int) < (q : Int)) = false := decide_eq_false (by omega)
  have hown : (w.alloc (.cells #[.int .i64 n] 3)).ownsRow w.heap.size 3 1 (.slice (some ⟨w.heap.size, 0, none⟩) 1 1) 1 ([n].map (Value.int .i64)) := World.ownsRow_lit (base := w.heap.size) (e := 3) (size := 1) w #[.int .i64 n] 1 (Nat.le_refl _) (by unfold maxLen; omega) rfl
  have HO := Lib.hid hown
  have HB1 : Hid (Below w.heap.size w (w.alloc (.cells #[.int .i64 n] 3))) := Lib.hid ((Below.refl _ _).alloc (Nat.le_refl _) _)
  clear hr ht hok hM hno hown hm
  go_enter Try.func29, Try.ntmps29
  go_wp2_with (at_builtin; refine wpList_app _ rfl (.tmp 21) (.tmp 22) 22 rfl w.heap.size 3 i1 _ 8 Try.underlying22 hi1 hy0 hy1 hy2 rfl w.heap.size 1 1 _ rfl HO.out AM q cM (M.map (Value.int .i64)) rfl (by rw [List.length_map, HM.out.len]) HM.out.nil (HM.out.news HB1.out) (ints_one _) (by unfold maxLen; omega) (by omega) (by simp) ?_)
  intro g2 cap2 w2 hown2 hgrow2
  have hb2 : Below w.heap.size w w2 := HB1.out.grown hgrow2 (by simp) (fun k' e => by have := Option.some.inj e; omega)
  have hrow2 : ORow w.heap.size w2 (some ⟨g2, 0, none⟩) cap2 (n :: M) := by unfold ORow; simpa [HM.out.len, Nat.add_comm] using hown2
  have HCK := Lib.hid (ixCheck_no (fun _ => True) x tl m cap (1 + q) cap2 G (some ⟨g2, 0, none⟩) (n :: M) w2 ((HR.out.below hb2).box) (by simp [HM.out.len]; omega) (by omega) (intsAt_own hrow2 (fun _ _ _ => trivial)) HNO.out)
  have HB2 := Lib.hid hb2
  clear hown2 hgrow2 hb2 hrow2
  go_wp2_with fail
  refine HCK.out.mono ?_
  rintro er w3 ⟨rfl, rfl⟩
  go_wp2_with fail
  go_ret2
  exact ⟨rfl, HB2.out⟩
set_option maxHeartbeats 4000000 in
theorem near_full (B x _m q cM : Nat) (n : Int) (AM : Option Addr) (Vs : List Vn) (w : World) (_h : IxM B x Vs w) (hq : 1000 < q) (hq2 : q ≤ 1000000) :
    Calls Try.prog 29 #[.pointer (some ⟨x, 0, none⟩), .slice AM q cM, .int .i64 n] w fun e w' => e = .returned (.tuple #[.int .i64 0, .int .i64 4]) ∧ Below w.heap.size w w' := by
  have d1 : decide ((1000 : Int) < (q : Int)) = true := decide_eq_true (by omega)
  clear _h hq
  go_enter Try.func29, Try.ntmps29
  go_wp2_with fail
  go_ret2
  exact ⟨rfl, Below.refl _ _⟩
set_option maxHeartbeats 8000000 in
theorem near_yes (B x m q cM n : Nat) (AM : Option Addr) (M : List Int) (Vs : List Vn) (w : World) (h : IxM B x Vs w) (hm : Vs.length = m) (hml : m ≤ 1000) (hM : Mk w AM cM q M) (hq : q ≤ 1000) (hn : n < m) (hin : InV m M) :
    Calls Try.prog 29 #[.pointer (some ⟨x, 0, none⟩), .slice AM q cM, .int .i64 (n : Int)] w fun e w' => (∃ r : Int × Int, e = .returned (.tuple #[.int .i64 r.1, .int .i64 r.2]) ∧ NearP Vs M n r) ∧ Below w.heap.size w w' := by
  obtain ⟨⟨tl, G, cap, mv, E, hr, ht⟩, hok⟩ := h
  rw [hm] at hr
  obtain ⟨g, cap', hvv, hg, hgl⟩ := hr.row.form (by omega)
  have hG : G = some ⟨g, 0, none⟩ := by injection hvv
  subst hG
  obtain ⟨i1, hi1, hy0, hy1, hy2⟩ := info_parts Try.infoInt
  have HM := Lib.hid hM
  have HR := Lib.hid hr
  have HOK := Lib.hid hok
  have HL := Lib.hid hm
  have HIN := Lib.hid hin
  have d1 : decide ((1000 : Int) < (q : Int)) = false := decide_eq_false (by omega)
  have hown : (w.alloc (.cells #[.int .i64 (n : Int)] 3)).ownsRow w.heap.size 3 1 (.slice (some ⟨w.heap.size, 0, none⟩) 1 1) 1 ([(n : Int)].map (Value.int .i64)) := World.ownsRow_lit (base := w.heap.size) (e := 3) (size := 1) w #[.int .i64 (n : Int)] 1 (Nat.le_refl _) (by unfold maxLen; omega) rfl
  have HO := Lib.hid hown
  have HB1 : Hid (Below w.heap.size w (w.alloc (.cells #[.int .i64 (n : Int)] 3))) := Lib.hid ((Below.refl _ _).alloc (Nat.le_refl _) _)
  have hxl := bdLt hr.box
  clear hr ht hok hM hown hm hin hvv
  go_enter Try.func29, Try.ntmps29
  have hmm := @run_makeMap Try.prog
  go_wp2_with (at_builtin; refine wpList_app _ rfl (.tmp 21) (.tmp 22) 22 rfl w.heap.size 3 i1 _ 8 Try.underlying22 hi1 hy0 hy1 hy2 rfl w.heap.size 1 1 _ rfl HO.out AM q cM (M.map (Value.int .i64)) rfl (by rw [List.length_map, HM.out.len]) HM.out.nil (HM.out.news HB1.out) (ints_one _) (by unfold maxLen; omega) (by omega) (by simp) ?_)
  intro g2 cap2 w2 hown2 hgrow2
  have hb2 : Below w.heap.size w w2 := HB1.out.grown hgrow2 (by simp) (fun k' e => by have := Option.some.inj e; omega)
  have hrow2 : ORow w.heap.size w2 (some ⟨g2, 0, none⟩) cap2 ((n : Int) :: M) := by unfold ORow; simpa [HM.out.len, Nat.add_comm] using hown2
  have HCK := Lib.hid (ixCheck_yes (fun _ => True) x tl m cap (1 + q) cap2 (some ⟨g, 0, none⟩) (some ⟨g2, 0, none⟩) ((n : Int) :: M) w2 ((HR.out.below hb2).box) (by simp [HM.out.len]; omega) (by omega) (intsAt_own hrow2 (fun _ _ _ => trivial)) (fun y hy => by
    rcases List.mem_cons.1 hy with rfl | hy
    · omega
    · exact HIN.out y hy))
  have HB2 := Lib.hid hb2
  have hz2 := hb2.size
  clear hown2 hgrow2 hb2 hrow2
  go_wp2_with fail
  refine HCK.out.mono ?_
  rintro er w3 ⟨rfl, rfl⟩
  have HI0 : Hid (IMap 3 (w2.alloc (.map #[] 0)) w2.heap.size 0 (inM [])) := Lib.hid (by rw [← inM_nil]; exact IMap.made _ w2)
  go_wp2_with fail
  go_loopw [31] (fun s31 wr => ∃ k : Nat, k ≤ q ∧ s31 = .int .i64 k ∧ IMap 3 wr w2.heap.size k (inM (M.take k)) ∧ Below w.heap.size w wr) (fun s31 _ => q - (intOf s31).toNat)
  case atStart => exact ⟨0, by omega, rfl, HI0.out, HB2.out.alloc hz2 _⟩
  case round =>
    obtain ⟨k, hk, rfl, him, hb⟩ := hrel
    have HIM := Lib.hid him
    have HB := Lib.hid hb
    have hsz := hb.size
    by_cases hlt : k < q
    · have hltI : (k : Int) < (q : Int) := by omega
      obtain ⟨y, hy⟩ : ∃ y, M[k]? = some y := ⟨M[k]'(by rw [HM.out.len]; exact hlt), List.getElem?_eq_getElem _⟩
      obtain ⟨b, off, hA, hbl, y0⟩ := (HM.out.at'.below hb).get hy
      have hyb := HIN.out y (List.mem_of_getElem? hy)
      obtain ⟨w', hrun, him', hgr⟩ := him.update Try.underlying3 Try.underlying71 (show k < maxLen by unfold maxLen; omega) (s := y) (wf_i64 (by omega) (by omega)) (.agg #[])
      have HTK : Hid (M.take (k + 1) = M.take k ++ [y]) := Lib.hid (by rw [List.take_add_one, hy]; rfl)
      rw [inM_snoc] at him'
      have HIM' := Lib.hid him'
      have HGR := Lib.hid hgr
      subst hA
      clear him hb hy hyb him' hgr
      go_wp2_with fail
      go_roundw
      case rel => exact ⟨k + 1, by omega, by go_num, by rw [HTK.out]; exact HIM'.out, HB.out.grown HGR.out (by omega) (fun k' e => by have := Option.some.inj e; omega)⟩
      case measure => simp [intOf]; omega
    · obtain rfl : k = q := by omega
      rw [List.take_of_length_le (by rw [HM.out.len]; exact Nat.le_refl _)] at HIM
      obtain ⟨wo, rfl⟩ : ∃ wo, wo = wr := ⟨_, rfl⟩
      clear him hb
      go_wp2_with fail
      go_loopw [2] (fun s2 wr => ((s2 = .int .i64 (-1) ∧ ∀ d : Nat, AncV Vs d n → (d : Int) ∉ M) ∨ ∃ y : Nat, s2 = .int .i64 y ∧ y < m ∧ AncV Vs y n ∧ ∀ d : Nat, AncV Vs d n → (d : Int) ∈ M → AncV Vs d y) ∧ Below wo.heap.size wo wr) (fun s2 _ => (intOf s2 + 1).toNat)
      case atStart => exact ⟨Or.inr ⟨n, rfl, hn, .refl, fun d h _ => h⟩, Below.refl _ _⟩
      case round =>
        obtain ⟨hrel, hbo⟩ := hrel
        have HBO := Lib.hid hbo
        have hszo := hbo.size
        have hbw : Below w.heap.size w wr := HB.out.trans (hbo.mono hsz)
        have HBW := Lib.hid hbw
        rcases hrel with ⟨rfl, hno⟩ | ⟨y, rfl, hy, hya, hyd⟩
        · have HNO := Lib.hid hno
          clear hno hbo hbw
          go_wp2_with fail
          go_ret2
          exact ⟨⟨(0, 12), rfl, Or.inr ⟨rfl, HNO.out⟩⟩, HBW.out⟩
        · have HYA := Lib.hid hya
          have HYD := Lib.hid hyd
          have hy0 : (0 : Int) ≤ (y : Int) := by omega
          have hyI : (y : Int) < (m : Int) := by omega
          have him := HIM.out.below hbo HIM.out.lt
          have hlk := him.lookup Try.underlying3 Try.underlying71 (zeroUnit wr) (s := (y : Int)) (wf_i64 (by omega) (by omega))
          obtain ⟨v, hv⟩ : ∃ v, Vs[y]? = some v := ⟨Vs[y]'(by rw [HL.out]; exact hy), List.getElem?_eq_getElem _⟩
          have hrw := HR.out.below hbw
          obtain ⟨x0, _, _⟩ := vn_at hrw.row HL.out hv
          obtain ⟨⟨b0, b1⟩, _, _⟩ := bk2 hrw.box
          have hgw : g < wr.heap.size := by have := hbw.size; omega
          have hxw : x < wr.heap.size := by have := hbw.size; omega
          obtain ⟨d, hd⟩ : ∃ d, d = v.1 := ⟨_, rfl⟩
          rw [← hd] at x0
          have HD := Lib.hid hd
          have HV := Lib.hid hv
          by_cases hyM : (y : Int) ∈ M
          · have HYM := Lib.hid hyM
            rw [show inM M (y : Int) = some (.agg #[]) by simp [inM, hyM]] at hlk
            simp only [Option.getD_some, Option.isSome_some] at hlk
            clear hya hyd hbo hbw him hrw hd hv hyM
            go_wp2_with fail
            go_ret2
            exact ⟨⟨((y : Int), 0), rfl, Or.inl ⟨y, rfl, HYA.out, HYM.out, HYD.out⟩⟩, HBW.out.alloc (by have := HBW.out.size; omega) _⟩
          · have HYM := Lib.hid hyM
            rw [show inM M (y : Int) = none by simp [inM, hyM]] at hlk
            simp only [Option.getD_none, Option.isSome_none] at hlk
            clear hya hyd hbo hbw him hrw hd hv hyM
            go_wp2_with fail
            go_roundw
            case rel =>
              refine ⟨?_, HBO.out.alloc hszo _⟩
              by_cases hy00 : y = 0
              · subst hy00
                left
                have h1 := HV.out
                rw [HOK.out.root] at h1
                have h2 := Option.some.inj h1
                refine ⟨by rw [HD.out, ← h2], fun dd h3 h4 => ?_⟩
                have h5 := (HYD.out dd h3 h4).le HOK.out
                obtain rfl : dd = 0 := by omega
                exact HYM.out h4
              · right
                obtain ⟨p, j, u, e1, e2, _⟩ := HOK.out.rest y v HV.out (by omega)
                exact ⟨p, by rw [HD.out, e1], by omega, (AncV.step HV.out e1 .refl).trans HYA.out, fun dd h1 h2 => (HYD.out dd h1 h2).up HV.out e1 (fun e => HYM.out (e ▸ h2))⟩
            case measure =>
              have : d < (y : Int) := by
                rw [HD.out]
                by_cases hy00 : y = 0
                · subst hy00
                  have h1 := HV.out
                  rw [HOK.out.root] at h1
                  have h2 := Option.some.inj h1
                  rw [← h2]; decide
                · obtain ⟨p, j, u, e1, e2, _⟩ := HOK.out.rest y v HV.out (by omega)
                  omega
              simp [intOf]; omega
end Go.Proofs.Ythnlcbeibhhjpaa
