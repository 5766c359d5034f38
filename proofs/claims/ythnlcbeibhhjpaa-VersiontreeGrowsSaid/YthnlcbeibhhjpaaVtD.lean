/- Trees of versions: Euler, by its closure that calls itself. -/
import Derived.Laws.EntriesVeiled
import Derived.Test.YthnlcbeibhhjpaaVtC
namespace Go.Proofs.Ythnlcbeibhhjpaa
open Go.RowKit
set_option maxRecDepth 100000
/-- The Euler tour of what is below a version. -/
def eulF (P : List Int) (n : Nat) : Nat → Nat → List Int
  | 0, _ => []
  | f + 1, k => (k : Int) :: ((chI P n k).flatMap (fun c => eulF P n f c.toNat) ++ [(k : Int)])
theorem chI_mem {P : List Int} (hv : VP P) {n k : Nat} {x : Int} (h : x ∈ chI P n k) : ∃ t : Nat, x = (t : Int) ∧ k < t ∧ t < n := by
  unfold chI at h
  obtain ⟨t, ht, rfl⟩ := List.mem_map.1 h
  rw [List.mem_filter] at ht
  obtain ⟨h1, h2⟩ := ht
  simp only [Bool.and_eq_true, decide_eq_true_eq, beq_iff_eq] at h2
  obtain ⟨t', rfl⟩ : ∃ t', t = t' + 1 := ⟨t - 1, by omega⟩
  have := (hv.par t' _ h2.2).2
  exact ⟨t' + 1, rfl, by omega, by simpa using h1⟩
/-- The closure's value. -/
def visV (B : Nat) : Value := .func (.func 38) #[] #[.pointer (some ⟨B + 1, 0, none⟩), .pointer (some ⟨B, 0, none⟩), .pointer (some ⟨B + 2, 0, none⟩)]
/-- The closure's variables, while it runs. -/
structure EuS (B rb n : Nat) (W0 : World) (A : Option Addr) (c : Nat) (T : List Int) (W : World) : Prop where
  bb : W.heap[B]? = some (.cells #[.slice (some ⟨rb, 0, none⟩) n n] 59 (0, 0))
  tb : W.heap[B + 1]? = some (.cells #[.slice A T.length c] 22 (0, 0))
  vb : W.heap[B + 2]? = some (.cells #[visV B] 61 (0, 0))
  row : W.ownsRow (B + 3) 3 1 (.slice A T.length c) T.length (T.map (Value.int .i64))
  bel : Below B W0 W
  hsz : B + 3 ≤ W.heap.size
theorem EuS.far {B rb n : Nat} {W0 : World} {A : Option Addr} {c : Nat} {T : List Int} {W W6 : World} {o : Obj} (h : EuS B rb n W0 A c T W) {q : Nat} (hg : (W.alloc o).grownBy W6 (Value.slice A q c).ownBlock) {b : Nat} (hb : b < B + 3) : W6.heap[b]? = W.heap[b]? := by
  have hs := h.hsz
  rw [hg.block b (by simp; omega) (fun e => by
    have e' : (Value.slice A T.length c).ownBlock = some b := by 
      have he := e.symm
      cases A with
      | none => simp [Value.ownBlock] at he
      | some a => simpa [Value.ownBlock] using he
    have := (h.row.lt b e').1
    omega), Below.heap_alloc _ _ _ (by omega)]
theorem EuS.push {B rb n g2 cap2 q : Nat} {W0 : World} {A : Option Addr} {c : Nat} {T : List Int} {W W6 : World} {o : Obj} {x : Int} (h : EuS B rb n W0 A c T W) (hq : q = T.length) (hg : (W.alloc o).grownBy W6 (Value.slice A q c).ownBlock)
    (hown : W6.ownsRow (B + 3) 3 1 (.slice (some ⟨g2, 0, none⟩) (q + 1) cap2) (q + 1) ((T ++ [x]).map (Value.int .i64))) : EuS B rb n W0 (some ⟨g2, 0, none⟩) cap2 (T ++ [x]) (W6.setCell ⟨B + 1, 0, none⟩ (.slice (some ⟨g2, 0, none⟩) (q + 1) cap2)) := by
  subst hq
  have hs := h.hsz
  have hz : W.heap.size ≤ W6.heap.size := by have := hg.size; simp at this; omega
  have hl : (T ++ [x]).length = T.length + 1 := by simp
  refine ⟨?_, ?_, ?_, ?_, ?_, by simp; omega⟩
  · rw [heap_off (by omega), h.far hg (by omega)]; exact h.bb
  · rw [heap_set W6 (B + 1) 0 _ ((h.far hg (by omega)).trans h.tb), hl]; rfl
  · rw [heap_off (by omega), h.far hg (by omega)]; exact h.vb
  · rw [hl]
    refine ownsRow_heap hown fun b hb => heap_off fun e => ?_
    have := (hown.lt b hb).1
    omega
  · exact ((h.bel.alloc (by omega) o).grown hg (by simp; omega) (fun k hk => by have := (h.row.lt k hk).1; omega)).setCell (p := ⟨B + 1, 0, none⟩) (by simp) _
theorem eulF_len (P : List Int) (n f k : Nat) : (eulF P n (f + 1) k).length = ((chI P n k).flatMap (fun c => eulF P n f c.toNat)).length + 2 := by
  show ((k : Int) :: (_ ++ [(k : Int)])).length = _
  rw [List.length_cons, List.length_append]
  rfl
/-- What a visit leaves. -/
def VisP (B rb n : Nat) (W0 : World) (T : List Int) (er : Ending) (w' : World) : Prop := er = .returned (.tuple #[]) ∧ ∃ A c, EuS B rb n W0 A c T w'
theorem flat_take {α β : Type} {l : List α} {j : Nat} {a : α} (h : l[j]? = some a) (f : α → List β) : (l.take (j + 1)).flatMap f = (l.take j).flatMap f ++ f a := by
  rw [List.take_add_one, h, Option.toList_some, List.flatMap_append]
  simp
theorem flat_le {α β : Type} (l : List α) (j : Nat) (f : α → List β) : ((l.take j).flatMap f).length ≤ (l.flatMap f).length := by
  conv => rhs; rw [← List.take_append_drop j l, List.flatMap_append, List.length_append]
  omega
set_option maxHeartbeats 8000000 in
theorem visit_any (P : List Int) (n B Bc rb : Nat) (V : Nat → Value) (W0 : World) (hv : VP P) (hn : P.length = n) (hW0 : W0.heap.size = B) (hch : ChO Bc rb n V (fun i => chI P n i) W0) :
    ∀ (f k : Nat) (T : List Int) (A : Option Addr) (c : Nat) (W : World), n - k < f → k < n → EuS B rb n W0 A c T W → T.length + (eulF P n f k).length ≤ 4000 →
    Calls Try.prog 38 #[.int .i64 (k : Int), .pointer (some ⟨B + 1, 0, none⟩), .pointer (some ⟨B, 0, none⟩), .pointer (some ⟨B + 2, 0, none⟩)] W (VisP B rb n W0 (T ++ eulF P n f k))
  | 0, k, T, A, c, W, hf, hk, h, hl => by omega
  | f + 1, k, T, A, c, W, hf, hk, h, hl => by
    have IH := Lib.hid (visit_any P n B Bc rb V W0 hv hn hW0 hch f)
    have HCH := Lib.hid hch
    have HV := Lib.hid hv
    have hnl : n ≤ 1000 := by have := hv.le; omega
    have hkI : (k : Int) < (n : Int) := by omega
    have HL := Lib.hid hl
    have hlT : T.length ≤ 4000 := by omega
    have HS0 := Lib.hid h
    obtain ⟨i1, hi1, hy0, hy1, hy2⟩ := info_parts Try.infoInt
    have hsz := h.hsz
    obtain ⟨a0, f0⟩ := bk1 h.tb
    obtain ⟨q, hq⟩ : ∃ q, q = T.length := ⟨_, rfl⟩
    rw [← hq] at a0 hlT
    have HQ := Lib.hid hq
    have HROW : Hid (W.ownsRow (B + 3) 3 1 (.slice A q c) q (T.map (Value.int .i64))) := Lib.hid (by rw [hq]; exact h.row)
    clear h hq hl hch hv hn
    go_enter Try.func38, Try.ntmps38
    go_wp2_with (at_builtin; refine wpList_append_lies _ rfl (.tmp 7) (.tmp 9) 22 rfl (B + 3) 3 i1 _ 1 8 Try.underlying22 hi1 hy0 hy1 hy2 rfl (by decide) (.slice A q c) q (T.map (Value.int .i64)) rfl (HROW.out.alloc _) ⟨W.heap.size, 0, none⟩ 1 1 [.int .i64 (k : Int)] rfl rfl (World.news_of_block (cs := #[.int .i64 (k : Int)]) (t := 3) (fr := (0, 0)) (heap_alloc_new W _)) (by simp [Value.oneCell']) (by omega) (by unfold maxLen; omega) (by omega) (by simp; omega) (W.heap.size + 1) (by simp) ?_)
    intro g2 cap2 W6 hown6 hgrow6 hat6 hlt6
    obtain ⟨a1, f1⟩ := bk1 ((HS0.out.far hgrow6 (b := B + 1) (by omega)).trans HS0.out.tb)
    obtain ⟨b0', _⟩ := bk1 ((HS0.out.far hgrow6 (b := B) (by omega)).trans HS0.out.bb)
    have HS6 := Lib.hid (HS0.out.push (x := (k : Int)) HQ.out hgrow6 (by simpa using hown6))
    clear hown6 hgrow6 hat6 hlt6 a0 f0
    obtain ⟨W7, hW7⟩ : ∃ W7, W7 = W6.setCell ⟨B + 1, 0, none⟩ (.slice (some ⟨g2, 0, none⟩) (q + 1) cap2) := ⟨_, rfl⟩
    rw [← hW7] at HS6
    have HW7 := Lib.hid hW7
    obtain ⟨Ak, ck, hVk, hrk⟩ := HCH.out.row k (by omega)
    obtain ⟨m, hm⟩ : ∃ m, m = (chI P n k).length := ⟨_, rfl⟩
    rw [← hm] at hVk hrk
    have HM := Lib.hid hm
    have hml : m ≤ 1000 := by have := chI_len P n k; omega
    have hrbl : rb < B := by have := (HCH.out.out.lt rb rfl).2; omega
    have z0 : W0.cell? ⟨rb, k, none⟩ = some (V k) := by
      have := HCH.out.out.cellAt k (by omega)
      rw [List.getElem?_map, List.getElem?_range hk] at this
      exact this
    rw [hVk] at z0 hrk
    have HRK := Lib.hid hrk
    have Z0 := Lib.hid z0
    clear hm hVk hrk z0 hW7
    have y0 := (HS6.out.bel.cell (p := ⟨rb, k, none⟩) hrbl).trans Z0.out
    have y0' : W6.cell? ⟨rb, k, none⟩ = some (.slice Ak m ck) := by
      have := y0
      rw [HW7.out, World.cell?_of_block (w := W6) (heap_off (by show rb ≠ B + 1; omega))] at this
      exact this
    have hrb1 : rb ≠ B + 1 := by omega
    have hB1 : B ≠ B + 1 := by omega
    clear y0
    go_wp2_with fail
    rw [← HW7.out]
    clear a1 f1 b0' y0'
    go_loopw [16] (fun s16 wr => ∃ (j c' : Nat) (A' : Option Addr), j ≤ m ∧ s16 = .int .i64 j ∧ EuS B rb n W0 A' c' (T ++ (k : Int) :: ((chI P n k).take j).flatMap (fun c => eulF P n f c.toNat)) wr) (fun s16 _ => m - (intOf s16).toNat)
    case atStart => exact ⟨0, cap2, some ⟨g2, 0, none⟩, by omega, rfl, by simpa using HS6.out⟩
    case round =>
      obtain ⟨j, c', A', hj, rfl, hs⟩ := hrel
      have HS := Lib.hid hs
      clear hs
      by_cases hlt : j < m
      · have hltI : (j : Int) < (m : Int) := by omega
        obtain ⟨x, hx⟩ : ∃ x, (chI P n k)[j]? = some x := ⟨(chI P n k)[j]'(by rw [← HM.out]; exact hlt), List.getElem?_eq_getElem _⟩
        obtain ⟨t, rfl, hkt, htn⟩ := chI_mem HV.out (List.mem_of_getElem? hx)
        obtain ⟨g, cp', hvv, hg, hgl⟩ := HRK.out.form (by omega)
        have hAk : Ak = some ⟨g, 0, none⟩ := by injection hvv
        subst hAk
        have y1 := HRK.out.cellAt j (by omega)
        rw [List.getElem?_map, hx] at y1
        have y2 := (HS.out.bel.cell (p := ⟨g, j, none⟩) (show g < B by omega)).trans y1
        obtain ⟨v0, vf0⟩ := bk1 HS.out.vb
        unfold visV at v0
        have hft := flat_take hx (fun c => eulF P n f c.toNat)
        have HFT := Lib.hid hft
        have hfl := flat_le (chI P n k) (j + 1) (fun c => eulF P n f c.toNat)
        have hlen : (T ++ (k : Int) :: ((chI P n k).take j).flatMap (fun c => eulF P n f c.toNat)).length + (eulF P n f t).length ≤ 4000 := by
          have h1 := HL.out
          rw [hft, List.length_append] at hfl
          rw [eulF_len] at h1
          rw [List.length_append, List.length_cons]
          simp only [Int.toNat_natCast] at hfl
          omega
        have HC := Lib.hid (IH.out t _ A' c' wr (by omega) htn HS.out hlen)
        clear hx hvv y1 hft hfl hlen
        go_wp2_with fail
        refine HC.out.mono ?_
        rintro er w8 ⟨rfl, A8, c8, hs8⟩
        have HS8 := Lib.hid hs8
        clear hs8 HC
        go_wp2_with fail
        go_roundw
        case rel => exact ⟨j + 1, c8, A8, by omega, by go_num, by rw [HFT.out, Int.toNat_natCast]; simpa using HS8.out⟩
        case measure => simp [intOf]; omega
      · have hjm : j = m := by omega
        have hs := HS.out
        rw [hjm, HM.out, List.take_length] at hs
        have HS9 := Lib.hid hs
        clear hs HS
        obtain ⟨T9, hT9⟩ : ∃ T9, T9 = T ++ (k : Int) :: (chI P n k).flatMap (fun c => eulF P n f c.toNat) := ⟨_, rfl⟩
        rw [← hT9] at HS9
        have hl9 : T9.length ≤ 4000 := by
          have h1 := HL.out
          rw [eulF_len] at h1
          rw [hT9, List.length_append, List.length_cons]
          omega
        have HT9 := Lib.hid hT9
        obtain ⟨q9, hq9⟩ : ∃ q9, q9 = T9.length := ⟨_, rfl⟩
        obtain ⟨a2, f2⟩ := bk1 HS9.out.tb
        have hr9 := HS9.out.row
        rw [← hq9] at a2 hl9 hr9
        have HQ9 := Lib.hid hq9
        have HR9 := Lib.hid hr9
        have hsz9 := HS9.out.hsz
        clear hT9 hq9 hr9 hjm
        go_wp2_with (at_builtin; refine wpList_append_lies _ rfl (.tmp 24) (.tmp 26) 22 rfl (B + 3) 3 i1 _ 1 8 Try.underlying22 hi1 hy0 hy1 hy2 rfl (by decide) (.slice A' q9 c') q9 (T9.map (Value.int .i64)) rfl (HR9.out.alloc _) ⟨wr.heap.size, 0, none⟩ 1 1 [.int .i64 (k : Int)] rfl rfl (World.news_of_block (cs := #[.int .i64 (k : Int)]) (t := 3) (fr := (0, 0)) (heap_alloc_new wr _)) (by simp [Value.oneCell']) (by omega) (by unfold maxLen; omega) (by omega) (by simp; omega) (wr.heap.size + 1) (by simp) ?_)
        intro g3 cap3 W10 hown10 hgrow10 hat10 hlt10
        obtain ⟨a3, f3⟩ := bk1 ((HS9.out.far hgrow10 (b := B + 1) (by omega)).trans HS9.out.tb)
        have HS11 := Lib.hid (HS9.out.push (x := (k : Int)) HQ9.out hgrow10 (by simpa using hown10))
        clear hown10 hgrow10 hat10 hlt10 a2 f2
        go_wp2_with fail
        go_end0
        refine ⟨rfl, some ⟨g3, 0, none⟩, cap3, ?_⟩
        have := HS11.out
        rw [HT9.out, List.append_assoc, List.cons_append] at this
        exact this
set_option maxHeartbeats 8000000 in
theorem euler_yes (A : Option Addr) (cap n : Nat) (P : List Int) (w : World) (hn : P.length = n) (hc : n ≤ cap) (hcm : cap ≤ maxLen) (h : IntsAt (· < w.heap.size) w A P) (hv : VP P) (hl : (eulF P n (n + 1) 0).length ≤ 4000) :
    Calls Try.prog 13 #[.agg #[.slice A n cap]] w fun e w' => (∃ A' cp, e = .returned (.tuple #[.slice A' (eulF P n (n + 1) 0).length cp, .int .i64 0]) ∧ w'.ownsRow w.heap.size 3 1 (.slice A' (eulF P n (n + 1) 0).length cp) (eulF P n (n + 1) 0).length ((eulF P n (n + 1) 0).map (Value.int .i64))) ∧ Below w.heap.size w w' := by
  have hI1 : IntsAt (· < (w.alloc (.cells #[.slice A n cap] 24)).heap.size) (w.alloc (.cells #[.slice A n cap] 24)) A P := (h.below ((Below.refl _ _).alloc (Nat.le_refl _) _)).more fun b hb => by simp; omega
  have HVA := Lib.hid (valid_yes A cap n P _ hn hc hcm hI1 hv)
  have hI2 : IntsAt (· < ((w.alloc (.cells #[.slice A n cap] 24)).alloc (.cells #[.slice A n cap] 24)).heap.size) ((w.alloc (.cells #[.slice A n cap] 24)).alloc (.cells #[.slice A n cap] 24)) A P := (hI1.below ((Below.refl _ _).alloc (Nat.le_refl _) _)).more fun b hb => by simp at hb ⊢; omega
  have HCH := Lib.hid (children_any A cap n P _ hn hc hcm hI2 hv)
  have HV := Lib.hid hv
  have HN := Lib.hid hn
  have HL := Lib.hid hl
  have hn1 := hv.pos
  have hn1' : 0 < n := by omega
  clear h hv hn hl hI1 hI2
  go_enter Try.func13, Try.ntmps13
  go_wp2_with fail
  refine HVA.out.mono ?_
  rintro er w1 ⟨rfl, rfl⟩
  go_wp2_with fail
  refine HCH.out.mono ?_
  rintro er w2 ⟨rb, V, rfl, hch, hb2⟩
  have HC2 := Lib.hid hch
  have HB2 := Lib.hid hb2
  have hz2 := hb2.size
  simp at hz2
  have hs0 : EuS w2.heap.size rb n w2 none 0 [] (((w2.alloc (.cells #[.slice (some ⟨rb, 0, none⟩) n n] 59)).alloc (.cells #[.slice none 0 0] 22)).alloc (.cells #[visV w2.heap.size] 61)) := by
    refine ⟨bdOld (bdOld (bdNew _ _)), ?_, ?_, World.ownsRow_nil _ _ _ _, ((Below.refl _ _).alloc (Nat.le_refl _) _ |>.alloc (by simp) _ |>.alloc (by simp; omega) _), by simp⟩
    · have := bdNew (w2.alloc (.cells #[.slice (some ⟨rb, 0, none⟩) n n] 59)) (.cells #[.slice none 0 0] 22)
      rw [show (w2.alloc (.cells #[.slice (some ⟨rb, 0, none⟩) n n] 59)).heap.size = w2.heap.size + 1 by simp] at this
      exact bdOld this
    · have := bdNew ((w2.alloc (.cells #[.slice (some ⟨rb, 0, none⟩) n n] 59)).alloc (.cells #[.slice none 0 0] 22)) (.cells #[visV w2.heap.size] 61)
      rw [show ((w2.alloc (.cells #[.slice (some ⟨rb, 0, none⟩) n n] 59)).alloc (.cells #[.slice none 0 0] 22)).heap.size = w2.heap.size + 2 by simp] at this
      exact this
  have HVI := Lib.hid (visit_any P n w2.heap.size _ rb V w2 HV.out HN.out rfl hch (n + 1) 0 [] none 0 _ (by omega) hn1' hs0 (by simpa using HL.out))
  clear hch hb2 hs0
  go_wp2_with fail
  refine HVI.out.mono ?_
  rintro er w3 ⟨rfl, A', c', hs⟩
  have HS := Lib.hid hs
  rw [List.nil_append] at HS
  obtain ⟨a0, f0⟩ := bk1 HS.out.tb
  clear hs
  go_wp2_with fail
  go_ret2
  refine ⟨⟨A', c', rfl, ?_⟩, ((((Below.refl _ _).alloc (Nat.le_refl _) _).alloc (by simp) _).trans (HB2.out.mono (by simp; omega))).trans (HS.out.bel.mono (by omega))⟩
  have := HS.out.row
  refine ⟨this.1, ?_⟩
  rcases this.2 with hh | ⟨g', c'', cur, hv', hB', rest⟩
  · exact Or.inl hh
  · exact Or.inr ⟨g', c'', cur, hv', by omega, rest⟩
end Go.Proofs.Ythnlcbeibhhjpaa
