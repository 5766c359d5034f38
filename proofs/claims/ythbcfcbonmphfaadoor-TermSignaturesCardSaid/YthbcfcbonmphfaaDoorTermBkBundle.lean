/- The reference's Is, Wrong and Parsed; a term's text is read again. -/
import Derived.IntWalk
import Derived.Test.YthbcfcbonmphfaaDoorTermTBundle
import Derived.Test.YthbcfcbonmphfaaDoorTermPathBundle
import Derived.Test.YthbcfcbonmphfaaDoorTermTxBundle
namespace Go.Proofs.YthbcfcbonmphfaaDoor
open Go.RowKit Go.Shelf
set_option maxRecDepth 100000

def tkW (t : Tk) : Value := .agg #[.int .i64 t.k, .string ⟨t.t.toArray⟩, .int .i64 t.n, .int .i64 t.a, .int .i64 t.b]
set_option maxHeartbeats 1000000 in
theorem Is_any (t : Tk) (b : ByteArray) (s : List UInt8) (hb : b.toList = s) (w : World) :
    Calls Tryd.prog 129 #[tkW t, .int .i64 4, .string b] w fun e w' => e = .returned (.bool (decide (sym t s))) ∧ Below w.heap.size w w' := by
  have HB := Lib.hid ((Below.refl w.heap.size w).alloc (Nat.le_refl _) (.cells #[.int .i64 t.k, .string ⟨t.t.toArray⟩, .int .i64 t.n, .int .i64 t.a, .int .i64 t.b] 25))
  obtain ⟨⟨x0, x1, x2, x3, x4⟩, _⟩ := blk5 (heap_alloc_new w (.cells #[.int .i64 t.k, .string ⟨t.t.toArray⟩, .int .i64 t.n, .int .i64 t.a, .int .i64 t.b] 25))
  unfold tkW
  by_cases hk : t.k = 4
  · have h1 : (t.k == 4) = true := by rw [hk]; rfl
    by_cases ht : t.t = s
    · have h2 : (t.t == b.toList) = true := by rw [hb, ht]; exact beq_self_eq_true _
      have HR := Lib.hid (decide_eq_true (show sym t s from ⟨hk, ht⟩))
      clear hk ht hb
      go_enter Tryd.func129, Tryd.ntmps129
      go_wp2_with fail
      go_ret
      exact ⟨ret_bool (by rw [HR.out]), HB.out⟩
    · have h2 : (t.t == b.toList) = false := beq_eq_false_iff_ne.2 (by rw [hb]; exact ht)
      have HR := Lib.hid (decide_eq_false (show ¬ sym t s from fun h => ht h.2))
      clear hk ht hb
      go_enter Tryd.func129, Tryd.ntmps129
      go_wp2_with fail
      go_ret
      exact ⟨ret_bool (by rw [HR.out]), HB.out⟩
  · have h1 : (t.k == 4) = false := beq_eq_false_iff_ne.2 hk
    have HR := Lib.hid (decide_eq_false (show ¬ sym t s from fun h => hk h.1))
    clear hk hb
    go_enter Tryd.func129, Tryd.ntmps129
    go_wp2_with fail
    go_ret
    exact ⟨ret_bool (by rw [HR.out]), HB.out⟩
def wrongK (t : Tk) : Int := if t.k = 5 then 8 else 7
set_option maxHeartbeats 1000000 in
theorem Wrong_any (t : Tk) (w : World) :
    Calls Tryd.prog 90 #[tkW t] w fun e w' => e = .returned (.int .i64 (wrongK t)) ∧ Below w.heap.size w w' := by
  have HB := Lib.hid ((Below.refl w.heap.size w).alloc (Nat.le_refl _) (.cells #[.int .i64 t.k, .string ⟨t.t.toArray⟩, .int .i64 t.n, .int .i64 t.a, .int .i64 t.b] 25))
  unfold tkW
  by_cases hk : t.k = 5
  · have h1 : (t.k == 5) = true := by rw [hk]; rfl
    have HR : Hid (wrongK t = 8) := Lib.hid (by unfold wrongK; rw [if_pos hk])
    clear hk
    go_enter Tryd.func90, Tryd.ntmps90
    go_wp2_with fail
    go_ret
    exact ⟨by rw [HR.out]; rfl, HB.out⟩
  · have h1 : (t.k == 5) = false := beq_eq_false_iff_ne.2 hk
    have HR : Hid (wrongK t = 7) := Lib.hid (by unfold wrongK; rw [if_neg hk])
    clear hk
    go_enter Tryd.func90, Tryd.ntmps90
    go_wp2_with fail
    go_ret
    exact ⟨by rw [HR.out]; rfl, HB.out⟩

theorem tk_at {w W : World} {tb tq k : Nat} {L : List Tk} {x : Tk} (hb : Below w.heap.size w W) (hT : TkAt w tb tq L) (hlt : tb < w.heap.size) (hx : L[k]? = some x) :
    W.cell? ⟨tb, tq + k * 5, none⟩ = some (.int .i64 x.k) ∧ W.cell? ⟨tb, tq + k * 5 + 1, none⟩ = some (.string ⟨x.t.toArray⟩) ∧ W.cell? ⟨tb, tq + k * 5 + 2, none⟩ = some (.int .i64 x.n) ∧ W.cell? ⟨tb, tq + k * 5 + 3, none⟩ = some (.int .i64 x.a) ∧ W.cell? ⟨tb, tq + k * 5 + 4, none⟩ = some (.int .i64 x.b) := by
  obtain ⟨c0, c1, c2, c3, c4⟩ := hT k x hx
  exact ⟨(hb.cell (p := ⟨tb, _, none⟩) hlt).trans c0, (hb.cell (p := ⟨tb, _, none⟩) hlt).trans c1, (hb.cell (p := ⟨tb, _, none⟩) hlt).trans c2, (hb.cell (p := ⟨tb, _, none⟩) hlt).trans c3, (hb.cell (p := ⟨tb, _, none⟩) hlt).trans c4⟩
theorem ends_at {L : List Tk} {k : Nat} (h : EndsK (L.drop k)) : ∃ x, L[k]? = some x ∧ k < L.length ∧ L.drop k = x :: L.drop (k + 1) := by
  obtain ⟨x, r, e⟩ := h.ne
  have hk : k < L.length := by
    rcases Nat.lt_or_ge k L.length with h | h
    · exact h
    · rw [List.drop_eq_nil_of_le h] at e; cases e
  exact ⟨L[k], List.getElem?_eq_getElem hk, hk, List.drop_eq_getElem_cons hk⟩
theorem ends_next {L : List Tk} {k : Nat} {x : Tk} (h : EndsK (L.drop k)) (hx : L[k]? = some x) (hk : x.k ≠ 5) : EndsK (L.drop (k + 1)) := by
  obtain ⟨y, hy, _, e⟩ := ends_at h
  rw [hx] at hy
  injection hy with hy
  subst hy
  rw [e] at h
  obtain ⟨_, _, _, h2⟩ := h.tail hk
  exact h2

/-- What Parsed hands back. -/
def PdPost (L : List Tk) (k : Nat) (w : World) (e : Ending) (w' : World) : Prop :=
  Below w.heap.size w w' ∧ ∃ k' : Nat, k ≤ k' ∧ k' < L.length ∧ EndsK (L.drop k') ∧
    ((∃ t A c, k < k' ∧ PT (L.drop k) (some t) (L.drop k') ∧ e = .returned (.tuple #[TV t A c, .int .i64 k', .bool true]) ∧ TX (fun b => w.heap.size ≤ b ∧ b < w'.heap.size) w' t A) ∨
     (PT (L.drop k) none (L.drop k') ∧ e = .returned (.tuple #[TV0, .int .i64 k', .bool false])))
/-- What holds at the head of its loop. -/
def PdInv (L : List Tk) (k0 : Nat) (nm : ByteArray) (w : World) (g : Nat) (at' : Value) (wr : World) : Prop :=
  ∃ (j : Nat) (ks : List Kid) (v : Value), at' = .int .i64 j ∧ L.length - j ≤ g ∧ EndsK (L.drop j) ∧ k0 ≤ j ∧ ks.length ≤ j ∧ Below w.heap.size w wr ∧
    wr.heap[w.heap.size]? = some (.cells #[.string ⟨#[]⟩, .string ⟨#[]⟩, .slice none 0 0] 56 (0, 0)) ∧
    wr.heap[w.heap.size + 1]? = some (.cells #[.string nm, .string ⟨#[]⟩, v] 56 (0, 0)) ∧
    wr.ownsRow (w.heap.size + 2) 56 3 v ks.length (kidsC ks) ∧ w.heap.size + 2 ≤ wr.heap.size ∧
    (∀ x, x ∈ ks → TX (fun b => w.heap.size + 2 ≤ b ∧ b < wr.heap.size ∧ some b ≠ v.ownBlock) wr x.1 x.2.1) ∧
    (∀ r l'', PL (L.drop j) r l'' → PL (L.drop k0) (r.map (ks.map (·.1) ++ ·)) l'')
def PdOk (L : List Tk) (tb tq cap k : Nat) (w : World) : Prop := Calls Tryd.prog 89 #[.slice (some ⟨tb, tq, none⟩) L.length cap, .int .i64 k] w (PdPost L k w)

set_option maxHeartbeats 8000000 in
theorem Parsed_any (L : List Tk) (tb tq cap : Nat) (hL : L.length ≤ 100000) : ∀ (n k : Nat) (w : World), L.length - k ≤ n → TkAt w tb tq L → tb < w.heap.size → EndsK (L.drop k) → PdOk L tb tq cap k w := by
  intro n
  induction n with
  | zero =>
    intro k w h1 _ _ h2
    obtain ⟨_, _, h3, _⟩ := ends_at h2
    omega
  | succ n ih =>
    intro k w hn hT hlt he
    obtain ⟨x, hx, hk, hdx⟩ := ends_at he
    have HIH := Lib.hid ih
    have HT := Lib.hid hT
    have HE := Lib.hid he
    have HX := Lib.hid hx
    have HDX := Lib.hid hdx
    have hB0 : Below w.heap.size w (w.alloc (.cells #[.string ⟨#[]⟩, .string ⟨#[]⟩, .slice none 0 0] 56)) := (Below.refl _ _).alloc (Nat.le_refl _) _
    have hR0 := heap_alloc_new w (.cells #[.string ⟨#[]⟩, .string ⟨#[]⟩, .slice none 0 0] 56)
    have hs0 : (w.alloc (.cells #[.string ⟨#[]⟩, .string ⟨#[]⟩, .slice none 0 0] 56)).heap.size = w.heap.size + 1 := by simp
    have hs1 := Nat.le_of_eq hs0
    have hs2 := Nat.le_of_eq hs0.symm
    have HS0 := Lib.hid hs0
    have HB0 := Lib.hid hB0
    have HR0 := Lib.hid hR0
    clear ih hT he hx hdx hB0 hR0 hs0
    unfold PdOk
    go_enter Tryd.func89, Tryd.ntmps89
    go_upto_region 1 with fail
    generalize w.alloc (.cells #[.string ⟨#[]⟩, .string ⟨#[]⟩, .slice none 0 0] 56) = W0 at HB0 HR0 HS0 hs1 hs2 ⊢
    obtain ⟨⟨r0, r1, r2⟩, rf0, rf1, rf2⟩ := blk3 HR0.out
    obtain ⟨x0, x1, x2, x3, x4⟩ := tk_at HB0.out HT.out hlt HX.out
    have hkI : (k : Int) < (L.length : Int) := by omega
    by_cases hxk : x.k = 1
    · have h1 : (x.k != 1) = false := by rw [hxk]; rfl
      have HXK := Lib.hid hxk
      have he1 := ends_next HE.out HX.out (by rw [hxk]; decide)
      obtain ⟨y, hy, hk1, hdy⟩ := ends_at he1
      have HE1 := Lib.hid he1
      have HY := Lib.hid hy
      have HDY := Lib.hid hdy
      clear hxk he1 hy hdy
      obtain ⟨k1, hk1e⟩ : ∃ k1 : Nat, k1 = k + 1 := ⟨_, rfl⟩
      have hw1 : IntKind.i64.wrap ((k : Int) + 1) = (k1 : Int) := by rw [hk1e, IntWalk.i64_in _ (by omega)]; rfl
      rw [← hk1e] at HE1 HY hk1
      have HK1 := Lib.hid hk1e
      have HDY1 : Hid (L.drop k1 = y :: L.drop (k1 + 1)) := Lib.hid (by rw [hk1e]; exact HDY.out)
      have hk1a : k + 1 ≤ k1 := by omega
      have hk1b : k1 ≤ k + 1 := by omega
      clear hk1e HDY
      go_upto_region 4 with fail
      rw [HS0.out]
      have hB1 : Below w.heap.size w (W0.alloc (.cells #[.string ⟨x.t.toArray⟩, .string ⟨#[]⟩, .slice none 0 0] 56)) := HB0.out.alloc (by omega) _
      have hT1 := heap_alloc_new W0 (.cells #[.string ⟨x.t.toArray⟩, .string ⟨#[]⟩, .slice none 0 0] 56)
      rw [HS0.out] at hT1
      have hR1 := (Below.heap_alloc W0 (.cells #[.string ⟨x.t.toArray⟩, .string ⟨#[]⟩, .slice none 0 0] 56) w.heap.size (by omega)).trans HR0.out
      have hs1' : (W0.alloc (.cells #[.string ⟨x.t.toArray⟩, .string ⟨#[]⟩, .slice none 0 0] 56)).heap.size = w.heap.size + 2 := by simp; omega
      generalize W0.alloc (.cells #[.string ⟨x.t.toArray⟩, .string ⟨#[]⟩, .slice none 0 0] 56) = W1 at hB1 hT1 hR1 hs1' ⊢
      have HB1 := Lib.hid hB1
      have HT1 := Lib.hid hT1
      have HR1 := Lib.hid hR1
      have hsa := Nat.le_of_eq hs1'
      have hsb := Nat.le_of_eq hs1'.symm
      clear hB1 hT1 hR1 hs1' x0 x1 x2 x3 x4 r0 r1 r2 rf0 rf1 rf2 hs1 hs2 HB0 HR0 HS0 h1
      obtain ⟨x0, x1, x2, x3, x4⟩ := tk_at HB1.out HT.out hlt HY.out
      have hk1I : (k1 : Int) < (L.length : Int) := by omega
      have HC := Lib.hid (Is_any y ⟨#[58]⟩ [58] l58 W1)
      unfold tkW at HC
      go_wp2_with fail
      refine HC.out.mono ?_
      rintro e w2 ⟨rfl, hb2⟩
      have hs2 := hb2.size
      have HB2 := Lib.hid (HB1.out.trans (hb2.mono HB1.out.size))
      have HT2 := Lib.hid (cells_below HT1.out hb2)
      have HR2 := Lib.hid (cells_below HR1.out hb2)
      clear hb2 HC x0 x1 x2 x3 x4 hw1
      obtain ⟨⟨r0, r1, r2⟩, rf0, rf1, rf2⟩ := blk3 HR2.out
      obtain ⟨⟨t0, t1, t2⟩, tf0, tf1, tf2⟩ := blk3 HT2.out
      by_cases h58 : sym y [58]
      · rw [decide_eq_true h58]
        have he2 := ends_next HE1.out HY.out (by rw [h58.1]; decide)
        obtain ⟨z, hz, hk2, hdz⟩ := ends_at he2
        obtain ⟨k2, hk2e⟩ : ∃ k2 : Nat, k2 = k1 + 1 := ⟨_, rfl⟩
        have hw2 : IntKind.i64.wrap ((k1 : Int) + 1) = (k2 : Int) := by rw [hk2e, IntWalk.i64_in _ (by omega)]; rfl
        rw [← hk2e] at he2 hz hk2 hdz
        have HE2 := Lib.hid he2
        have HZ := Lib.hid hz
        have HDZ := Lib.hid hdz
        have HK2 := Lib.hid hk2e
        have H58 := Lib.hid h58
        have hk2a : k1 + 1 ≤ k2 := by omega
        have hk2b : k2 ≤ k1 + 1 := by omega
        have hk2I : (k2 : Int) < (L.length : Int) := by omega
        obtain ⟨x0, x1, x2, x3, x4⟩ := tk_at HB2.out HT.out hlt hz
        clear he2 hz hdz hk2e h58
        by_cases hzk : z.k = 1
        · have h1 : (z.k != 1) = false := by rw [hzk]; rfl
          obtain ⟨k3, hk3e⟩ : ∃ k3 : Nat, k3 = k2 + 1 := ⟨_, rfl⟩
          have hw3 : IntKind.i64.wrap ((k2 : Int) + 1) = (k3 : Int) := by rw [hk3e, IntWalk.i64_in _ (by omega)]; rfl
          have he3 := ends_next HE2.out HZ.out (by rw [hzk]; decide)
          rw [← hk3e] at he3
          obtain ⟨_, _, hk3, _⟩ := ends_at he3
          have HE3 := Lib.hid he3
          have HPT : Hid (PT (L.drop k) (some (.mk ⟨x.t.toArray⟩ ⟨z.t.toArray⟩ [])) (L.drop k3)) := Lib.hid (by
            rw [HDX.out, ← HK1.out, HDY1.out, ← HK2.out, HDZ.out, ← hk3e]
            exact .var HXK.out H58.out hzk)
          have hk3a : k2 + 1 ≤ k3 := by omega
          have hk3b : k3 ≤ k2 + 1 := by omega
          clear hzk he3 hk3e
          go_wp2_with fail
          refine bodyPost_ret (v := .tuple #[TV (.mk ⟨x.t.toArray⟩ ⟨z.t.toArray⟩ []) none 0, .int .i64 k3, .bool true]) (by simp [results, Tryd.results89, go_sem, r0, r1, r2, TV]) rfl ?_
          exact ⟨set3_below (HB2.out.setCell (p := ⟨w.heap.size + 1, 1, none⟩) (Nat.le_succ _) _) w.heap.size 0 _ _ _ (Nat.le_refl _), k3, by omega, hk3, HE3.out, .inl ⟨_, none, 0, by omega, HPT.out, rfl, TX.leaf _ _ _ _ _⟩⟩
        · have h1 : (z.k != 1) = true := bne_iff_ne.2 hzk
          have HPT : Hid (PT (L.drop k) none (L.drop k2)) := Lib.hid (by
            rw [HDX.out, ← HK1.out, HDY1.out, ← HK2.out, HDZ.out]
            exact .noSort HXK.out H58.out hzk)
          clear hzk
          go_wp2_with fail
          refine bodyPost_ret (v := .tuple #[TV0, .int .i64 k2, .bool false]) (by simp [results, Tryd.results89, go_sem, r0, r1, r2, TV0]) rfl ?_
          exact ⟨set3_below HB2.out w.heap.size 0 _ _ _ (Nat.le_refl _), k2, by omega, hk2, HE2.out, .inr ⟨HPT.out, rfl⟩⟩
      · rw [decide_eq_false h58]
        have H58 := Lib.hid h58
        obtain ⟨x0, x1, x2, x3, x4⟩ := tk_at HB2.out HT.out hlt HY.out
        have HC := Lib.hid (Is_any y ⟨#[40]⟩ [40] l40 w2)
        unfold tkW at HC
        clear h58 r0 r1 r2 rf0 rf1 rf2 t0 t1 t2 tf0 tf1 tf2
        go_wp2_with fail
        refine HC.out.mono ?_
        rintro e w3 ⟨rfl, hb3⟩
        have hs3 := hb3.size
        have HB3 := Lib.hid (HB2.out.trans (hb3.mono HB2.out.size))
        have HT3 := Lib.hid (cells_below HT2.out hb3)
        have HR3 := Lib.hid (cells_below HR2.out hb3)
        clear hb3 HC x0 x1 x2 x3 x4
        obtain ⟨⟨r0, r1, r2⟩, rf0, rf1, rf2⟩ := blk3 HR3.out
        by_cases h40 : sym y [40]
        · rw [decide_eq_true h40]
          have he2 := ends_next HE1.out HY.out (by rw [h40.1]; decide)
          obtain ⟨z, hz, hk2, hdz⟩ := ends_at he2
          obtain ⟨k2, hk2e⟩ : ∃ k2 : Nat, k2 = k1 + 1 := ⟨_, rfl⟩
          have hw2 : IntKind.i64.wrap ((k1 : Int) + 1) = (k2 : Int) := by rw [hk2e, IntWalk.i64_in _ (by omega)]; rfl
          rw [← hk2e] at he2 hz hk2 hdz
          have HE2 := Lib.hid he2
          have HZ := Lib.hid hz
          have HDZ := Lib.hid hdz
          have HK2 := Lib.hid hk2e
          have H40 := Lib.hid h40
          have hk2a : k1 + 1 ≤ k2 := by omega
          have hk2b : k2 ≤ k1 + 1 := by omega
          have hk2I : (k2 : Int) < (L.length : Int) := by omega
          obtain ⟨x0, x1, x2, x3, x4⟩ := tk_at HB3.out HT.out hlt hz
          have HC := Lib.hid (Is_any z ⟨#[41]⟩ [41] l41 w3)
          unfold tkW at HC
          clear he2 hz hdz hk2e h40 r0 r1 r2 rf0 rf1 rf2
          go_wp2_with fail
          refine HC.out.mono ?_
          rintro e w4 ⟨rfl, hb4⟩
          have hs4 := hb4.size
          have HB4 := Lib.hid (HB3.out.trans (hb4.mono HB3.out.size))
          have HT4 := Lib.hid (cells_below HT3.out hb4)
          have HR4 := Lib.hid (cells_below HR3.out hb4)
          clear hb4 HC x0 x1 x2 x3 x4 hw2
          by_cases h41 : sym z [41]
          · rw [decide_eq_true h41]
            obtain ⟨⟨r0, r1, r2⟩, rf0, rf1, rf2⟩ := blk3 HR4.out
            obtain ⟨⟨t0, t1, t2⟩, tf0, tf1, tf2⟩ := blk3 HT4.out
            obtain ⟨k3, hk3e⟩ : ∃ k3 : Nat, k3 = k2 + 1 := ⟨_, rfl⟩
            have hw3 : IntKind.i64.wrap ((k2 : Int) + 1) = (k3 : Int) := by rw [hk3e, IntWalk.i64_in _ (by omega)]; rfl
            have he3 := ends_next HE2.out HZ.out (by rw [h41.1]; decide)
            rw [← hk3e] at he3
            obtain ⟨_, _, hk3, _⟩ := ends_at he3
            have HE3 := Lib.hid he3
            have HPT : Hid (PT (L.drop k) (some (.mk ⟨x.t.toArray⟩ ⟨#[]⟩ [])) (L.drop k3)) := Lib.hid (by
              rw [HDX.out, ← HK1.out, HDY1.out, ← HK2.out, HDZ.out, ← hk3e]
              exact .parts (r := some []) HXK.out H58.out (.empty H40.out h41))
            have hk3a : k2 + 1 ≤ k3 := by omega
            have hk3b : k3 ≤ k2 + 1 := by omega
            clear he3 hk3e h41
            go_wp2_with fail
            refine bodyPost_ret (v := .tuple #[TV (.mk ⟨x.t.toArray⟩ ⟨#[]⟩ []) none 0, .int .i64 k3, .bool true]) (by simp [results, Tryd.results89, go_sem, r0, r1, r2, TV]) rfl ?_
            exact ⟨set3_below HB4.out w.heap.size 0 _ _ _ (Nat.le_refl _), k3, by omega, hk3, HE3.out, .inl ⟨_, none, 0, by omega, HPT.out, rfl, TX.leaf _ _ _ _ _⟩⟩
          · rw [decide_eq_false h41]
            have H41 := Lib.hid h41
            clear h41
            have HPL : Hid (∀ r l'', PL (L.drop k2) r l'' → PT (L.drop k) (r.map (.mk ⟨x.t.toArray⟩ ⟨#[]⟩)) l'') := Lib.hid (fun r l'' h => by
              rw [HDX.out, ← HK1.out, HDY1.out, ← HK2.out, HDZ.out]
              rw [HDZ.out] at h
              exact .parts HXK.out H58.out (.elems H40.out H41.out h))
            obtain ⟨i0, hi, hz0, hz1, hz2⟩ := info_parts Tryd.infoTerm
            go_wp2_with fail
            go_loopg [1] (L.length + 1) (fun g v wr => PdInv L k2 ⟨x.t.toArray⟩ w g v wr)
            case atStart => exact ⟨k2, [], .slice none 0 0, rfl, by omega, HE2.out, Nat.le_refl _, Nat.zero_le _, HB4.out, HR4.out, HT4.out, World.ownsRow_nil _ _ _ _, by omega, by simp, fun r l'' h => by simpa using h⟩
            case round =>
              clear HB1 HB2 HB3 HB4 HT1 HT2 HT3 HT4 HR1 HR2 HR3 HR4 HE1 HE2 HY HZ hsa hsb hs2 hs3 hs4
              obtain ⟨j, ks, v, rfl, hjg, hej, hkj, hksj, hbw, hrb, htb, hown, hws, hkid, hcont⟩ := hrel
              have HEJ := Lib.hid hej
              have HBW := Lib.hid hbw
              have HRB := Lib.hid hrb
              have HTB := Lib.hid htb
              have HOWN := Lib.hid hown
              have HKID := Lib.hid hkid
              have HCONT := Lib.hid hcont
              obtain ⟨_, _, hj, _⟩ := ends_at hej
              have HP := Lib.hid (HIH.out j wr (by omega) (fun i u hu => tk_at hbw HT.out hlt hu) (by omega) hej)
              unfold PdOk at HP
              clear hej hbw hrb htb hown hkid hcont
              go_wp2_with fail
              refine HP.out.mono ?_
              rintro e w3 ⟨hb3, j', hjj, hj', he3, hcase⟩
              have hs3 := hb3.size
              have HB3 := Lib.hid hb3
              have HE3 := Lib.hid he3
              have hrb3 := cells_below HRB.out hb3
              have htb3 := cells_below HTB.out hb3
              have HBW3 := Lib.hid (HBW.out.trans (hb3.mono HBW.out.size))
              clear he3 HP hb3
              rcases hcase with ⟨t, A, c, hlt2, hpt, rfl, htx⟩ | ⟨hpt, rfl⟩
              · have HPT := Lib.hid hpt
                have HTX := Lib.hid htx
                have hbX : Below w3.heap.size w3 (w3.alloc (.cells #[.string t.nm, .string t.st, .slice A t.ks.length c] 56)) := (Below.refl _ _).alloc (Nat.le_refl _) _
                have htb4 := cells_below htb3 hbX
                obtain ⟨⟨t0, t1, t2⟩, tf0, tf1, tf2⟩ := blk3 htb4
                have hown3 := ((own_below HOWN.out HB3.out).alloc (.cells #[.string t.nm, .string t.st, .slice A t.ks.length c] 56)).alloc (.cells #[.string t.nm, .string t.st, .slice A t.ks.length c] 56)
                have HO3 := Lib.hid hown3
                have HRB3 := Lib.hid hrb3
                have HTB3 := Lib.hid htb3
                obtain ⟨y', hy', _, hdy'⟩ := ends_at HE3.out
                have HY3 := Lib.hid hy'
                have HDY3 := Lib.hid hdy'
                clear hpt htx hown3 hbX htb4 hrb3 htb3 hy' hdy'
                unfold TV
                go_wp2_with (at_builtin; refine wpList_append_own_at _ rfl (.tmp 81) (.tmp 83) 54 rfl (w.heap.size + 2) 56 i0 _ 3 56 Tryd.underlying54 hi hz0 hz1 hz2 rfl (by decide) _ ks.length (kidsC ks) rfl HO3.out ⟨w3.heap.size + 1, 0, none⟩ 1 1 (kidC (t, A, c)) rfl rfl ?c1 ?c2 ?c3 ?c4 ?c5 ?_)
                case c1 => exact World.news_of_block (cs := #[.string t.nm, .string t.st, .slice A t.ks.length c]) (t := 56) (fr := (0, 0)) (by have := heap_alloc_new (w3.alloc (.cells #[.string t.nm, .string t.st, .slice A t.ks.length c] 56)) (.cells #[.string t.nm, .string t.st, .slice A t.ks.length c] 56); simpa using this)
                case c2 => simp [kidC, Value.oneCell']
                case c3 => unfold maxLen; omega
                case c4 => omega
                case c5 => simp; omega
                intro v' w4 ho4 hg4 _ hat
                have hs4 := hg4.size
                simp at hs4
                have hvP : ∀ k, v.ownBlock = some k → w.heap.size + 2 ≤ k ∧ k < wr.heap.size := fun k e => HOWN.out.lt k e
                have hblk : ∀ b, b < w3.heap.size → some b ≠ v.ownBlock → w4.heap[b]? = w3.heap[b]? := fun b hb hne =>
                  (hg4.block b (by simp; omega) hne).trans ((Below.heap_alloc _ _ _ (by simp; omega)).trans (Below.heap_alloc _ _ _ hb))
                have hrb4 := (hblk w.heap.size (by omega) (fun e => by have := (hvP _ e.symm).1; omega)).trans HRB3.out
                have htb4 := (hblk (w.heap.size + 1) (by omega) (fun e => by have := (hvP _ e.symm).1; omega)).trans HTB3.out
                have hk4 : ∀ x, x ∈ ks ++ [(t, A, c)] → TX (fun b => w.heap.size + 2 ≤ b ∧ b < w4.heap.size ∧ some b ≠ v'.ownBlock) w4 x.1 x.2.1 := by
                  intro x hx
                  have himp : ∀ b, w.heap.size + 2 ≤ b → b < w3.heap.size → some b ≠ v.ownBlock → w.heap.size + 2 ≤ b ∧ b < w4.heap.size ∧ some b ≠ v'.ownBlock := fun b h1 h2 h3 => by
                    refine ⟨h1, by omega, ?_⟩
                    rcases hat with e | e
                    · rw [e]; exact h3
                    · rw [e]; intro e'; injection e' with e'; first | omega | (simp at e'; omega)
                  rcases List.mem_append.1 hx with hx | hx
                  · have h1 := HKID.out x hx
                    have h2 := h1.keep (fun b hb => HB3.out.block b hb.2.1)
                    have h3 := h2.keep (w' := w4) (fun b hb => hblk b (by have := hb.2.1; omega) hb.2.2)
                    exact h3.imp (fun b hb => himp b hb.1 (by have := hb.2.1; omega) hb.2.2)
                  · rw [List.mem_singleton.1 hx]
                    have hne : ∀ b, wr.heap.size ≤ b → some b ≠ v.ownBlock := fun b hb e => by have := (hvP b e.symm).2; omega
                    have h3 := HTX.out.keep (w' := w4) (fun b hb => hblk b hb.2 (hne b hb.1))
                    exact h3.imp (fun b hb => himp b (by omega) hb.2 (hne b hb.1))
                have ho4' : w4.ownsRow (w.heap.size + 2) 56 3 v' (ks.length + 1) (kidsC (ks ++ [(t, A, c)])) := by
                  rw [← kidsC_snoc]; exact ho4
                have hb4 : Below w.heap.size w w4 := ((HBW3.out.alloc HBW3.out.size _).alloc (by simp; have := HBW3.out.size; omega) _).grown hg4 (by simp; have := HBW3.out.size; omega) (fun i e => by have := (hvP i e).1; omega)
                obtain ⟨A4, c4, rfl⟩ : ∃ A4 c4, v' = .slice A4 (ks.length + 1) c4 := by
                  rcases ho4'.2 with ⟨_, h0⟩ | ⟨g, cp4, _, hv, _⟩
                  · exact absurd h0 (by omega)
                  · exact ⟨_, cp4, hv⟩
                have ho5 := ownsRow_setCell_below ho4' (a := ⟨w.heap.size + 1, 2, none⟩) (show w.heap.size + 1 < w.heap.size + 2 by omega) (.slice A4 (ks.length + 1) c4)
                have hb5 : Below w.heap.size w (w4.setCell ⟨w.heap.size + 1, 2, none⟩ (.slice A4 (ks.length + 1) c4)) := hb4.setCell (p := ⟨w.heap.size + 1, 2, none⟩) (Nat.le_succ _) _
                have hrb5 := (Below.heap_setCell w4 ⟨w.heap.size + 1, 2, none⟩ (.slice A4 (ks.length + 1) c4) w.heap.size (show w.heap.size ≠ w.heap.size + 1 by omega)).trans hrb4
                have htb5 : (w4.setCell ⟨w.heap.size + 1, 2, none⟩ (.slice A4 (ks.length + 1) c4)).heap[w.heap.size + 1]? = some (.cells #[.string ⟨x.t.toArray⟩, .string ⟨#[]⟩, .slice A4 (ks.length + 1) c4] 56 (0, 0)) := by
                  have := htb4
                  simp [World.setCell, Array.getElem?_modify, this]
                have hk5 : ∀ y, y ∈ ks ++ [(t, A, c)] → TX (fun b => w.heap.size + 2 ≤ b ∧ b < w4.heap.size ∧ some b ≠ (Value.slice A4 (ks.length + 1) c4).ownBlock) (w4.setCell ⟨w.heap.size + 1, 2, none⟩ (.slice A4 (ks.length + 1) c4)) y.1 y.2.1 := fun y hy =>
                  (hk4 y hy).keep (fun b hb => Below.heap_setCell _ _ _ _ (show b ≠ w.heap.size + 1 by have := hb.1; omega))
                have hs5' : (w4.setCell ⟨w.heap.size + 1, 2, none⟩ (.slice A4 (ks.length + 1) c4)).heap.size = w4.heap.size := by simp
                obtain ⟨⟨t0', t1', t2'⟩, tf0', tf1', tf2'⟩ := blk3 htb4
                have HO5 := Lib.hid ho5
                have HB5 := Lib.hid hb5
                have HR5 := Lib.hid hrb5
                have HT5 := Lib.hid htb5
                have HK5 := Lib.hid hk5
                have HS5 := Lib.hid hs5'
                clear ho4 hg4 hat hblk hk4 ho4' hvP hrb4 htb4 hb4 ho5 hb5 hrb5 htb5 hk5 hs5' t0 t1 t2 tf0 tf1 tf2
                go_upto_region 20 with fail
                generalize w4.setCell ⟨w.heap.size + 1, 2, none⟩ (.slice A4 (ks.length + 1) c4) = w5 at HO5 HB5 HR5 HT5 HK5 HS5 ⊢
                clear t0' t1' t2' tf0' tf1' tf2'
                have hs5 := Nat.le_of_eq HS5.out
                have hs5b := Nat.le_of_eq HS5.out.symm
                obtain ⟨x0, x1, x2, x3, x4⟩ := tk_at HB5.out HT.out hlt HY3.out
                have hjI : (j' : Int) < (L.length : Int) := by omega
                have HC := Lib.hid (Is_any y' ⟨#[41]⟩ [41] l41 w5)
                unfold tkW at HC
                go_wp2_with fail
                refine HC.out.mono ?_
                rintro e w6 ⟨rfl, hb6⟩
                have hs6 := hb6.size
                have HB6 := Lib.hid (HB5.out.trans (hb6.mono (by omega)))
                have HT6 := Lib.hid (cells_below HT5.out hb6)
                have HR6 := Lib.hid (cells_below HR5.out hb6)
                have HO6 := Lib.hid (own_below HO5.out hb6)
                have HK6 : Hid (∀ y, y ∈ ks ++ [(t, A, c)] → TX (fun b => w.heap.size + 2 ≤ b ∧ b < w6.heap.size ∧ some b ≠ (Value.slice A4 (ks.length + 1) c4).ownBlock) w6 y.1 y.2.1) := Lib.hid (fun y hy =>
                  ((HK5.out y hy).keep (fun b hb => hb6.block b (by have := hb.2.1; omega))).imp (fun b hb => ⟨hb.1, by have := hb.2.1; omega, hb.2.2⟩))
                have hws6 : w.heap.size + 2 ≤ w6.heap.size := by omega
                clear hb6 HC x0 x1 x2 x3 x4 HK5 HO5 HT5 HR5 HB5
                have HPT' : Hid (PT (L.drop j) (some t) (y' :: L.drop (j' + 1))) := Lib.hid (by rw [← HDY3.out]; exact HPT.out)
                obtain ⟨k3, hk3e⟩ : ∃ k3 : Nat, k3 = j' + 1 := ⟨_, rfl⟩
                have hw3 : IntKind.i64.wrap ((j' : Int) + 1) = (k3 : Int) := by rw [hk3e, IntWalk.i64_in _ (by omega)]; rfl
                rw [← hk3e] at HPT'
                have hk3a : j' + 1 ≤ k3 := by omega
                have hk3b : k3 ≤ j' + 1 := by omega
                have HK3e := Lib.hid hk3e
                clear hk3e
                by_cases h41' : sym y' [41]
                · rw [decide_eq_true h41']
                  have he4 := ends_next HE3.out HY3.out (by rw [h41'.1]; decide)
                  rw [← HK3e.out] at he4
                  obtain ⟨_, _, hk3, _⟩ := ends_at he4
                  have HE4 := Lib.hid he4
                  have HPTF : Hid (PT (L.drop k) (some (.mk ⟨x.t.toArray⟩ ⟨#[]⟩ ((ks ++ [(t, A, c)]).map (·.1)))) (L.drop k3)) := Lib.hid (by
                    have := HPL.out _ _ (HCONT.out _ _ (.last HPT'.out h41'))
                    simpa using this)
                  have hsz : ((w.alloc (.cells #[] 0)).alloc (.cells #[] 0)).heap.size = w.heap.size + 2 := by simp
                  obtain ⟨A5, c5, e5, htx5⟩ := kids_done (w := (w.alloc (.cells #[] 0)).alloc (.cells #[] 0)) (wr := w6) (v := .slice A4 (ks.length + 1) c4) (ks := ks ++ [(t, A, c)]) (by rw [hsz]; simpa using HO6.out) (fun y hy => by rw [hsz]; exact HK6.out y hy)
                  rw [hsz] at htx5
                  injection e5 with e6 e8 e7
                  subst e6 e7
                  clear e8
                  have HTX5 := Lib.hid htx5
                  clear he4 h41' hsz htx5
                  obtain ⟨⟨r0, r1, r2⟩, rf0, rf1, rf2⟩ := blk3 HR6.out
                  obtain ⟨⟨t0, t1, t2⟩, tf0, tf1, tf2⟩ := blk3 HT6.out
                  go_wp2_with fail
                  refine bodyPost_ret (v := .tuple #[TV (.mk ⟨x.t.toArray⟩ ⟨#[]⟩ ((ks ++ [(t, A, c)]).map (·.1))) A4 c4, .int .i64 k3, .bool true]) (by simp [results, Tryd.results89, go_sem, r0, r1, r2, TV]) rfl ?_
                  refine ⟨set3_below HB6.out w.heap.size 0 _ _ _ (Nat.le_refl _), k3, by omega, hk3, HE4.out, .inl ⟨_, A4, c4, by omega, HPTF.out, rfl, ?_⟩⟩
                  exact ((HTX5.out.keep (fun b hb => set3_heap w6 w.heap.size 0 _ _ _ b (by have := hb.1; omega))).imp (fun b hb => ⟨by have := hb.1; omega, by have := hb.2; simp; omega⟩)).named _ _
                · rw [decide_eq_false h41']
                  have H41' := Lib.hid h41'
                  obtain ⟨x0, x1, x2, x3, x4⟩ := tk_at HB6.out HT.out hlt HY3.out
                  have HC := Lib.hid (Is_any y' ⟨#[44]⟩ [44] l44 w6)
                  unfold tkW at HC
                  clear h41'
                  go_wp2_with fail
                  refine HC.out.mono ?_
                  rintro e w7 ⟨rfl, hb7⟩
                  have hs7 := hb7.size
                  have HB7 := Lib.hid (HB6.out.trans (hb7.mono (by omega)))
                  have HT7 := Lib.hid (cells_below HT6.out hb7)
                  have HR7 := Lib.hid (cells_below HR6.out hb7)
                  have HO7 := Lib.hid (own_below HO6.out hb7)
                  have HK7 : Hid (∀ y, y ∈ ks ++ [(t, A, c)] → TX (fun b => w.heap.size + 2 ≤ b ∧ b < w7.heap.size ∧ some b ≠ (Value.slice A4 (ks.length + 1) c4).ownBlock) w7 y.1 y.2.1) := Lib.hid (fun y hy =>
                    ((HK6.out y hy).keep (fun b hb => hb7.block b (by have := hb.2.1; omega))).imp (fun b hb => ⟨hb.1, by have := hb.2.1; omega, hb.2.2⟩))
                  clear hb7 HC x0 x1 x2 x3 x4
                  by_cases h44 : sym y' [44]
                  · rw [decide_eq_true h44]
                    have he4 := ends_next HE3.out HY3.out (by rw [h44.1]; decide)
                    rw [← HK3e.out] at he4
                    obtain ⟨_, _, hk3, _⟩ := ends_at he4
                    have HE4 := Lib.hid he4
                    have H44 := Lib.hid h44
                    clear he4 h44
                    go_wp2_with fail
                    go_roundg (L.length - k3)
                    case rel =>
                      refine ⟨k3, ks ++ [(t, A, c)], .slice A4 (ks.length + 1) c4, rfl, Nat.le_refl _, HE4.out, by omega, by simp; omega, HB7.out, HR7.out, HT7.out, by simpa using HO7.out, by omega, HK7.out, ?_⟩
                      intro r l'' h
                      have h2 := HCONT.out _ _ (.more HPT'.out H41'.out H44.out h)
                      rw [Option.map_map] at h2
                      have e : ((fun x => ks.map (·.1) ++ x) ∘ (fun x => t :: x)) = (fun x => (ks ++ [(t, A, c)]).map (·.1) ++ x) := by
                        funext x; simp
                      rw [← e]; exact h2
                    case measure => omega
                  · rw [decide_eq_false h44]
                    have HPTF : Hid (PT (L.drop k) none (L.drop j')) := Lib.hid (by
                      rw [HDY3.out, ← HK3e.out]
                      exact HPL.out none _ (HCONT.out none _ (.noComma HPT'.out H41'.out h44)))
                    clear h44
                    obtain ⟨⟨r0, r1, r2⟩, rf0, rf1, rf2⟩ := blk3 HR7.out
                    go_wp2_with fail
                    refine bodyPost_ret (v := .tuple #[TV0, .int .i64 j', .bool false]) (by simp [results, Tryd.results89, go_sem, r0, r1, r2, TV0]) rfl ?_
                    exact ⟨set3_below HB7.out w.heap.size 0 _ _ _ (Nat.le_refl _), j', by omega, hj', HE3.out, .inr ⟨HPTF.out, rfl⟩⟩
              · have HPT : Hid (PT (L.drop k) none (L.drop j')) := Lib.hid (HPL.out none _ (HCONT.out none _ (.bad hpt)))
                have hbX : Below w3.heap.size w3 (w3.alloc (.cells #[.string ⟨#[]⟩, .string ⟨#[]⟩, .slice none 0 0] 56)) := (Below.refl _ _).alloc (Nat.le_refl _) _
                obtain ⟨⟨r0, r1, r2⟩, rf0, rf1, rf2⟩ := blk3 (cells_below hrb3 hbX)
                have HBX := Lib.hid (HBW3.out.trans (hbX.mono HBW3.out.size))
                clear hpt hbX hrb3 htb3
                unfold TV0
                go_wp2_with fail
                refine bodyPost_ret (v := .tuple #[TV0, .int .i64 j', .bool false]) (by simp [results, Tryd.results89, go_sem, r0, r1, r2, TV0]) rfl ?_
                exact ⟨set3_below HBX.out w.heap.size 0 _ _ _ (Nat.le_refl _), j', by omega, hj', HE3.out, .inr ⟨HPT.out, rfl⟩⟩
        · rw [decide_eq_false h40]
          have HPT : Hid (PT (L.drop k) none (L.drop k1)) := Lib.hid (by
            rw [HDX.out, ← HK1.out, HDY1.out]
            exact .parts (r := none) HXK.out H58.out (.noParen h40))
          clear h40
          go_wp2_with fail
          refine bodyPost_ret (v := .tuple #[TV0, .int .i64 k1, .bool false]) (by simp [results, Tryd.results89, go_sem, r0, r1, r2, TV0]) rfl ?_
          exact ⟨set3_below HB3.out w.heap.size 0 _ _ _ (Nat.le_refl _), k1, by omega, hk1, HE1.out, .inr ⟨HPT.out, rfl⟩⟩
    · have h1 : (x.k != 1) = true := bne_iff_ne.2 hxk
      have HPT : Hid (PT (L.drop k) none (L.drop k)) := Lib.hid (by rw [HDX.out]; exact .noName hxk)
      clear hxk
      go_wp2_with fail
      refine bodyPost_ret (v := .tuple #[TV0, .int .i64 k, .bool false]) (by simp [results, Tryd.results89, go_sem, r0, r1, r2, TV0]) rfl ?_
      exact ⟨set3_below HB0.out w.heap.size 0 _ _ _ (Nat.le_refl _), k, Nat.le_refl _, hk, HE.out, .inr ⟨HPT.out, rfl⟩⟩
end Go.Proofs.YthbcfcbonmphfaaDoor

/- TermBk: A term's text is read again; what is read is one thing only: plain. -/namespace Go.Proofs.YthbcfcbonmphfaaDoor
set_option maxRecDepth 100000

/-- No word begins here. -/
def NoW (l : List UInt8) : Prop := l.takeWhile isW = []
theorem NoW.nil : NoW [] := rfl
theorem NoW.cons {c : UInt8} (l : List UInt8) (h : isW c = false) : NoW (c :: l) := List.takeWhile_cons_of_neg (by rw [h]; exact Bool.false_ne_true)
theorem tokOf_nm (s l : List UInt8) (h : isName s = true) (hl : NoW l) : tokOf (s ++ l) = some (1, s, 0, s.length) := by
  obtain ⟨h1, h2, _, h4⟩ := isName_ok s h
  have hw : wl (s ++ l) = s.length := by unfold wl; rw [takeWhile_all_app isW s l h1 hl]
  unfold tokOf
  rw [if_neg, hw, if_pos h2, List.take_left]
  · unfold wordTok
    rw [if_neg (by rw [h4]; exact Bool.false_ne_true), if_pos h]; rfl
  · intro e
    have := congrArg List.length e
    simp at this
    rw [this.1] at h2
    exact absurd h2 (by decide)
theorem toks_nm (s l : List UInt8) (a b : Int) (h : isName s = true) (hl : NoW l) : toks (s ++ l) a b = joinT [⟨1, s, 0, a, b⟩] (toks l a (b + s.length)) := by
  obtain ⟨_, _, h3, _⟩ := isName_ok s h
  have ht := tokOf_nm s l h hl
  obtain ⟨c, r, rfl⟩ : ∃ c r, s = c :: r := by
    cases s with
    | nil => simp at h3
    | cons c r => exact ⟨c, r, rfl⟩
  have hc : cls (c.toNat : Int) = 4 := by simpa using h3
  have hs := skip_0 c (r ++ l) a b (by omega) (by omega) (by omega)
  rw [← List.cons_append] at hs
  have := toks_step _ a b _ _ _ hs 1 (c :: r) 0 _ (by decide) ht
  rw [List.drop_left] at this
  exact this
theorem toks_sym (c : UInt8) (l : List UInt8) (a b : Int) (hc : c = 40 ∨ c = 41 ∨ c = 44 ∨ c = 58) : toks (c :: l) a b = joinT [⟨4, [c], 0, a, b⟩] (toks l a (b + 1)) := by
  have ht : tokOf (c :: l) = some (4, [c], 0, 1) := by
    rcases hc with rfl | rfl | rfl | rfl <;> (cases l with
      | nil => rfl
      | cons d l => unfold tokOf; rw [if_neg (by simp)]; simp [wl, symLen, pairsL, singles, show isW 40 = false from by decide, show isW 41 = false from by decide, show isW 44 = false from by decide, show isW 58 = false from by decide])
  have hs : skip (c :: l) a b = (c :: l, a, b) := by rcases hc with rfl | rfl | rfl | rfl <;> exact skip_0 _ _ _ _ (by decide) (by decide) (by decide)
  have := toks_step _ a b _ _ _ hs 4 [c] 0 1 (by decide) ht
  simpa using this
theorem w40 : isW 40 = false := by decide
theorem w41 : isW 41 = false := by decide
theorem w44 : isW 44 = false := by decide
theorem w58 : isW 58 = false := by decide
theorem nmOf_eq (n : ByteArray) (a b : Int) (k m : Int) : nmOf ⟨k, n.data.toList, m, a, b⟩ = n := by unfold nmOf; simp

/-- What the reader makes of a term's text. -/
def Rdt (t : Tm) : Prop := ∀ (rest : List UInt8) (a b : Int), NoW rest → ∃ (T : List Tk) (a' b' : Int), toks (tmx t ++ rest) a b = joinT T (toks rest a' b') ∧ ∀ l, PT (T ++ l) (some t) l
def Rdts (ks : List Tm) : Prop := ∀ (rest : List UInt8) (a b : Int), NoW rest → ∃ (T : List Tk) (a' b' : Int), toks (tmxs true ks ++ 41 :: rest) a b = joinT T (toks rest a' b') ∧ ∀ l, PL (T ++ l) (some ks) l
theorem PT_first {l l' : List Tk} {t : Tm} (h : PT l (some t) l') : ∃ x r, l = x :: r ∧ x.k = 1 := by
  generalize hr : some t = r at h
  cases h with
  | noName => cases hr
  | var h1 => exact ⟨_, _, rfl, h1⟩
  | noSort => cases hr
  | parts h1 => exact ⟨_, _, rfl, h1⟩
theorem PL_first {l l' : List Tk} {ks : List Tm} (h : PL l (some ks) l') : ∃ x r, l = x :: r ∧ x.k = 1 := by
  generalize hr : some ks = r at h
  cases h with
  | bad => cases hr
  | last h1 => exact PT_first h1
  | noComma => cases hr
  | more h1 => exact PT_first h1
theorem named_v {n s : ByteArray} {ks : List Tm} (h : namedT (.mk n s ks) = true) (hv : isV (.mk n s ks) = true) : isName n.toList = true ∧ isName s.toList = true ∧ ks = [] := by
  simp [namedT, hv] at h
  refine ⟨h.2, h.1.1, List.eq_nil_of_length_eq_zero ?_⟩
  have h2 : decide (0 < ks.length) = false := h.1.2
  have := of_decide_eq_false h2
  omega
theorem named_o {n s : ByteArray} {ks : List Tm} (h : namedT (.mk n s ks) = true) (hv : isV (.mk n s ks) = false) : isName n.toList = true := by
  simpa [namedT, hv] using h
mutual
theorem rd : ∀ (t : Tm), Nmd t → Rdt t
  | .mk n s ks, h => by
    intro rest a b hrest
    have htop0 := h.top
    have hnl : n.toList = n.data.toList := Lib.toList_data n
    have hsl : s.toList = s.data.toList := Lib.toList_data s
    cases hv : isV (Tm.mk n s ks) with
    | true =>
      obtain ⟨htop, h3, hk⟩ := named_v htop0 hv
      subst hk
      rw [tmx_v hv]
      dsimp only [Tm.nm_mk, Tm.st_mk]
      rw [hnl] at htop
      rw [hsl] at h3
      have e1 := toks_nm n.data.toList (58 :: (s.data.toList ++ rest)) a b htop (NoW.cons _ w58)
      have e2 := toks_sym 58 (s.data.toList ++ rest) a (b + n.data.toList.length) (.inr (.inr (.inr rfl)))
      have e3 := toks_nm s.data.toList rest a (b + n.data.toList.length + 1) h3 hrest
      refine ⟨[⟨1, n.data.toList, 0, a, b⟩, ⟨4, [58], 0, a, b + n.data.toList.length⟩, ⟨1, s.data.toList, 0, a, b + n.data.toList.length + 1⟩], a, b + n.data.toList.length + 1 + s.data.toList.length, ?_, fun l => ?_⟩
      · rw [List.append_assoc, List.cons_append, e1, e2, e3, joinT_join, joinT_join]; rfl
      · have hp : PT (⟨1, n.data.toList, 0, a, b⟩ :: ⟨4, [58], 0, a, b + n.data.toList.length⟩ :: ⟨1, s.data.toList, 0, a, b + n.data.toList.length + 1⟩ :: l) (some (.mk (nmOf ⟨1, n.data.toList, 0, a, b⟩) (nmOf ⟨1, s.data.toList, 0, a, b + n.data.toList.length + 1⟩) [])) l := .var rfl ⟨rfl, rfl⟩ rfl
        rw [nmOf_eq, nmOf_eq] at hp
        exact hp
    | false =>
      have htop := named_o htop0 hv
      rw [hnl] at htop
      have hs0 : s = ⟨#[]⟩ := by
        unfold isV at hv
        have : s.toList = [] := by simpa using hv
        rw [hsl] at this
        exact toList_inj (by rw [this])
      subst hs0
      rw [tmx_o hv]
      dsimp only [Tm.nm_mk, Tm.ks_mk]
      have e1 := toks_nm n.data.toList (40 :: (tmxs true ks ++ 41 :: rest)) a b htop (NoW.cons _ w40)
      have e2 := toks_sym 40 (tmxs true ks ++ 41 :: rest) a (b + n.data.toList.length) (.inl rfl)
      have hn58 : ¬ sym (⟨4, [40], 0, a, b + n.data.toList.length⟩ : Tk) [58] := fun h => absurd h.2 (by simp)
      have key : ∀ (T : List Tk), (∀ l, LL (⟨4, [40], 0, a, b + n.data.toList.length⟩ :: (T ++ l)) (some ks) l) → ∀ l, PT (⟨1, n.data.toList, 0, a, b⟩ :: ⟨4, [40], 0, a, b + n.data.toList.length⟩ :: (T ++ l)) (some (.mk n ⟨#[]⟩ ks)) l := fun T hT l => by
        have hp : PT (⟨1, n.data.toList, 0, a, b⟩ :: ⟨4, [40], 0, a, b + n.data.toList.length⟩ :: (T ++ l)) ((some ks).map (.mk (nmOf ⟨1, n.data.toList, 0, a, b⟩) ⟨#[]⟩)) l := .parts rfl hn58 (hT l)
        rw [nmOf_eq] at hp
        exact hp
      cases ks with
      | nil =>
        have e3 := toks_sym 41 rest a (b + n.data.toList.length + 1) (.inr (.inl rfl))
        refine ⟨[⟨1, n.data.toList, 0, a, b⟩, ⟨4, [40], 0, a, b + n.data.toList.length⟩, ⟨4, [41], 0, a, b + n.data.toList.length + 1⟩], a, b + n.data.toList.length + 1 + 1, ?_, fun l => ?_⟩
        · have e0 : n.data.toList ++ [40] ++ tmxs true [] ++ [41] ++ rest = n.data.toList ++ 40 :: (tmxs true [] ++ 41 :: rest) := by simp
          rw [e0, e1, e2]
          have e4 : tmxs true [] ++ 41 :: rest = 41 :: rest := by simp [tmxs]
          rw [e4, e3, joinT_join, joinT_join]; rfl
        · exact key [⟨4, [41], 0, a, b + n.data.toList.length + 1⟩] (fun l => .empty ⟨rfl, rfl⟩ ⟨rfl, rfl⟩) l
      | cons k ks =>
        obtain ⟨T, a', b', e3, hP⟩ := rds (k :: ks) (by simp) (fun y hy => h.kid hy) rest a (b + n.data.toList.length + 1) hrest
        refine ⟨⟨1, n.data.toList, 0, a, b⟩ :: ⟨4, [40], 0, a, b + n.data.toList.length⟩ :: T, a', b', ?_, fun l => ?_⟩
        · have e0 : n.data.toList ++ [40] ++ tmxs true (k :: ks) ++ [41] ++ rest = n.data.toList ++ 40 :: (tmxs true (k :: ks) ++ 41 :: rest) := by simp
          rw [e0, e1, e2, e3, joinT_join, joinT_join]; rfl
        · refine key T (fun l => ?_) l
          have hp := hP l
          obtain ⟨x, r, hx, hk1⟩ := PL_first hp
          rw [hx] at hp ⊢
          exact .elems ⟨rfl, rfl⟩ (fun h => by rw [h.1] at hk1; cases hk1) hp
theorem rds : ∀ (ks : List Tm), ks ≠ [] → (∀ k, k ∈ ks → Nmd k) → Rdts ks
  | [], h, _ => absurd rfl h
  | [k], _, h => by
    intro rest a b hrest
    obtain ⟨T, a', b', e, hP⟩ := rd k (h k (by simp)) (41 :: rest) a b (NoW.cons _ w41)
    have e2 := toks_sym 41 rest a' b' (.inr (.inl rfl))
    refine ⟨T ++ [⟨4, [41], 0, a', b'⟩], a', b' + 1, ?_, fun l => ?_⟩
    · have e0 : tmxs true [k] ++ 41 :: rest = tmx k ++ 41 :: rest := by simp [tmxs]
      rw [e0, e, e2, joinT_join]
    · rw [List.append_assoc]
      exact .last (hP _) ⟨rfl, rfl⟩
  | k :: k2 :: ks, _, h => by
    intro rest a b hrest
    obtain ⟨T, a', b', e, hP⟩ := rd k (h k (by simp)) (44 :: 32 :: (tmxs true (k2 :: ks) ++ 41 :: rest)) a b (NoW.cons _ w44)
    have e2 := toks_sym 44 (32 :: (tmxs true (k2 :: ks) ++ 41 :: rest)) a' b' (.inr (.inr (.inl rfl)))
    obtain ⟨T2, a2, b2, e3, hP2⟩ := rds (k2 :: ks) (by simp) (fun y hy => h y (by simp at hy ⊢; exact .inr hy)) rest a' (b' + 1 + 1) hrest
    refine ⟨T ++ (⟨4, [44], 0, a', b'⟩ :: T2), a2, b2, ?_, fun l => ?_⟩
    · have e0 : tmxs true (k :: k2 :: ks) ++ 41 :: rest = tmx k ++ 44 :: 32 :: (tmxs true (k2 :: ks) ++ 41 :: rest) := by simp [tmxs]
      rw [e0, e, e2, toks_sp, e3, joinT_join, joinT_join]; simp
    · rw [List.append_assoc]
      have := PL.more (hP (⟨4, [44], 0, a', b'⟩ :: (T2 ++ l))) (fun h => absurd h.2 (by simp)) ⟨rfl, rfl⟩ (hP2 l)
      simpa using this
end
/-- The text of a term is read as that term. -/
theorem read_back {t : Tm} (h : Nmd t) : ∃ (L : List Tk) (x : Tk), toks (tmx t) 1 1 = .ok L ∧ PT L (some t) [x] ∧ x.k = 5 := by
  obtain ⟨T, a, b, e, hP⟩ := rd t h [] 1 1 NoW.nil
  rw [List.append_nil] at e
  have e2 : toks [] a b = .ok [⟨5, [], 0, a, b⟩] := toks_end [] a b [] a b (skip_nil a b) [] 0 0 rfl
  exact ⟨T ++ [⟨5, [], 0, a, b⟩], ⟨5, [], 0, a, b⟩, by rw [e, e2]; rfl, hP _, rfl⟩

/-! ### what is read is one thing only -/
mutual
theorem PT_one : ∀ {l : List Tk} {r : Option Tm} {l' : List Tk}, PT l r l' → ∀ {r2 l2}, PT l r2 l2 → r = r2 ∧ l' = l2
  | _, _, _, .noName h1, _, _, h => by cases h <;> first | exact ⟨rfl, rfl⟩ | contradiction
  | _, _, _, .var h1 h2 h3, _, _, h => by cases h <;> first | exact ⟨rfl, rfl⟩ | contradiction
  | _, _, _, .noSort h1 h2 h3, _, _, h => by cases h <;> first | exact ⟨rfl, rfl⟩ | contradiction
  | _, _, _, .parts h1 h2 hL, _, _, h => by
    cases h with
    | noName => contradiction
    | var => contradiction
    | noSort => contradiction
    | parts _ _ hL2 => obtain ⟨e1, e2⟩ := LL_one hL hL2; rw [e1, e2]; exact ⟨rfl, rfl⟩
theorem LL_one : ∀ {l : List Tk} {r : Option (List Tm)} {l' : List Tk}, LL l r l' → ∀ {r2 l2}, LL l r2 l2 → r = r2 ∧ l' = l2
  | _, _, _, .noParen h1, _, _, h => by cases h <;> first | exact ⟨rfl, rfl⟩ | contradiction
  | _, _, _, .empty h1 h2, _, _, h => by cases h <;> first | exact ⟨rfl, rfl⟩ | contradiction
  | _, _, _, .elems h1 h2 hP, _, _, h => by
    cases h with
    | noParen => contradiction
    | empty => contradiction
    | elems _ _ hP2 => exact PL_one hP hP2
theorem PL_one : ∀ {l : List Tk} {r : Option (List Tm)} {l' : List Tk}, PL l r l' → ∀ {r2 l2}, PL l r2 l2 → r = r2 ∧ l' = l2
  | _, _, _, .bad hT, _, _, h => by
    cases h with
    | bad hT2 => obtain ⟨_, e2⟩ := PT_one hT hT2; exact ⟨rfl, e2⟩
    | last hT2 => obtain ⟨e1, _⟩ := PT_one hT hT2; cases e1
    | noComma hT2 => obtain ⟨e1, _⟩ := PT_one hT hT2; cases e1
    | more hT2 => obtain ⟨e1, _⟩ := PT_one hT hT2; cases e1
  | _, _, _, .last hT h2, _, _, h => by
    cases h with
    | bad hT2 => obtain ⟨e1, _⟩ := PT_one hT hT2; cases e1
    | last hT2 => obtain ⟨e1, e2⟩ := PT_one hT hT2; injection e1 with e1; injection e2 with e2 e3; rw [e1, e3]; exact ⟨rfl, rfl⟩
    | noComma hT2 h3 => obtain ⟨_, e2⟩ := PT_one hT hT2; injection e2 with e2 e3; rw [e2] at h2; contradiction
    | more hT2 h3 => obtain ⟨_, e2⟩ := PT_one hT hT2; injection e2 with e2 e3; rw [e2] at h2; contradiction
  | _, _, _, .noComma hT h2 h3, _, _, h => by
    cases h with
    | bad hT2 => obtain ⟨e1, _⟩ := PT_one hT hT2; cases e1
    | last hT2 h4 => obtain ⟨_, e2⟩ := PT_one hT hT2; injection e2 with e2 e3; rw [e2] at h2; contradiction
    | noComma hT2 => obtain ⟨_, e2⟩ := PT_one hT hT2; exact ⟨rfl, e2⟩
    | more hT2 _ h5 => obtain ⟨_, e2⟩ := PT_one hT hT2; injection e2 with e2 e3; rw [e2] at h3; contradiction
  | _, _, _, .more hT h2 h3 hP, _, _, h => by
    cases h with
    | bad hT2 => obtain ⟨e1, _⟩ := PT_one hT hT2; cases e1
    | last hT2 h4 => obtain ⟨_, e2⟩ := PT_one hT hT2; injection e2 with e2 e3; rw [e2] at h2; contradiction
    | noComma hT2 _ h5 => obtain ⟨_, e2⟩ := PT_one hT hT2; injection e2 with e2 e3; rw [e2] at h3; contradiction
    | more hT2 _ _ hP2 =>
      obtain ⟨e1, e2⟩ := PT_one hT hT2
      injection e1 with e1
      injection e2 with e2 e3
      subst e1 e3
      obtain ⟨e4, e5⟩ := PL_one hP hP2
      rw [e4, e5]; exact ⟨rfl, rfl⟩
end

/-! ### what is read has the names that it must have -/
def Vt (l : List Tk) : Prop := ∀ x, x ∈ l → validT x.k x.t x.n = true
theorem vt_name {x : Tk} (h : validT x.k x.t x.n = true) (hk : x.k = 1) : isName x.t = true := by
  unfold validT at h
  rw [if_pos hk] at h
  simp at h
  exact h.1
theorem nmOf_list (x : Tk) : (nmOf x).toList = x.t := by unfold nmOf; rw [Lib.toList_data]
theorem namedT_var {n s : ByteArray} (h1 : isName n.toList = true) (h2 : isName s.toList = true) : namedT (.mk n s []) = true := by simp [namedT, h1, h2]
theorem namedT_op {n : ByteArray} {ks : List Tm} (h1 : isName n.toList = true) : namedT (.mk n ⟨#[]⟩ ks) = true := by
  have e : (⟨#[]⟩ : ByteArray).toList = [] := by rw [Lib.toList_data]
  simp [namedT, isV, h1, e]
theorem Vt.tail {x : Tk} {l : List Tk} (h : Vt (x :: l)) : Vt l := fun y hy => h y (by simp [hy])
mutual
theorem PT_nmd : ∀ {l : List Tk} {r : Option Tm} {l' : List Tk}, PT l r l' → Vt l → Vt l' ∧ ∀ t, r = some t → Nmd t
  | _, _, _, .noName _, hv => ⟨hv, fun t h => by cases h⟩
  | _, _, _, .var (x := x) (y := y) (z := z) hx _ hz, hv => ⟨hv.tail.tail.tail, fun t h => by
    injection h with h
    subst h
    exact .mk _ _ _ (namedT_var (by rw [nmOf_list]; exact vt_name (hv x (by simp)) hx) (by rw [nmOf_list]; exact vt_name (hv z (by simp)) hz)) (fun k hk => by cases hk)⟩
  | _, _, _, .noSort _ _ _, hv => ⟨hv.tail.tail, fun t h => by cases h⟩
  | _, _, _, .parts (x := x) (r := r) hx _ hL, hv => by
    obtain ⟨h1, h2⟩ := LL_nmd hL hv.tail
    refine ⟨h1, fun t h => ?_⟩
    cases r with
    | none => cases h
    | some ks =>
      injection h with h
      subst h
      exact .mk _ _ _ (namedT_op (by rw [nmOf_list]; exact vt_name (hv x (by simp)) hx)) (h2 ks rfl)
theorem LL_nmd : ∀ {l : List Tk} {r : Option (List Tm)} {l' : List Tk}, LL l r l' → Vt l → Vt l' ∧ ∀ ks, r = some ks → ∀ k, k ∈ ks → Nmd k
  | _, _, _, .noParen _, hv => ⟨hv, fun ks h => by cases h⟩
  | _, _, _, .empty _ _, hv => ⟨hv.tail.tail, fun ks h => by injection h with h; subst h; exact fun k hk => by cases hk⟩
  | _, _, _, .elems _ _ hP, hv => PL_nmd hP hv.tail
theorem PL_nmd : ∀ {l : List Tk} {r : Option (List Tm)} {l' : List Tk}, PL l r l' → Vt l → Vt l' ∧ ∀ ks, r = some ks → ∀ k, k ∈ ks → Nmd k
  | _, _, _, .bad hT, hv => ⟨(PT_nmd hT hv).1, fun ks h => by cases h⟩
  | _, _, _, .last (t := t) hT _, hv => by
    obtain ⟨h1, h2⟩ := PT_nmd hT hv
    refine ⟨h1.tail, fun ks h => ?_⟩
    injection h with h
    subst h
    intro k hk
    rw [List.mem_singleton.1 hk]
    exact h2 t rfl
  | _, _, _, .noComma hT _ _, hv => ⟨(PT_nmd hT hv).1, fun ks h => by cases h⟩
  | _, _, _, .more (t := t) (r := r) hT _ _ hP, hv => by
    obtain ⟨h1, h2⟩ := PT_nmd hT hv
    obtain ⟨h3, h4⟩ := PL_nmd hP h1.tail
    refine ⟨h3, fun ks h => ?_⟩
    cases r with
    | none => cases h
    | some ks' =>
      injection h with h
      subst h
      intro k hk
      rcases List.mem_cons.1 hk with rfl | hk
      · exact h2 _ rfl
      · exact h4 ks' rfl k hk
end
end Go.Proofs.YthbcfcbonmphfaaDoor
