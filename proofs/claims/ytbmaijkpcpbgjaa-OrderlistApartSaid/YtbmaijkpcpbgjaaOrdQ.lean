/- Walks: New, Len, Contains, Compare, Next, Label, Moves, Order. -/
import Derived.Test.YtbmaijkpcpbgjaaOrdP
namespace Go.Proofs.Ytbmaijkpcpbgjaa
open Go.RowKit
set_option maxRecDepth 100000
theorem fP_at {B x cap made : Nat} {G : Option Addr} {mv : Int} {E : List El} {w : World} (h : OL B x G cap made mv E w) {j : Nat} {e : El} (hj : E[j]? = some e) : fP E (e.num : Int) = some ⟨e.adr, 0, none⟩ := by
  unfold fP
  rw [if_neg (by omega), show ((e.num : Int)).toNat = e.num by omega, adrOf_some h.chain.nums hj]
  rfl
theorem ol_new (w : World) : Calls Try.prog 25 #[] w fun e w' => e = .returned (.pointer (some ⟨w.heap.size, 0, none⟩)) ∧ w' = w.alloc (.cells #[.slice none 0 0, .pointer none, .int .i64 0, .int .i64 0] 60) := by
  go_enter Try.func25, Try.ntmps25
  go_wp2_with fail
  go_ret
  exact ⟨rfl, rfl⟩
theorem ost_new (B : Nat) (w : World) (hB : B ≤ w.heap.size) : OSt B w.heap.size 0 0 [] (w.alloc (.cells #[.slice none 0 0, .pointer none, .int .i64 0, .int .i64 0] 60)) :=
  ⟨⟨none, 0, ⟨bdNew _ _, World.ownsRow_nil _ _ _ _, ⟨fun j e h => by simp at h, by simp⟩, fun e h => by simp at h⟩⟩, Asc.nil, by simp, by omega, hB⟩
theorem ol_len_nil (w : World) : Calls Try.prog 11 #[.pointer none] w fun e w' => e = .returned (.int .i64 0) ∧ w = w' := by
  go_enter Try.func11, Try.ntmps11
  go_wp2_with fail
  go_ret
  exact ⟨rfl, rfl⟩
theorem ol_len (B x made : Nat) (mv : Int) (E : List El) (w : World) (h : OSt B x made mv E w) : Calls Try.prog 11 #[.pointer (some ⟨x, 0, none⟩)] w fun e w' => e = .returned (.int .i64 E.length) ∧ w = w' := by
  obtain ⟨G, cap, h1⟩ := h.ol
  obtain ⟨⟨c0, c1, c2, c3⟩, _, _, _, _⟩ := bk4 h1.box
  clear h h1
  go_enter Try.func11, Try.ntmps11
  go_wp2_with fail
  go_ret
  exact ⟨rfl, rfl⟩
theorem ol_moves_nil (w : World) : Calls Try.prog 20 #[.pointer none] w fun e w' => e = .returned (.int .i64 0) ∧ w = w' := by
  go_enter Try.func20, Try.ntmps20
  go_wp2_with fail
  go_ret
  exact ⟨rfl, rfl⟩
theorem ol_moves (B x made : Nat) (mv : Int) (E : List El) (w : World) (h : OSt B x made mv E w) : Calls Try.prog 20 #[.pointer (some ⟨x, 0, none⟩)] w fun e w' => e = .returned (.int .i64 mv) ∧ w = w' := by
  obtain ⟨G, cap, h1⟩ := h.ol
  obtain ⟨⟨c0, c1, c2, c3⟩, _, _, _, _⟩ := bk4 h1.box
  clear h h1
  go_enter Try.func20, Try.ntmps20
  go_wp2_with fail
  go_ret
  exact ⟨rfl, rfl⟩
theorem ol_contains_nil (i : Int) (w : World) : Calls Try.prog 12 #[.pointer none, .int .i64 i] w fun e w' => e = .returned (.bool false) ∧ w = w' := by
  go_enter Try.func12, Try.ntmps12
  go_wp2_with fail
  go_ret
  exact ⟨rfl, rfl⟩
theorem ol_contains_no (B x made : Nat) (mv : Int) (E : List El) (i : Int) (w : World) (h : OSt B x made mv E w) (hm : made ≤ 2000) (hn : i ∉ ords E) :
    Calls Try.prog 12 #[.pointer (some ⟨x, 0, none⟩), .int .i64 i] w fun e w' => e = .returned (.bool false) ∧ w = w' := by
  obtain ⟨G, cap, h1⟩ := h.ol
  have HF := Lib.hid (ol_find B x cap made G mv E i w h1 hm)
  rw [fP_none hn] at HF
  clear h h1 hn
  go_enter Try.func12, Try.ntmps12
  go_wp2_with fail
  refine HF.out.mono ?_
  rintro e w1 ⟨rfl, rfl⟩
  go_wp2_with fail
  go_ret
  exact ⟨rfl, rfl⟩
theorem ol_contains_yes (B x made j : Nat) (mv : Int) (E : List El) (e : El) (w : World) (h : OSt B x made mv E w) (hm : made ≤ 2000) (hj : E[j]? = some e) :
    Calls Try.prog 12 #[.pointer (some ⟨x, 0, none⟩), .int .i64 (e.num : Int)] w fun e w' => e = .returned (.bool true) ∧ w = w' := by
  obtain ⟨G, cap, h1⟩ := h.ol
  have HF := Lib.hid (ol_find B x cap made G mv E (e.num : Int) w h1 hm)
  rw [fP_at h1 hj] at HF
  clear h h1 hj
  go_enter Try.func12, Try.ntmps12
  go_wp2_with fail
  refine HF.out.mono ?_
  rintro e w1 ⟨rfl, rfl⟩
  go_wp2_with fail
  go_ret
  exact ⟨rfl, rfl⟩
theorem ol_label_nil (i : Int) (w : World) : Calls Try.prog 23 #[.pointer none, .int .i64 i] w fun e w' => e = .returned (.tuple #[.int .i64 0, .int .i64 1]) ∧ w = w' := by
  go_enter Try.func23, Try.ntmps23
  go_wp2_with fail
  go_ret2
  exact ⟨rfl, rfl⟩
theorem ol_label_no (B x made : Nat) (mv : Int) (E : List El) (i : Int) (w : World) (h : OSt B x made mv E w) (hm : made ≤ 2000) (hn : i ∉ ords E) :
    Calls Try.prog 23 #[.pointer (some ⟨x, 0, none⟩), .int .i64 i] w fun e w' => e = .returned (.tuple #[.int .i64 0, .int .i64 12]) ∧ w = w' := by
  obtain ⟨G, cap, h1⟩ := h.ol
  have HF := Lib.hid (ol_find B x cap made G mv E i w h1 hm)
  rw [fP_none hn] at HF
  clear h h1 hn
  go_enter Try.func23, Try.ntmps23
  go_wp2_with fail
  refine HF.out.mono ?_
  rintro e w1 ⟨rfl, rfl⟩
  go_wp2_with fail
  go_ret2
  exact ⟨rfl, rfl⟩
theorem ol_label_yes (B x made j : Nat) (mv : Int) (E : List El) (e : El) (w : World) (h : OSt B x made mv E w) (hm : made ≤ 2000) (hj : E[j]? = some e) :
    Calls Try.prog 23 #[.pointer (some ⟨x, 0, none⟩), .int .i64 (e.num : Int)] w fun er w' => er = .returned (.tuple #[.int .i64 e.lab, .int .i64 0]) ∧ w = w' := by
  obtain ⟨G, cap, h1⟩ := h.ol
  have HF := Lib.hid (ol_find B x cap made G mv E (e.num : Int) w h1 hm)
  rw [fP_at h1 hj] at HF
  obtain ⟨⟨c0, c1, c2, c3⟩, _, _, _, _⟩ := bk4 (h1.chain.el j e hj)
  generalize e.adr = a at c0 c1 c2 c3 HF
  generalize e.lab = l at c1 ⊢
  clear h h1 hj
  go_enter Try.func23, Try.ntmps23
  go_wp2_with fail
  refine HF.out.mono ?_
  rintro e w1 ⟨rfl, rfl⟩
  go_wp2_with fail
  go_ret2
  exact ⟨rfl, rfl⟩
theorem ol_next_nil (i : Int) (w : World) : Calls Try.prog 18 #[.pointer none, .int .i64 i] w fun e w' => e = .returned (.tuple #[.int .i64 0, .int .i64 1]) ∧ w = w' := by
  go_enter Try.func18, Try.ntmps18
  go_wp2_with fail
  go_ret2
  exact ⟨rfl, rfl⟩
theorem ol_next_no (B x made : Nat) (mv : Int) (E : List El) (i : Int) (w : World) (h : OSt B x made mv E w) (hm : made ≤ 2000) (hi : i ≠ -1) (hn : i ∉ ords E) :
    Calls Try.prog 18 #[.pointer (some ⟨x, 0, none⟩), .int .i64 i] w fun e w' => e = .returned (.tuple #[.int .i64 0, .int .i64 12]) ∧ w = w' := by
  obtain ⟨G, cap, h1⟩ := h.ol
  have HF := Lib.hid (ol_find B x cap made G mv E i w h1 hm)
  rw [fP_none hn] at HF
  have d1 : (i == -1) = false := by simpa using hi
  have d2 : (i != -1) = true := by simpa using hi
  clear h h1 hn hi
  go_enter Try.func18, Try.ntmps18
  go_wp2_with fail
  refine HF.out.mono ?_
  rintro e w1 ⟨rfl, rfl⟩
  go_wp2_with fail
  go_ret2
  exact ⟨rfl, rfl⟩
/-- What Next says of a place. -/
def nextR (E : List El) (k : Nat) : Int × Int := match E[k]? with
  | some f => ((f.num : Int), 0)
  | none => (0, 8)
theorem ol_next_yes (B x made k : Nat) (mv : Int) (E : List El) (i : Int) (w : World) (h : OSt B x made mv E w) (hm : made ≤ 2000) (hk : PosK E i k) :
    Calls Try.prog 18 #[.pointer (some ⟨x, 0, none⟩), .int .i64 i] w fun e w' => e = .returned (.tuple #[.int .i64 (nextR E k).1, .int .i64 (nextR E k).2]) ∧ w = w' := by
  obtain ⟨G, cap, h1⟩ := h.ol
  have HF := Lib.hid (ol_find B x cap made G mv E i w h1 hm)
  have HA := Lib.hid (ol_after_at B x cap made k G mv E w h1 hk.le)
  have hkx : (∃ f, E[k]? = some f) ∨ E[k]? = none := by cases E[k]? <;> simp
  rcases hk with ⟨rfl, rfl⟩ | ⟨j, e, hj, rfl, rfl⟩
  · rw [show fP E (-1) = none from by unfold fP; rw [if_pos (by omega)]] at HF
    rw [show prvE E 0 = none from rfl] at HA
    rcases hkx with ⟨f, hf⟩ | hf
    · rw [ptrE_some hf] at HA
      have hr : nextR E 0 = ((f.num : Int), 0) := by unfold nextR; rw [hf]
      rw [hr]
      obtain ⟨⟨c0, c1, c2, c3⟩, _, _, _, _⟩ := bk4 (h1.chain.el 0 f hf)
      generalize f.adr = a at c0 c1 c2 c3 HA
      generalize f.num = l at c0 ⊢
      clear h h1 hf hr
      go_enter Try.func18, Try.ntmps18
      go_wp2_with fail
      refine HF.out.mono ?_
      rintro e w1 ⟨rfl, rfl⟩
      go_wp2_with fail
      refine HA.out.mono ?_
      rintro e w1 ⟨rfl, rfl⟩
      go_wp2_with fail
      go_ret2
      exact ⟨rfl, rfl⟩
    · rw [show ptrE E 0 = none from by unfold ptrE; rw [hf]; rfl] at HA
      have hr : nextR E 0 = (0, 8) := by unfold nextR; rw [hf]
      rw [hr]
      clear h h1 hf hr
      go_enter Try.func18, Try.ntmps18
      go_wp2_with fail
      refine HF.out.mono ?_
      rintro e w1 ⟨rfl, rfl⟩
      go_wp2_with fail
      refine HA.out.mono ?_
      rintro e w1 ⟨rfl, rfl⟩
      go_wp2_with fail
      go_ret2
      exact ⟨rfl, rfl⟩
  · rw [fP_at h1 hj] at HF
    rw [show prvE E (j + 1) = some ⟨e.adr, 0, none⟩ from ptrE_some hj] at HA
    generalize e.adr = p at HF HA
    rcases hkx with ⟨f, hf⟩ | hf
    · rw [ptrE_some hf] at HA
      have hr : nextR E (j + 1) = ((f.num : Int), 0) := by unfold nextR; rw [hf]
      rw [hr]
      obtain ⟨⟨c0, c1, c2, c3⟩, _, _, _, _⟩ := bk4 (h1.chain.el (j + 1) f hf)
      generalize f.adr = a at c0 c1 c2 c3 HA
      generalize f.num = l at c0 ⊢
      clear h h1 hf hr hj
      go_enter Try.func18, Try.ntmps18
      go_wp2_with fail
      refine HF.out.mono ?_
      rintro e w1 ⟨rfl, rfl⟩
      go_wp2_with fail
      refine HA.out.mono ?_
      rintro e w1 ⟨rfl, rfl⟩
      go_wp2_with fail
      go_ret2
      exact ⟨rfl, rfl⟩
    · rw [show ptrE E (j + 1) = none from by unfold ptrE; rw [hf]; rfl] at HA
      have hr : nextR E (j + 1) = (0, 8) := by unfold nextR; rw [hf]
      rw [hr]
      clear h h1 hf hr hj
      go_enter Try.func18, Try.ntmps18
      go_wp2_with fail
      refine HF.out.mono ?_
      rintro e w1 ⟨rfl, rfl⟩
      go_wp2_with fail
      refine HA.out.mono ?_
      rintro e w1 ⟨rfl, rfl⟩
      go_wp2_with fail
      go_ret2
      exact ⟨rfl, rfl⟩
theorem ol_compare_nil (i i' : Int) (w : World) : Calls Try.prog 16 #[.pointer none, .int .i64 i, .int .i64 i'] w fun e w' => e = .returned (.tuple #[.int .i64 0, .int .i64 1]) ∧ w = w' := by
  go_enter Try.func16, Try.ntmps16
  go_wp2_with fail
  go_ret2
  exact ⟨rfl, rfl⟩
theorem ol_compare_no (B x made : Nat) (mv : Int) (E : List El) (i i' : Int) (w : World) (h : OSt B x made mv E w) (hm : made ≤ 2000) (hn : i ∉ ords E ∨ i' ∉ ords E) :
    Calls Try.prog 16 #[.pointer (some ⟨x, 0, none⟩), .int .i64 i, .int .i64 i'] w fun e w' => e = .returned (.tuple #[.int .i64 0, .int .i64 12]) ∧ w = w' := by
  obtain ⟨G, cap, h1⟩ := h.ol
  have HF := Lib.hid (ol_find B x cap made G mv E i w h1 hm)
  have HF' := Lib.hid (ol_find B x cap made G mv E i' w h1 hm)
  by_cases hx : fP E i = none
  · rw [hx] at HF
    clear h h1 hn hx
    go_enter Try.func16, Try.ntmps16
    go_wp2_with fail
    refine HF.out.mono ?_
    rintro e w1 ⟨rfl, rfl⟩
    go_wp2_with fail
    refine HF'.out.mono ?_
    rintro e w1 ⟨rfl, rfl⟩
    go_wp2_with fail
    go_ret2
    exact ⟨rfl, rfl⟩
  · have hx' : fP E i' = none := by
      rcases hn with hn | hn
      · exact absurd (fP_none hn) hx
      · exact fP_none hn
    rw [hx'] at HF'
    obtain ⟨a, ha⟩ := Option.ne_none_iff_exists'.1 hx
    rw [ha] at HF
    clear h h1 hn hx hx' ha
    go_enter Try.func16, Try.ntmps16
    go_wp2_with fail
    refine HF.out.mono ?_
    rintro e w1 ⟨rfl, rfl⟩
    go_wp2_with fail
    refine HF'.out.mono ?_
    rintro e w1 ⟨rfl, rfl⟩
    go_wp2_with fail
    go_ret2
    exact ⟨rfl, rfl⟩
theorem comp_q (a b : Int) (q : Nat) (w : World) : Calls Try.prog 30 #[.int .i64 a, .int .i64 b] (w.drewN q) fun e w' => e = .returned (.int .i64 (cmpO a b)) ∧ w' = w.drewN q := (comp_any a b _).mono fun _ _ h => ⟨h.1, h.2.symm⟩
set_option maxHeartbeats 2000000 in
theorem ol_compare_yes (B x made j j' : Nat) (mv : Int) (E : List El) (a b : El) (w : World) (h : OSt B x made mv E w) (hm : made ≤ 2000) (hj : E[j]? = some a) (hj' : E[j']? = some b) :
    Calls Try.prog 16 #[.pointer (some ⟨x, 0, none⟩), .int .i64 (a.num : Int), .int .i64 (b.num : Int)] w fun e w' => e = .returned (.tuple #[.int .i64 (cmpO a.lab b.lab), .int .i64 0]) ∧ ∃ q, w' = w.drewN q := by
  obtain ⟨G, cap, h1⟩ := h.ol
  have HF := Lib.hid (ol_find B x cap made G mv E (a.num : Int) w h1 hm)
  have HF' := Lib.hid (ol_find B x cap made G mv E (b.num : Int) w h1 hm)
  rw [fP_at h1 hj] at HF
  rw [fP_at h1 hj'] at HF'
  obtain ⟨⟨c0, c1, c2, c3⟩, _, _, _, _⟩ := bk4 (h1.chain.el j a hj)
  obtain ⟨⟨d0, d1, d2, d3⟩, _, _, _, _⟩ := bk4 (h1.chain.el j' b hj')
  generalize a.adr = p at c0 c1 c2 c3 HF
  generalize b.adr = p' at d0 d1 d2 d3 HF'
  generalize a.lab = l at c1 ⊢
  generalize b.lab = l' at d1 ⊢
  clear h h1 hj hj' c0 c2 c3 d0 d2 d3
  go_enter Try.func16, Try.ntmps16
  go_wp2_with fail
  refine HF.out.mono ?_
  rintro e w1 ⟨rfl, rfl⟩
  go_wp2_with fail
  refine HF'.out.mono ?_
  rintro e w1 ⟨rfl, rfl⟩
  go_wp2_with fail
  go_quiet ((go_at_call 30; exact Calls.quiet_of_same (comp_q l l' _ _)))
  go_wp2_with fail
  go_ret2
  exact ⟨rfl, _, rfl⟩
theorem Try.infoInt : (Try.prog.info? 3).map (fun i => (i.zero, i.size, i.bytes)) = some (some (.int .i64 0), 1, 8) := by kernel_rfl
theorem ords_snoc (E : List El) (e : El) : ords (E ++ [e]) = ords E ++ [(e.num : Int)] := by simp [ords]
theorem ords_len (E : List El) : (ords E).length = E.length := by simp [ords]
set_option maxHeartbeats 2000000 in
theorem ol_order (B x made : Nat) (mv : Int) (E : List El) (w : World) (h : OSt B x made mv E w) (hm : made ≤ 2000) :
    Calls Try.prog 15 #[.pointer (some ⟨x, 0, none⟩)] w fun e w' => ∃ A cp, e = .returned (.slice A E.length cp) ∧ w'.ownsRow w.heap.size 3 1 (.slice A E.length cp) E.length ((ords E).map (Value.int .i64)) ∧ Below w.heap.size w w' := by
  obtain ⟨G, cap, h1⟩ := h.ol
  have hl := h.len
  have HL := Lib.hid (ol_list B x cap made G mv E w h1 (by omega))
  have HO := Lib.hid h1
  obtain ⟨n, hn⟩ : ∃ n, n = E.length := ⟨_, rfl⟩
  rw [← hn] at HL hl ⊢
  have HN := Lib.hid hn
  obtain ⟨i1, hi1, hy0, hy1, hy2⟩ := info_parts Try.infoInt
  clear h h1 hn
  go_enter Try.func15, Try.ntmps15
  go_wp2_with fail
  refine HL.out.mono ?_
  rintro e w1 ⟨A, cp, rfl, hp, hb⟩
  have HP1 := Lib.hid hp
  have HB1 := Lib.hid hb
  clear hp hb HL
  go_wp2_with fail
  go_loopw [3, 11] (fun s3 s11 wr => ∃ (k c3 : Nat) (A3 : Option Addr), k ≤ n ∧ s11 = .int .i64 k ∧ s3 = .slice A3 k c3 ∧ wr.ownsRow w.heap.size 3 1 (.slice A3 k c3) k ((ords (E.take k)).map (Value.int .i64)) ∧ PtrsE w E A cp wr ∧ Below w.heap.size w wr) (fun _ s11 _ => n - (intOf s11).toNat)
  case atStart => exact ⟨0, 0, none, by omega, rfl, rfl, World.ownsRow_nil _ _ _ _, HP1.out, HB1.out⟩
  case round =>
    clear HP1 HB1
    obtain ⟨k, c3, A3, hk, rfl, rfl, ho, hp, hb⟩ := hrel
    have HW := Lib.hid ho
    have HP := Lib.hid hp
    have HB := Lib.hid hb
    have hsz : w.heap.size ≤ wr.heap.size := hb.size
    clear ho hp hb
    by_cases hlt : k < n
    · have hltI : (k : Int) < (n : Int) := by omega
      obtain ⟨f, hf⟩ : ∃ f, E[k]? = some f := ⟨E[k]'(by rw [← HN.out]; exact hlt), List.getElem?_eq_getElem _⟩
      obtain ⟨g, hA, y0⟩ := HP.out.get hf
      subst hA
      have hfl : f.adr < w.heap.size := HO.out.chain.lt (List.mem_of_getElem? hf)
      have x0 := (HB.out.cell (p := ⟨f.adr, 0, none⟩) hfl).trans (bk4 (HO.out.chain.el k f hf)).1.1
      have HTK : Hid ((ords (E.take (k + 1))).map (Value.int .i64) = (ords (E.take k)).map (Value.int .i64) ++ [.int .i64 (f.num : Int)]) := Lib.hid (by rw [List.take_add_one, hf, Option.toList_some, ords_snoc, List.map_append]; rfl)
      generalize f.adr = a at hfl x0 y0
      generalize f.num = m at x0 HTK
      clear hf
      go_wp2_with (at_builtin; refine wpList_append_lies _ rfl (.tmp 15) (.tmp 20) 25 rfl w.heap.size 3 i1 _ 1 8 Try.underlying25 hi1 hy0 hy1 hy2 rfl (by decide) (.slice A3 k c3) k ((ords (E.take k)).map (Value.int .i64)) rfl (HW.out.alloc _) ⟨wr.heap.size, 0, none⟩ 1 1 [.int .i64 (m : Int)] rfl rfl (World.news_of_block (cs := #[.int .i64 (m : Int)]) (t := 3) (fr := (0, 0)) (heap_alloc_new wr _)) (by simp [Value.oneCell']) (by omega) (by unfold maxLen; omega) (by omega) (by simp; omega) (wr.heap.size + 1) (by simp) ?_)
      intro g2 cap2 W6 hown6 hgrow6 hat6 hlt6
      have hb6 : Below w.heap.size w W6 := (HB.out.alloc hsz _).grown hgrow6 (by simp; omega) (fun k' e => by have := (HW.out.lt k' e).1; omega)
      have HB6 := Lib.hid hb6
      have HO6 : Hid (W6.ownsRow w.heap.size 3 1 (.slice (some ⟨g2, 0, none⟩) (k + 1) cap2) (k + 1) ((ords (E.take (k + 1))).map (Value.int .i64))) := Lib.hid (by rw [HTK.out]; exact hown6)
      have HP6 : Hid (PtrsE w E (some ⟨g, 0, none⟩) cp W6) := Lib.hid (by
        refine World.ownsRow.kept (World.ownsRow.alloc HP.out _) hgrow6 (Or.inr fun he => ?_)
        rcases HP.out.2 with ⟨hv, _⟩ | ⟨ga, ca, cura, hva, _, hha, _⟩
        · cases hv
        · rcases HW.out.2 with ⟨hv, _⟩ | ⟨gb, cb, curb, hvb, _, hhb, _⟩
          · rw [hv] at he; cases he
          · rw [hva, hvb] at he
            have hgg : ga = gb := by simpa [Value.ownBlock] using he
            rw [hgg, hhb] at hha
            have := Option.some.inj hha
            injection this with _ h3
            exact absurd h3 (by decide))
      clear hown6 hgrow6 hat6 hlt6 hb6
      go_wp2_with fail
      go_roundw
      case rel => exact ⟨k + 1, cap2, some ⟨g2, 0, none⟩, by omega, by go_num, rfl, HO6.out, HP6.out, HB6.out⟩
      case measure => simp [intOf]; omega
    · have hkn : k = n := by omega
      subst hkn
      have HF : Hid (wr.ownsRow w.heap.size 3 1 (.slice A3 k c3) k ((ords E).map (Value.int .i64))) := Lib.hid (by
        have := HW.out
        rw [List.take_of_length_le (by have := HN.out; omega)] at this
        exact this)
      go_wp2_with fail
      go_ret
      exact ⟨A3, c3, rfl, HF.out, HB.out⟩
theorem ol_order_nil (w : World) : Calls Try.prog 15 #[.pointer none] w fun e w' => e = .returned (.slice none 0 0) ∧ w = w' := by
  go_enter Try.func15, Try.ntmps15
  go_wp2_with fail
  go_ret
  exact ⟨rfl, rfl⟩
theorem ol_insert_nilr (i : Int) (w : World) : Calls Try.prog 21 #[.pointer none, .int .i64 i] w fun e w' => e = .returned (.tuple #[.int .i64 0, .int .i64 1]) ∧ w = w' := ol_insert_nil i w
end Go.Proofs.Ytbmaijkpcpbgjaa
