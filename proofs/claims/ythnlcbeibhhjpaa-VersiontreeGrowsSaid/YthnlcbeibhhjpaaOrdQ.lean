/- Walks: New, Len, Contains, Compare, Next, Label, Moves, Order. -/
import Derived.Test.YthnlcbeibhhjpaaOrdP
namespace Go.Proofs.Ythnlcbeibhhjpaa
open Go.RowKit
set_option maxRecDepth 100000
theorem fP_at {B x cap made : Nat} {G : Option Addr} {mv : Int} {E : List El} {w : World} (h : OL B x G cap made mv E w) {j : Nat} {e : El} (hj : E[j]? = some e) : fP E (e.num : Int) = some ⟨e.adr, 0, none⟩ := by
  unfold fP
  rw [if_neg (by omega), show ((e.num : Int)).toNat = e.num by omega, adrOf_some h.chain.nums hj]
  rfl
theorem ol_new (w : World) : Calls Try.prog 44 #[] w fun e w' => e = .returned (.pointer (some ⟨w.heap.size, 0, none⟩)) ∧ w' = w.alloc (.cells #[.slice none 0 0, .pointer none, .int .i64 0, .int .i64 0] 80) := by
  go_enter Try.func44, Try.ntmps44
  go_wp2_with fail
  go_ret
  exact ⟨rfl, rfl⟩
theorem ost_new (B : Nat) (w : World) (hB : B ≤ w.heap.size) : OSt B w.heap.size 0 0 [] (w.alloc (.cells #[.slice none 0 0, .pointer none, .int .i64 0, .int .i64 0] 80)) :=
  ⟨⟨none, 0, ⟨bdNew _ _, World.ownsRow_nil _ _ _ _, ⟨fun j e h => by simp at h, by simp⟩, fun e h => by simp at h⟩⟩, Asc.nil, by simp, by omega, hB⟩
/-- What Next says of a place. -/
def nextR (E : List El) (k : Nat) : Int × Int := match E[k]? with
  | some f => ((f.num : Int), 0)
  | none => (0, 8)
theorem ol_compare_nil (i i' : Int) (w : World) : Calls Try.prog 45 #[.pointer none, .int .i64 i, .int .i64 i'] w fun e w' => e = .returned (.tuple #[.int .i64 0, .int .i64 1]) ∧ w = w' := by
  go_enter Try.func45, Try.ntmps45
  go_wp2_with fail
  go_ret2
  exact ⟨rfl, rfl⟩
theorem ol_compare_no (B x made : Nat) (mv : Int) (E : List El) (i i' : Int) (w : World) (h : OSt B x made mv E w) (hm : made ≤ 2000) (hn : i ∉ ords E ∨ i' ∉ ords E) :
    Calls Try.prog 45 #[.pointer (some ⟨x, 0, none⟩), .int .i64 i, .int .i64 i'] w fun e w' => e = .returned (.tuple #[.int .i64 0, .int .i64 12]) ∧ w = w' := by
  obtain ⟨G, cap, h1⟩ := h.ol
  have HF := Lib.hid (ol_find B x cap made G mv E i w h1 hm)
  have HF' := Lib.hid (ol_find B x cap made G mv E i' w h1 hm)
  by_cases hx : fP E i = none
  · rw [hx] at HF
    clear h h1 hn hx
    go_enter Try.func45, Try.ntmps45
    go_wp2_with fail
    refine HF.out.mono ?_
    rintro e w1 ⟨rfl, rfl⟩
    go_wp2_with fail
    refine HF'.out.mono ?_
    rintro e w1 ⟨rfl, rfl⟩
    go_wp2_with fail
    go_ret2
    exact ⟨rfl, rfl⟩
  · have hx' : fP E i' = none := by
      rcases hn with hn | hn
      · exact absurd (fP_none hn) hx
      · exact fP_none hn
    rw [hx'] at HF'
    obtain ⟨a, ha⟩ := Option.ne_none_iff_exists'.1 hx
    rw [ha] at HF
    clear h h1 hn hx hx' ha
    go_enter Try.func45, Try.ntmps45
    go_wp2_with fail
    refine HF.out.mono ?_
    rintro e w1 ⟨rfl, rfl⟩
    go_wp2_with fail
    refine HF'.out.mono ?_
    rintro e w1 ⟨rfl, rfl⟩
    go_wp2_with fail
    go_ret2
    exact ⟨rfl, rfl⟩
theorem comp_q (a b : Int) (q : Nat) (w : World) : Calls Try.prog 48 #[.int .i64 a, .int .i64 b] (w.drewN q) fun e w' => e = .returned (.int .i64 (cmpO a b)) ∧ w' = w.drewN q := (comp_any a b _).mono fun _ _ h => ⟨h.1, h.2.symm⟩
set_option maxHeartbeats 2000000 in
theorem ol_compare_yes (B x made j j' : Nat) (mv : Int) (E : List El) (a b : El) (w : World) (h : OSt B x made mv E w) (hm : made ≤ 2000) (hj : E[j]? = some a) (hj' : E[j']? = some b) :
    Calls Try.prog 45 #[.pointer (some ⟨x, 0, none⟩), .int .i64 (a.num : Int), .int .i64 (b.num : Int)] w fun e w' => e = .returned (.tuple #[.int .i64 (cmpO a.lab b.lab), .int .i64 0]) ∧ ∃ q, w' = w.drewN q := by
  obtain ⟨G, cap, h1⟩ := h.ol
  have HF := Lib.hid (ol_find B x cap made G mv E (a.num : Int) w h1 hm)
  have HF' := Lib.hid (ol_find B x cap made G mv E (b.num : Int) w h1 hm)
  rw [fP_at h1 hj] at HF
  rw [fP_at h1 hj'] at HF'
  obtain ⟨⟨c0, c1, c2, c3⟩, _, _, _, _⟩ := bk4 (h1.chain.el j a hj)
  obtain ⟨⟨d0, d1, d2, d3⟩, _, _, _, _⟩ := bk4 (h1.chain.el j' b hj')
  generalize a.adr = p at c0 c1 c2 c3 HF
  generalize b.adr = p' at d0 d1 d2 d3 HF'
  generalize a.lab = l at c1 ⊢
  generalize b.lab = l' at d1 ⊢
  clear h h1 hj hj' c0 c2 c3 d0 d2 d3
  go_enter Try.func45, Try.ntmps45
  go_wp2_with fail
  refine HF.out.mono ?_
  rintro e w1 ⟨rfl, rfl⟩
  go_wp2_with fail
  refine HF'.out.mono ?_
  rintro e w1 ⟨rfl, rfl⟩
  go_wp2_with fail
  go_quiet ((go_at_call 48; exact Calls.quiet_of_same (comp_q l l' _ _)))
  go_wp2_with fail
  go_ret2
  exact ⟨rfl, _, rfl⟩
theorem Try.infoInt : (Try.prog.info? 3).map (fun i => (i.zero, i.size, i.bytes)) = some (some (.int .i64 0), 1, 8) := by kernel_rfl
theorem ords_snoc (E : List El) (e : El) : ords (E ++ [e]) = ords E ++ [(e.num : Int)] := by simp [ords]
theorem ords_len (E : List El) : (ords E).length = E.length := by simp [ords]
theorem ol_insert_nilr (i : Int) (w : World) : Calls Try.prog 46 #[.pointer none, .int .i64 i] w fun e w' => e = .returned (.tuple #[.int .i64 0, .int .i64 1]) ∧ w = w' := ol_insert_nil i w
end Go.Proofs.Ythnlcbeibhhjpaa
