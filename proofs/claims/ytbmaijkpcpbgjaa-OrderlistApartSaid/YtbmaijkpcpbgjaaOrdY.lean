/- The law's awake. -/
import Derived.Test.YtbmaijkpcpbgjaaOrdX
namespace Go.Proofs.Ytbmaijkpcpbgjaa
open Go.RowKit
set_option maxRecDepth 100000
/-- What awake inserts after, where that is, and the list then. -/
def awI : Nat → Int
  | 0 => -1
  | 1 => 0
  | 2 => 0
  | _ => -1
def awP : Nat → Nat
  | 0 => 0
  | 1 => 1
  | 2 => 1
  | _ => 0
def awL : Nat → List Int
  | 0 => []
  | 1 => [0]
  | 2 => [0, 1]
  | 3 => [0, 2, 1]
  | _ => [3, 0, 2, 1]
theorem aw_pos {E : List El} {k : Nat} (hk : k < 4) (h : ords E = awL k) : PosK E (awI k) (awP k) := by
  have key : ∀ j : Nat, (ords E)[j]? = some 0 → ∃ e, E[j]? = some e ∧ (0 : Int) = (e.num : Int) := fun j hj => by
    unfold ords at hj
    rw [List.getElem?_map] at hj
    obtain ⟨e, he, hn⟩ := Option.map_eq_some_iff.1 hj
    exact ⟨e, he, hn.symm⟩
  rcases (show k = 0 ∨ k = 1 ∨ k = 2 ∨ k = 3 by omega) with rfl | rfl | rfl | rfl
  · exact Or.inl ⟨rfl, rfl⟩
  · obtain ⟨e, he, hn⟩ := key 0 (by rw [h]; rfl)
    exact Or.inr ⟨0, e, he, hn, rfl⟩
  · obtain ⟨e, he, hn⟩ := key 0 (by rw [h]; rfl)
    exact Or.inr ⟨0, e, he, hn, rfl⟩
  · exact Or.inl ⟨rfl, rfl⟩
theorem aw_next {k : Nat} (hk : k < 4) : insE (awL k) (awP k) (k : Int) = awL (k + 1) := by
  rcases (show k = 0 ∨ k = 1 ∨ k = 2 ∨ k = 3 by omega) with rfl | rfl | rfl | rfl <;> rfl
theorem ords_at {E : List El} {j : Nat} {n : Nat} (h : (ords E)[j]? = some (n : Int)) : ∃ e, E[j]? = some e ∧ e.num = n := by
  unfold ords at h
  rw [List.getElem?_map] at h
  obtain ⟨e, he, hn⟩ := Option.map_eq_some_iff.1 h
  exact ⟨e, he, by omega⟩
theorem cmp_at {E : List El} (hA : Asc E) {i j : Nat} {a b : El} (hi : E[i]? = some a) (hj : E[j]? = some b) (h : i < j) : cmpO a.lab b.lab = -1 := cmpO_lt (hA.1 i j a b h hi hj)
set_option maxHeartbeats 8000000 in
theorem awake_any (w : World) : Calls Try.prog 9 #[] w fun er w' => er = .returned (.bool true) ∧ Below w.heap.size w w' := by
  have HNEW := Lib.hid (ol_new_at w w.heap.size rfl)
  go_enter Try.func9, Try.ntmps9
  go_wp2_with fail
  refine HNEW.out.mono ?_
  rintro er w1 ⟨rfl, rfl⟩
  go_wp2_with fail
  go_loopw [13] (fun s13 wr => ∃ (k : Nat) (mv : Int) (E : List El), k ≤ 4 ∧ s13 = .int .i64 k ∧ OSt w.heap.size w.heap.size k mv E wr ∧ ords E = awL k ∧ wr.heap[w.heap.size + 1]? = some (.cells #[.int .i64 (-1), .int .i64 0, .int .i64 0, .int .i64 (-1)] 3 (0, 0)) ∧ Below w.heap.size w wr) (fun s13 _ => 4 - (intOf s13).toNat)
  case atStart =>
    refine ⟨0, 0, [], by omega, rfl, (ost_new w.heap.size w (Nat.le_refl _)).below ((Below.refl _ _).alloc (Nat.le_refl _) _), rfl, ?_, ((Below.refl _ _).alloc (Nat.le_refl _) _).alloc (by simp) _⟩
    have := bdNew (w.alloc (.cells #[.slice none 0 0, .pointer none, .int .i64 0, .int .i64 0] 60)) (.cells #[.int .i64 (-1), .int .i64 0, .int .i64 0, .int .i64 (-1)] 3)
    rw [show (w.alloc (.cells #[.slice none 0 0, .pointer none, .int .i64 0, .int .i64 0] 60)).heap.size = w.heap.size + 1 by simp] at this
    exact this
  case round =>
    obtain ⟨k, mv, E, hk, rfl, ho, hL, hbx, hb⟩ := hrel
    have HO := Lib.hid ho
    have HL := Lib.hid hL
    have HX := Lib.hid hbx
    have HB := Lib.hid hb
    have hsz := hb.size
    have hlen : E.length = (awL k).length := by rw [← hL, ords_len]
    by_cases hlt : k < 4
    · have y0 : wr.cell? ⟨w.heap.size + 1, k, none⟩ = some (.int .i64 (awI k)) := by
        obtain ⟨⟨x0, x1, x2, x3⟩, _, _, _, _⟩ := bk4 hbx
        rcases (show k = 0 ∨ k = 1 ∨ k = 2 ∨ k = 3 by omega) with rfl | rfl | rfl | rfl
        · exact x0
        · exact x1
        · exact x2
        · exact x3
      have HI := Lib.hid (ol_insert_yes w.heap.size w.heap.size k (awP k) mv E (awI k) wr ho (by omega) (aw_pos hlt hL))
      have HNX := Lib.hid (aw_next hlt)
      have d1 : ((k : Int) != (k : Int)) = false := by simp
      have hkI : (k : Int) < 4 := by omega
      generalize awI k = iv at y0 HI
      clear ho hL hbx hb hlen
      go_wp2_with fail
      refine HI.out.mono ?_
      rintro er w2 ⟨rfl, ⟨a, ho2⟩, hb2, hk2⟩
      have HO2 := Lib.hid ho2
      have HB2 := Lib.hid hb2
      have HK2 := Lib.hid hk2
      clear ho2 hb2 hk2
      go_wp2_with fail
      go_roundw
      case rel =>
        refine ⟨k + 1, _, _, by omega, by go_num, HO2.out, ?_, HK2.out _ _ _ _ HX.out (by decide), HB.out.trans HB2.out⟩
        rw [ords_ins, ords_spr, HL.out]
        exact HNX.out
      case measure => simp [intOf]; omega
    · obtain rfl : k = 4 := by omega
      have hL4 : ords E = [3, 0, 2, 1] := hL
      obtain ⟨e2, he2, hn2⟩ := ords_at (E := E) (j := 2) (n := 2) (by rw [hL4]; rfl)
      obtain ⟨e3, he3, hn3⟩ := ords_at (E := E) (j := 3) (n := 1) (by rw [hL4]; rfl)
      have HC := Lib.hid (ol_compare_yes w.heap.size w.heap.size 4 2 3 mv E e2 e3 wr ho (by omega) he2 he3)
      rw [cmp_at ho.asc he2 he3 (by omega), hn2, hn3] at HC
      have hE4 : E.length = 4 := by rw [hlen]; rfl
      have HE4 := Lib.hid hE4
      have HL4 := Lib.hid hL4
      clear ho hL hbx hb hlen he2 he3 hn2 hn3 hL4 hE4
      go_wp2_with fail
      refine HC.out.mono ?_
      rintro er w2 ⟨rfl, q, rfl⟩
      have HOr := Lib.hid (ol_order w.heap.size w.heap.size 4 mv E (wr.drewN q) (HO.out.drewN q) (by omega))
      rw [HE4.out] at HOr
      go_wp2_with fail
      refine HOr.out.mono ?_
      rintro er w3 ⟨A, cp, rfl, hrow, hb3⟩
      have hz3 := hb3.size
      have HR3 := Lib.hid hrow
      have HB3 : Hid (Below w.heap.size w w3) := Lib.hid ((bdN HB.out q).trans (hb3.mono (by show w.heap.size ≤ wr.heap.size; omega)))
      have HEQ := Lib.hid (eqI_any (fun _ => True) (fun _ => True) A (some ⟨w3.heap.size, 0, none⟩) cp 4 (ords E) [3, 0, 2, 1] (w3.alloc (.cells #[.int .i64 3, .int .i64 0, .int .i64 2, .int .i64 1] 3)) (by rw [ords_len, HE4.out]; unfold maxLen; omega) (by unfold maxLen; simp) (by
          have := World.ownsRow.alloc hrow (.cells #[.int .i64 3, .int .i64 0, .int .i64 2, .int .i64 1] 3)
          exact intsAt_own (B := wr.heap.size) (n := 4) (c := cp) (by rw [ords_len, HE4.out]; exact this) (fun _ _ _ => trivial)) (fun _ => by
          refine ⟨w3.heap.size, 0, rfl, trivial, fun i x hi => ?_⟩
          obtain ⟨⟨x0, x1, x2, x3⟩, _, _, _, _⟩ := bk4 (bdNew w3 (.cells #[.int .i64 3, .int .i64 0, .int .i64 2, .int .i64 1] 3))
          rw [Nat.zero_add]
          have hi4 := (List.getElem?_eq_some_iff.1 hi).1
          simp at hi4
          rcases (show i = 0 ∨ i = 1 ∨ i = 2 ∨ i = 3 by omega) with rfl | rfl | rfl | rfl
          · rw [x0]; injection hi with hi; rw [← hi]
          · rw [x1]; injection hi with hi; rw [← hi]
          · rw [x2]; injection hi with hi; rw [← hi]
          · rw [x3]; injection hi with hi; rw [← hi]))
      rw [ords_len, HE4.out, HL4.out, show decide (([3, 0, 2, 1] : List Int) = [3, 0, 2, 1]) = true from by decide, show ([3, 0, 2, 1] : List Int).length = 4 from rfl] at HEQ
      clear hrow hb3
      go_wp2_with fail
      refine HEQ.out.mono ?_
      rintro er w4 ⟨rfl, q4, rfl⟩
      go_wp2_with fail
      go_ret
      exact ⟨rfl, bdN (HB3.out.alloc (by have h9 : wr.heap.size ≤ w3.heap.size := hz3; omega) _) q4⟩
end Go.Proofs.Ytbmaijkpcpbgjaa
