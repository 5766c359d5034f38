/- The reference of layer 28: where steps are refused; Compare, Next, Most. What ties it to the elements. -/
import Derived.Test.YtbmaijkpcpbgjaaOrdU
import Derived.Test.YtbmaijkpcpbgjaaOrdSFN
import Derived.Test.YtbmaijkpcpbgjaaOrdSFE
import Derived.Test.YtbmaijkpcpbgjaaOrdSFS
import Derived.Test.YtbmaijkpcpbgjaaOrdSTE
import Derived.Test.YtbmaijkpcpbgjaaOrdSTS
namespace Go.Proofs.Ytbmaijkpcpbgjaa
open Go.RowKit
set_option maxRecDepth 100000
set_option maxHeartbeats 2000000 in
theorem refIns_no (B cap n made : Nat) (A : Option Addr) (L : List Int) (w : World) (hn : L.length = n) (h : ORow B w A cap L) (x : Int) (hx : x ≠ -1) (hat : atI L x = -1) :
    Calls Try.prog 27 #[.agg #[.slice A n cap, .int .i64 made], .int .i64 x] w fun e w' => e = .returned (.tuple #[.agg #[.slice A n cap, .int .i64 made], .int .i64 0, .int .i64 12]) ∧ Below w.heap.size w w' := by
  have HAT := Lib.hid (refAt_any B A cap n made L x (w.alloc (.cells #[.slice A n cap, .int .i64 made] 27) |>.alloc (.cells #[.slice none 0 0, .int .i64 0] 27)) hn ((h.below ((Below.refl _ _).alloc (Nat.le_refl _) _)).below ((Below.refl _ _).alloc (Nat.le_refl _) _)))
  rw [hat] at HAT
  have d1 : (x != -1) = true := by simpa using hx
  clear hn h hat hx
  go_enter Try.func27, Try.ntmps27
  go_wp2_with fail
  refine HAT.out.mono ?_
  rintro er w1 ⟨rfl, rfl⟩
  go_wp2_with fail
  exact bodyPost_ret (v := .tuple #[.agg #[.slice A n cap, .int .i64 made], .int .i64 0, .int .i64 12]) (by simp [results, Try.results27, go_sem]) rfl ⟨rfl, (((Below.refl _ _).alloc (Nat.le_refl _) _).alloc (by simp) _).alloc (by simp; omega) _⟩
set_option maxHeartbeats 2000000 in
theorem refDel_no (B cap n made : Nat) (A : Option Addr) (L : List Int) (w : World) (hn : L.length = n) (h : ORow B w A cap L) (x : Int) (hat : atI L x = -1) :
    Calls Try.prog 26 #[.agg #[.slice A n cap, .int .i64 made], .int .i64 x] w fun e w' => e = .returned (.tuple #[.agg #[.slice A n cap, .int .i64 made], .int .i64 12]) ∧ Below w.heap.size w w' := by
  have HAT := Lib.hid (refAt_any B A cap n made L x (w.alloc (.cells #[.slice A n cap, .int .i64 made] 27) |>.alloc (.cells #[.slice none 0 0, .int .i64 0] 27)) hn ((h.below ((Below.refl _ _).alloc (Nat.le_refl _) _)).below ((Below.refl _ _).alloc (Nat.le_refl _) _)))
  rw [hat] at HAT
  clear hn h hat
  go_enter Try.func26, Try.ntmps26
  go_wp2_with fail
  refine HAT.out.mono ?_
  rintro er w1 ⟨rfl, rfl⟩
  go_wp2_with fail
  exact bodyPost_ret (v := .tuple #[.agg #[.slice A n cap, .int .i64 made], .int .i64 12]) (by simp [results, Try.results26, go_sem]) rfl ⟨rfl, (((Below.refl _ _).alloc (Nat.le_refl _) _).alloc (by simp) _).alloc (by simp; omega) _⟩
/-- What the reference's Compare says of two indices. -/
def cmpR (a b : Int) : Int × Int := if a < 0 ∨ b < 0 then (0, 12) else if a < b then (-1, 0) else if b < a then (1, 0) else (0, 0)
set_option maxHeartbeats 4000000 in
theorem refCompare_any (B cap n made : Nat) (A : Option Addr) (L : List Int) (x y : Int) (w : World) (hn : L.length = n) (h : ORow B w A cap L) :
    Calls Try.prog 17 #[.agg #[.slice A n cap, .int .i64 made], .int .i64 x, .int .i64 y] w fun e w' => e = .returned (.tuple #[.int .i64 (cmpR (atI L x) (atI L y)).1, .int .i64 (cmpR (atI L x) (atI L y)).2]) ∧ Below w.heap.size w w' := by
  have HA1 := Lib.hid (refAt_any B A cap n made L x (w.alloc (.cells #[.slice A n cap, .int .i64 made] 27)) hn (h.below ((Below.refl _ _).alloc (Nat.le_refl _) _)))
  have HA2 := Lib.hid (refAt_any B A cap n made L y ((w.alloc (.cells #[.slice A n cap, .int .i64 made] 27)).alloc (.cells #[.slice A n cap, .int .i64 made] 27)) hn ((h.below ((Below.refl _ _).alloc (Nat.le_refl _) _)).below ((Below.refl _ _).alloc (Nat.le_refl _) _)))
  have hb : Below w.heap.size w (((w.alloc (.cells #[.slice A n cap, .int .i64 made] 27)).alloc (.cells #[.slice A n cap, .int .i64 made] 27)).alloc (.cells #[.slice A n cap, .int .i64 made] 27)) := (((Below.refl _ _).alloc (Nat.le_refl _) _).alloc (by simp) _).alloc (by simp; omega) _
  have HB := Lib.hid hb
  generalize atI L x = a at HA1 ⊢
  generalize atI L y = b at HA2 ⊢
  clear hn h hb
  have e1 : a < 0 ∨ b < 0 → cmpR a b = (0, 12) := fun h => by unfold cmpR; rw [if_pos h]
  have e2 : 0 ≤ a → 0 ≤ b → a < b → cmpR a b = (-1, 0) := fun h1 h2 h3 => by unfold cmpR; rw [if_neg (by omega), if_pos h3]
  have e3 : 0 ≤ a → 0 ≤ b → b < a → cmpR a b = (1, 0) := fun h1 h2 h3 => by unfold cmpR; rw [if_neg (by omega), if_neg (by omega), if_pos h3]
  have e4 : 0 ≤ a → 0 ≤ b → a = b → cmpR a b = (0, 0) := fun h1 h2 h3 => by unfold cmpR; rw [if_neg (by omega), if_neg (by omega), if_neg (by omega)]
  rcases (show (a < 0) ∨ (0 ≤ a ∧ b < 0) ∨ (0 ≤ a ∧ 0 ≤ b ∧ a < b) ∨ (0 ≤ a ∧ 0 ≤ b ∧ b < a) ∨ (0 ≤ a ∧ 0 ≤ b ∧ a = b) by omega) with ha | ⟨ha, hb⟩ | ⟨ha, hb, hc⟩ | ⟨ha, hb, hc⟩ | ⟨ha, hb, hc⟩
  · rw [e1 (Or.inl ha)]
    have d1 : decide (a < 0) = true := decide_eq_true ha
    clear e1 e2 e3 e4
    go_enter Try.func17, Try.ntmps17
    go_wp2_with fail
    refine HA1.out.mono ?_
    rintro er w1 ⟨rfl, rfl⟩
    go_wp2_with fail
    refine HA2.out.mono ?_
    rintro er w1 ⟨rfl, rfl⟩
    go_wp2_with fail
    go_ret2
    exact ⟨rfl, HB.out⟩
  · rw [e1 (Or.inr hb)]
    have d1 : decide (a < 0) = false := decide_eq_false (by omega)
    have d2 : decide (b < 0) = true := decide_eq_true hb
    clear e1 e2 e3 e4
    go_enter Try.func17, Try.ntmps17
    go_wp2_with fail
    refine HA1.out.mono ?_
    rintro er w1 ⟨rfl, rfl⟩
    go_wp2_with fail
    refine HA2.out.mono ?_
    rintro er w1 ⟨rfl, rfl⟩
    go_wp2_with fail
    go_ret2
    exact ⟨rfl, HB.out⟩
  · rw [e2 ha hb hc]
    have d1 : decide (a < 0) = false := decide_eq_false (by omega)
    have d2 : decide (b < 0) = false := decide_eq_false (by omega)
    have d3 : decide (a < b) = true := decide_eq_true hc
    clear e1 e2 e3 e4
    go_enter Try.func17, Try.ntmps17
    go_wp2_with fail
    refine HA1.out.mono ?_
    rintro er w1 ⟨rfl, rfl⟩
    go_wp2_with fail
    refine HA2.out.mono ?_
    rintro er w1 ⟨rfl, rfl⟩
    go_wp2_with fail
    go_ret2
    exact ⟨rfl, HB.out⟩
  · rw [e3 ha hb hc]
    have d1 : decide (a < 0) = false := decide_eq_false (by omega)
    have d2 : decide (b < 0) = false := decide_eq_false (by omega)
    have d3 : decide (a < b) = false := decide_eq_false (by omega)
    have d4 : decide (b < a) = true := decide_eq_true hc
    clear e1 e2 e3 e4
    go_enter Try.func17, Try.ntmps17
    go_wp2_with fail
    refine HA1.out.mono ?_
    rintro er w1 ⟨rfl, rfl⟩
    go_wp2_with fail
    refine HA2.out.mono ?_
    rintro er w1 ⟨rfl, rfl⟩
    go_wp2_with fail
    go_ret2
    exact ⟨rfl, HB.out⟩
  · rw [e4 ha hb hc]
    have d1 : decide (a < 0) = false := decide_eq_false (by omega)
    have d2 : decide (b < 0) = false := decide_eq_false (by omega)
    have d3 : decide (a < b) = false := decide_eq_false (by omega)
    have d4 : decide (b < a) = false := decide_eq_false (by omega)
    clear e1 e2 e3 e4 hc
    go_enter Try.func17, Try.ntmps17
    go_wp2_with fail
    refine HA1.out.mono ?_
    rintro er w1 ⟨rfl, rfl⟩
    go_wp2_with fail
    refine HA2.out.mono ?_
    rintro er w1 ⟨rfl, rfl⟩
    go_wp2_with fail
    go_ret2
    exact ⟨rfl, HB.out⟩
/-- What the reference's Next says of a place. -/
def nxtI (L : List Int) (k : Nat) : Int × Int := match L[k]? with
  | some y => (y, 0)
  | none => (0, 8)
set_option maxHeartbeats 4000000 in
theorem refNext_no (B cap n made : Nat) (A : Option Addr) (L : List Int) (x : Int) (w : World) (hn : L.length = n) (h : ORow B w A cap L) (hx : x ≠ -1) (hat : atI L x = -1) :
    Calls Try.prog 19 #[.agg #[.slice A n cap, .int .i64 made], .int .i64 x] w fun e w' => e = .returned (.tuple #[.int .i64 0, .int .i64 12]) ∧ Below w.heap.size w w' := by
  have HAT := Lib.hid (refAt_any B A cap n made L x (w.alloc (.cells #[.slice A n cap, .int .i64 made] 27)) hn (h.below ((Below.refl _ _).alloc (Nat.le_refl _) _)))
  rw [hat] at HAT
  have d1 : (x != -1) = true := by simpa using hx
  clear hn h hat hx
  go_enter Try.func19, Try.ntmps19
  go_wp2_with fail
  refine HAT.out.mono ?_
  rintro er w1 ⟨rfl, rfl⟩
  go_wp2_with fail
  go_ret2
  exact ⟨rfl, ((Below.refl _ _).alloc (Nat.le_refl _) _).alloc (by simp) _⟩
set_option maxHeartbeats 4000000 in
theorem refNext_front (B cap n made : Nat) (A : Option Addr) (L : List Int) (w : World) (hn : L.length = n) (h : ORow B w A cap L) :
    Calls Try.prog 19 #[.agg #[.slice A n cap, .int .i64 made], .int .i64 (-1)] w fun e w' => e = .returned (.tuple #[.int .i64 (nxtI L 0).1, .int .i64 (nxtI L 0).2]) ∧ Below w.heap.size w w' := by
  rcases (show L[0]? = none ∨ ∃ y, L[0]? = some y by cases L[0]? <;> simp) with hL | ⟨y, hL⟩
  · have e1 : nxtI L 0 = (0, 8) := by unfold nxtI; rw [hL]
    obtain rfl : n = 0 := by have := List.getElem?_eq_none_iff.1 hL; omega
    rw [e1]
    clear hn h hL e1
    go_enter Try.func19, Try.ntmps19
    go_wp2_with fail
    go_ret2
    exact ⟨rfl, (Below.refl _ _).alloc (Nat.le_refl _) _⟩
  · have e1 : nxtI L 0 = (y, 0) := by unfold nxtI; rw [hL]
    have hp := (List.getElem?_eq_some_iff.1 hL).1
    obtain ⟨g, hA, _, hgl, y0⟩ := h.get hL
    subst hA
    have h0 : (0 == (n : Int)) = false := by simp; omega
    have h1 : (0 : Int) < (n : Int) := by omega
    have h2 : 0 < n := by omega
    have hne : g ≠ w.heap.size := by omega
    rw [e1]
    clear hn h hL e1 hp
    go_enter Try.func19, Try.ntmps19
    go_wp2_with fail
    go_ret2
    exact ⟨rfl, (Below.refl _ _).alloc (Nat.le_refl _) _⟩
set_option maxHeartbeats 4000000 in
theorem refNext_at (B cap n made j : Nat) (A : Option Addr) (L : List Int) (x : Int) (w : World) (hn : L.length = n) (hl : n ≤ 2000) (h : ORow B w A cap L) (hx : x ≠ -1) (hat : atI L x = (j : Int)) (hj : j < n) :
    Calls Try.prog 19 #[.agg #[.slice A n cap, .int .i64 made], .int .i64 x] w fun e w' => e = .returned (.tuple #[.int .i64 (nxtI L (j + 1)).1, .int .i64 (nxtI L (j + 1)).2]) ∧ Below w.heap.size w w' := by
  have HAT := Lib.hid (refAt_any B A cap n made L x (w.alloc (.cells #[.slice A n cap, .int .i64 made] 27)) hn (h.below ((Below.refl _ _).alloc (Nat.le_refl _) _)))
  rw [hat] at HAT
  have d1 : (x != -1) = true := by simpa using hx
  have d2 : (((j : Int) + 1) == 0) = false := by simp; omega
  rcases (show L[j + 1]? = none ∨ ∃ y, L[j + 1]? = some y by cases L[j + 1]? <;> simp) with hL | ⟨y, hL⟩
  · have e1 : nxtI L (j + 1) = (0, 8) := by unfold nxtI; rw [hL]
    obtain rfl : n = j + 1 := by have := List.getElem?_eq_none_iff.1 hL; omega
    rw [e1]
    have d3 : (((j : Int) + 1) == ((j + 1 : Nat) : Int)) = true := by simp
    clear hn h hL e1 hat hx
    go_enter Try.func19, Try.ntmps19
    go_wp2_with fail
    refine HAT.out.mono ?_
    rintro er w1 ⟨rfl, rfl⟩
    go_wp2_with fail
    go_ret2
    exact ⟨rfl, ((Below.refl _ _).alloc (Nat.le_refl _) _).alloc (by simp) _⟩
  · have e1 : nxtI L (j + 1) = (y, 0) := by unfold nxtI; rw [hL]
    have hp := (List.getElem?_eq_some_iff.1 hL).1
    obtain ⟨g, hA, _, hgl, y0⟩ := h.get hL
    subst hA
    have h0 : (((j : Int) + 1) == (n : Int)) = false := by simp; omega
    have h1 : (j : Int) + 1 < (n : Int) := by omega
    have h4 : (0 : Int) ≤ (j : Int) + 1 := by omega
    have h5 : ((j : Int) + 1).toNat = j + 1 := by omega
    have hne : g ≠ w.heap.size := by omega
    have hne2 : g ≠ w.heap.size + 1 := by omega
    rw [e1]
    clear hn h hL e1 hp hat hx
    go_enter Try.func19, Try.ntmps19
    go_wp2_with fail
    refine HAT.out.mono ?_
    rintro er w1 ⟨rfl, rfl⟩
    go_wp2_with fail
    go_ret2
    exact ⟨rfl, ((Below.refl _ _).alloc (Nat.le_refl _) _).alloc (by simp) _⟩
/-! ### Ties -/
theorem ords_get {E : List El} {j : Nat} {e : El} (h : E[j]? = some e) : (ords E)[j]? = some (e.num : Int) := by unfold ords; rw [List.getElem?_map, h]; rfl
theorem ords_mem {E : List El} {i : Int} : (∃ (j : Nat) (e : El), E[j]? = some e ∧ i = (e.num : Int)) ∨ i ∉ ords E := by
  by_cases h : i ∈ ords E
  · obtain ⟨e, he, hn⟩ := List.mem_map.1 h
    obtain ⟨j, hj⟩ := List.getElem?_of_mem he
    exact Or.inl ⟨j, e, hj, hn.symm⟩
  · exact Or.inr h
theorem at_no {E : List El} {i : Int} (h : i ∉ ords E) : atI (ords E) i = -1 := atI_none fun k u _ hu => by
  simp only [beq_eq_false_iff_ne, ne_eq]
  exact fun he => h (he ▸ List.mem_of_getElem? hu)
theorem num_inj {E : List El} (hn : (E.map El.num).Nodup) {i j : Nat} {a b : El} (hi : E[i]? = some a) (hj : E[j]? = some b) (h : a.num = b.num) : i = j := by
  obtain ⟨hil, rfl⟩ := List.getElem?_eq_some_iff.1 hi
  obtain ⟨hjl, rfl⟩ := List.getElem?_eq_some_iff.1 hj
  have hp := List.pairwise_iff_getElem.1 hn
  rcases Nat.lt_trichotomy i j with hlt | heq | hgt
  · exact absurd (by rw [List.getElem_map, List.getElem_map]; exact h) (hp i j (by simpa using hil) (by simpa using hjl) hlt)
  · exact heq
  · exact absurd (by rw [List.getElem_map, List.getElem_map]; exact h.symm) (hp j i (by simpa using hjl) (by simpa using hil) hgt)
theorem at_yes {E : List El} (hn : (E.map El.num).Nodup) {j : Nat} {e : El} (h : E[j]? = some e) : atI (ords E) (e.num : Int) = j := atI_hit (ords_get h) fun k u hk hu => by
  simp only [beq_eq_false_iff_ne, ne_eq]
  intro he
  unfold ords at hu
  rw [List.getElem?_map] at hu
  obtain ⟨f, hf, hfu⟩ := Option.map_eq_some_iff.1 hu
  have hnn : f.num = e.num := by omega
  have := num_inj hn hf h hnn
  omega
theorem ords_ins (E : List El) (k n : Nat) (l : Int) (a : Nat) : ords (insE E k ⟨n, l, a⟩) = insE (ords E) k (n : Int) := by unfold ords; rw [insE_map]
theorem ords_spr (E : List El) (k : Nat) : ords (sprE E k) = ords E := by
  have h := sprE_num E k
  unfold ords
  rw [show (fun e : El => (e.num : Int)) = (fun n : Nat => (n : Int)) ∘ El.num from rfl, ← List.map_map, ← List.map_map, h]
theorem ords_erase (E : List El) (j : Nat) : ords (E.eraseIdx j) = (ords E).eraseIdx j := by
  unfold ords
  rw [List.eraseIdx_eq_take_drop_succ, List.eraseIdx_eq_take_drop_succ, List.map_append, List.map_take, List.map_drop]
/-- The reference's InsertAfter at a place. -/
theorem refIns_yes (B cap n made k : Nat) (A : Option Addr) (E : List El) (i : Int) (w : World) (hn : E.length = n) (hl : n ≤ 2000) (hm : made < 2000) (h : ORow B w A cap (ords E)) (hd : (E.map El.num).Nodup) (hk : PosK E i k) :
    Calls Try.prog 27 #[.agg #[.slice A n cap, .int .i64 made], .int .i64 i] w (RIns made (insE (ords E) k (made : Int)) w) := by
  have hn' : (ords E).length = n := by rw [ords_len, hn]
  rcases hk with ⟨rfl, rfl⟩ | ⟨j, e, hj, rfl, rfl⟩
  · cases A with
    | none => exact refIns_FN B cap n made (ords E) w hn' hm hl h
    | some ad =>
      have hA : ∃ g, ad = ⟨g, 0, none⟩ := by
        rcases h.2 with ⟨hv, _⟩ | ⟨g, cp, cur, hv, _⟩
        · cases hv
        · exact ⟨g, by injection hv with hv; injection hv⟩
      obtain ⟨g, rfl⟩ := hA
      by_cases hc : cap = 0
      · subst hc; exact refIns_FE B n made (ords E) w hn' hm hl g h
      · exact refIns_FS B cap n made (ords E) w hn' hm hl g h hc
  · have hjn := (List.getElem?_eq_some_iff.1 hj).1
    obtain ⟨g, hA, _, _, _⟩ := h.get (ords_get hj)
    subst hA
    by_cases hc : cap = j + 1
    · subst hc; exact refIns_TE B n made j (ords E) w hn' hm hl g h _ (by omega) (by omega) (at_yes hd hj)
    · exact refIns_TS B cap n made (ords E) w hn' hm hl g h j _ (by omega) (by omega) (at_yes hd hj) hc
theorem refDel_yes (B cap n made j : Nat) (A : Option Addr) (E : List El) (e : El) (w : World) (hn : E.length = n) (hl : n ≤ 2000) (h : ORow B w A cap (ords E)) (hd : (E.map El.num).Nodup) (hj : E[j]? = some e) :
    Calls Try.prog 26 #[.agg #[.slice A n cap, .int .i64 made], .int .i64 (e.num : Int)] w (RDel made ((ords E).eraseIdx j) w) := by
  have hn' : (ords E).length = n := by rw [ords_len, hn]
  have hjn := (List.getElem?_eq_some_iff.1 hj).1
  obtain ⟨g, hA, _, _, _⟩ := h.get (ords_get hj)
  subst hA
  by_cases hc : cap = j + 1
  · subst hc; exact refDel_E B n made j (ords E) w hn' hl g h _ (by omega) (at_yes hd hj)
  · exact refDel_S B cap n made (ords E) w hn' hl g h j _ (by omega) (at_yes hd hj) hc
end Go.Proofs.Ytbmaijkpcpbgjaa
