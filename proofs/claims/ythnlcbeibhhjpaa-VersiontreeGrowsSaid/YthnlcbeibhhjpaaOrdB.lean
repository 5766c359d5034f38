/- Walks: list. What setting a label does. -/
import Derived.Deep.AppendLies
import Derived.Test.YthnlcbeibhhjpaaOrdA
namespace Go.Proofs.Ythnlcbeibhhjpaa
open Go.RowKit
set_option maxRecDepth 100000
theorem Try.infoPtr : (Try.prog.info? 78).map (fun i => (i.zero, i.size, i.bytes)) = some (some (.pointer none), 1, 8) := by kernel_rfl
def valsE (E : List El) : List Value := E.map fun e => Value.pointer (some ⟨e.adr, 0, none⟩)
theorem valsE_snoc (E : List El) (e : El) : valsE (E ++ [e]) = valsE E ++ [.pointer (some ⟨e.adr, 0, none⟩)] := by simp [valsE]
def slLen : Value → Nat
  | .slice _ n _ => n
  | _ => 0
theorem OL.below {B x cap made : Nat} {G : Option Addr} {mv : Int} {E : List El} {W W' : World} (h : OL B x G cap made mv E W) (hb : Below W.heap.size W W') : OL B x G cap made mv E W' := by
  refine ⟨bdAt h.box hb, ⟨h.row.1, ?_⟩, h.chain.below hb, h.low⟩
  rcases h.row.2 with hn | ⟨g, cp, cur, hv, hg, hh, rest⟩
  · exact Or.inl hn
  · exact Or.inr ⟨g, cp, cur, hv, hg, bdAt hh hb, rest⟩
/-- The elements' pointers in a slice. -/
def PtrsE (w₀ : World) (E : List El) (A : Option Addr) (cap : Nat) (W : World) : Prop := W.ownsRow w₀.heap.size 78 1 (.slice A E.length cap) E.length (valsE E)
set_option maxHeartbeats 2000000 in
theorem ol_list (B x cap made : Nat) (G : Option Addr) (mv : Int) (E : List El) (w : World) (h : OL B x G cap made mv E w) (hl : E.length ≤ 2000) :
    Calls Try.prog 53 #[.pointer (some ⟨x, 0, none⟩)] w fun e w' => ∃ A cp, e = .returned (.slice A E.length cp) ∧ PtrsE w E A cp w' ∧ Below w.heap.size w w' := by
  obtain ⟨⟨c0, c1, c2, c3⟩, _, _, _, _⟩ := bk4 h.box
  have HO := Lib.hid h
  obtain ⟨p0, hp0⟩ : ∃ p0, p0 = ptrE E 0 := ⟨_, rfl⟩
  rw [← hp0] at c1
  have HP0 := Lib.hid hp0
  obtain ⟨i1, hi1, hy0, hy1, hy2⟩ := info_parts Try.infoPtr
  clear h hp0
  go_enter Try.func53, Try.ntmps53
  go_wp2_with fail
  clear c0 c1 c2 c3
  go_loopw [3, 4] (fun s3 s4 wr => ∃ (j cp : Nat) (A : Option Addr), j ≤ E.length ∧ s4 = .pointer (ptrE E j) ∧ s3 = .slice A j cp ∧ wr.ownsRow w.heap.size 78 1 (.slice A j cp) j (valsE (E.take j)) ∧ Below w.heap.size w wr) (fun s3 _ _ => E.length - slLen s3)
  case atStart => exact ⟨0, 0, none, by omega, by rw [HP0.out], rfl, World.ownsRow_nil _ _ _ _, Below.refl _ _⟩
  case round =>
    obtain ⟨j, cp, A, hj, rfl, rfl, ho, hb⟩ := hrel
    have HW := Lib.hid ho
    have HB := Lib.hid hb
    have hsz : w.heap.size ≤ wr.heap.size := hb.size
    clear ho hb
    by_cases hlt : j < E.length
    · have hje : E[j]? = some E[j] := List.getElem?_eq_getElem hlt
      have hpe := ptrE_some hje
      rw [hpe]
      have hal : E[j].adr < w.heap.size := HO.out.chain.lt (List.mem_of_getElem? hje)
      have hx3 := (bk4 (HO.out.chain.el j _ hje)).1.2.2.2
      have HTK : Hid (valsE (E.take (j + 1)) = valsE (E.take j) ++ [.pointer (some ⟨E[j].adr, 0, none⟩)]) := Lib.hid (by rw [List.take_add_one, hje, Option.toList_some, valsE_snoc])
      generalize E[j].adr = a at hal hx3 HTK ⊢
      have HX3 := Lib.hid hx3
      clear hje hpe hx3
      go_wp2_with (at_builtin; refine wpList_append_lies _ rfl (.tmp 15) (.tmp 17) 77 rfl w.heap.size 78 i1 _ 1 8 Try.underlying77 hi1 hy0 hy1 hy2 rfl (by decide) (.slice A j cp) j (valsE (E.take j)) rfl (HW.out.alloc _) ⟨wr.heap.size, 0, none⟩ 1 1 [.pointer (some ⟨a, 0, none⟩)] rfl rfl (World.news_of_block (cs := #[.pointer (some ⟨a, 0, none⟩)]) (t := 78) (fr := (0, 0)) (heap_alloc_new wr _)) (by simp [Value.oneCell']) (by omega) (by unfold maxLen; omega) (by omega) (by simp; omega) (wr.heap.size + 1) (by simp) ?_)
      intro g2 cap2 W6 hown6 hgrow6 hat6 hlt6
      have hb6 : Below w.heap.size w W6 := (HB.out.alloc hsz _).grown hgrow6 (by simp; omega) (fun k' e => by have := (HW.out.lt k' e).1; omega)
      have x3 := (hb6.cell (p := ⟨a, 3, none⟩) hal).trans HX3.out
      have HB6 := Lib.hid hb6
      have HO6 : Hid (W6.ownsRow w.heap.size 78 1 (.slice (some ⟨g2, 0, none⟩) (j + 1) cap2) (j + 1) (valsE (E.take (j + 1)))) := Lib.hid (by rw [HTK.out]; exact hown6)
      clear hown6 hgrow6 hat6 hlt6 hb6
      go_wp2_with fail
      go_roundw
      case rel => exact ⟨j + 1, cap2, some ⟨g2, 0, none⟩, by omega, rfl, rfl, HO6.out, HB6.out⟩
      case measure => simp [slLen]; omega
    · have hjl : j = E.length := by omega
      have hpe : ptrE E j = none := ptrE_none (by omega)
      rw [hpe]
      have HF : Hid (PtrsE w E A cp wr) := Lib.hid (by
        have := HW.out
        rw [hjl, List.take_length] at this
        exact this)
      have HJ := Lib.hid hjl
      clear hpe hjl
      go_wp2_with fail
      go_ret
      exact ⟨A, cp, by rw [← HJ.out]; rfl, HF.out, HB.out⟩
theorem ptrE_set {E : List El} {j : Nat} {e : El} (hj : E[j]? = some e) (l : Int) (i : Nat) : ptrE (E.set j { e with lab := l }) i = ptrE E i := by
  unfold ptrE
  rw [List.getElem?_set]
  split
  · rename_i h
    subst h
    rw [hj, if_pos (List.getElem?_eq_some_iff.1 hj).1]
    rfl
  · rfl
theorem prvE_set {E : List El} {j : Nat} {e : El} (hj : E[j]? = some e) (l : Int) (i : Nat) : prvE (E.set j { e with lab := l }) i = prvE E i := by
  cases i with
  | zero => rfl
  | succ i => exact ptrE_set hj l i
/-- A label is set. -/
theorem Chain.setLab {tE : TypeId} {E : List El} {W : World} {j : Nat} {e : El} (h : Chain tE E W) (hj : E[j]? = some e) (l : Int) :
    Chain tE (E.set j { e with lab := l }) (W.setCell ⟨e.adr, 1, none⟩ (.int .i64 l)) := by
  refine ⟨fun i f hi => ?_, ?_⟩
  · rw [ptrE_set hj, prvE_set hj]
    rw [List.getElem?_set] at hi
    by_cases hij : j = i
    · subst hij
      rw [if_pos rfl, if_pos (List.getElem?_eq_some_iff.1 hj).1] at hi
      obtain rfl := Option.some.inj hi
      have h0 := h.el j e hj
      simp only [World.setCell]
      rw [Array.getElem?_modify, if_pos rfl, h0]
      rfl
    · rw [if_neg hij] at hi
      have h0 := h.el i f hi
      have hne := h.apart hi hj (fun e => hij e.symm)
      rw [Below.heap_setCell _ _ _ _ (by simpa using hne)]
      exact h0
  · have : (E.set j { e with lab := l }).map El.num = E.map El.num := by
      apply List.ext_getElem?
      intro i
      rw [List.getElem?_map, List.getElem?_map, List.getElem?_set]
      split
      · rename_i hh
        subst hh
        rw [hj, if_pos (List.getElem?_eq_some_iff.1 hj).1]
        rfl
      · rfl
    rw [this]
    exact h.nums
end Go.Proofs.Ythnlcbeibhhjpaa
