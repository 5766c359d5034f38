/- ValidSignature. -/
import Derived.Test.YthbcfcbonmphfaaDoorTermF
import Derived.OwnWalk
namespace Go.Proofs.YthbcfcbonmphfaaDoor
open Go.RowKit Go.Shelf
set_option maxRecDepth 100000

def GV (g : Sg) (A1 : Option Addr) (c1 : Nat) (A2 : Option Addr) (c2 : Nat) : Value := .agg #[.slice A1 g.sorts.length c1, .slice A2 g.ops.length c2]
abbrev gcells (g : Sg) (A1 : Option Addr) (c1 : Nat) (A2 : Option Addr) (c2 : Nat) : Array Value := #[.slice A1 g.sorts.length c1, .slice A2 g.ops.length c2]
def strsC (L : List ByteArray) : List Value := L.map Value.string
theorem own_below {w w' : World} {base n size : Nat} {e : TypeId} {v : Value} {xs : List Value} (h : w.ownsRow base e size v n xs) (hb : Below w.heap.size w w') : w'.ownsRow base e size v n xs := by
  refine ⟨h.1, ?_⟩
  rcases h.2 with h0 | ⟨g, cap, cur, rfl, h3, hh, h4⟩
  · exact .inl h0
  · exact .inr ⟨g, cap, cur, rfl, h3, (hb.block g (h.lt g rfl).2).trans hh, h4⟩
theorem slS_own {w : World} {base n : Nat} {v : Value} {L : List ByteArray} (h : w.ownsRow base 9 1 v n (strsC L)) : ∃ A cap, v = .slice A L.length cap ∧ SlS w.heap.size w A L ∧ n = L.length := by
  have hn : n = L.length := by have := h.1; simp [strsC] at this; omega
  subst hn
  rcases h.2 with ⟨rfl, h0⟩ | ⟨g, cap, cur, rfl, _, hh, _⟩
  · exact ⟨none, 0, by rw [h0], fun hp => absurd hp (by omega), rfl⟩
  · refine ⟨_, cap, rfl, fun hp => ⟨g, 0, rfl, (h.lt g rfl).2, fun i t ht => ?_⟩, rfl⟩
    have hi : i < L.length := (List.getElem?_eq_some_iff.1 ht).1
    have c := h.cellAt i (by omega)
    rw [show 0 + i = i by omega, c, strsC, List.getElem?_map, ht]; rfl
theorem Tryd.infoString : (Tryd.prog.info? 9).map (fun i => (i.zero, i.size, i.bytes)) = some (some (.string ⟨#[]⟩), 1, 16) := by kernel_rfl

theorem valid_sorts {g : Sg} (h : 40 < g.sorts.length) : validSg g = false := by
  unfold validSg; simp [show ¬ g.sorts.length ≤ 40 by omega]
theorem valid_ops {g : Sg} (h : 100 < g.ops.length) : validSg g = false := by
  unfold validSg; simp [show ¬ g.ops.length ≤ 100 by omega]
theorem valid_diff {g : Sg} (h : diffL g.sorts = false) : validSg g = false := by
  unfold validSg; simp [h]
theorem valid_bad {g : Sg} {k : Nat} {d : Dc} (hd : g.ops[k]? = some d) (h : validDc g.sorts d = false) : validSg g = false := by
  unfold validSg
  have : g.ops.all (validDc g.sorts) = false := by rw [List.all_eq_false]; exact ⟨d, List.mem_of_getElem? hd, by rw [h]; simp⟩
  simp [this]
theorem valid_last {g : Sg} (h1 : ¬ 40 < g.sorts.length) (h2 : ¬ 100 < g.ops.length) (h3 : diffL g.sorts = true) (h4 : ∀ d, d ∈ g.ops → validDc g.sorts d = true) : validSg g = diffL (g.ops.map Dc.nm) := by
  unfold validSg
  rw [decide_eq_true (show g.sorts.length ≤ 40 by omega), decide_eq_true (show g.ops.length ≤ 100 by omega), h3, List.all_eq_true.2 h4]; rfl

/-- What holds at the head of the loop over the operations. -/
def VInv (g : Sg) (A1 : Option Addr) (c1 : Nat) (A2 : Option Addr) (c2 : Nat) (w : World) (B : Nat) (k : Nat) (v : Value) (wr : World) : Prop :=
  k ≤ g.ops.length ∧ wr.ownsRow B 9 1 v k (strsC ((g.ops.take k).map Dc.nm)) ∧ (∀ d, d ∈ g.ops.take k → validDc g.sorts d = true) ∧ Below w.heap.size w wr ∧ wr.heap[w.heap.size]? = some (.cells (gcells g A1 c1 A2 c2) 82 (0, 0)) ∧ B ≤ wr.heap.size

set_option maxHeartbeats 2000000 in
theorem validSignature_any (g : Sg) (A1 : Option Addr) (c1 : Nat) (A2 : Option Addr) (c2 : Nat) (w : World) (hs : SlS w.heap.size w A1 g.sorts) (hd : SlD w.heap.size w A2 g.ops) (hok : okG g) :
    Calls Tryd.prog 99 #[GV g A1 c1 A2 c2] w fun e w' => e = .returned (.bool (validSg g)) ∧ Below w.heap.size w w' := by
  have HS := Lib.hid hs
  have HD := Lib.hid hd
  have HOK := Lib.hid hok
  have hbx := heap_alloc_new w (.cells (gcells g A1 c1 A2 c2) 82)
  have HBX := Lib.hid hbx
  obtain ⟨⟨x0, x1⟩, _⟩ := blk2 hbx
  have HB0 := Lib.hid ((Below.refl w.heap.size w).alloc (Nat.le_refl _) (.cells (gcells g A1 c1 A2 c2) 82))
  have hl1 := hok.1.1
  have hl2 := hok.2.1
  unfold maxLen at hl1 hl2
  obtain ⟨i0, hi, hz0, hz1, hz2⟩ := info_parts Tryd.infoString
  clear hs hd hok hbx
  unfold GV
  by_cases h40 : 40 < g.sorts.length
  · have hI : decide ((40 : Int) < (g.sorts.length : Int)) = true := decide_eq_true (by omega)
    rw [valid_sorts h40]
    go_enter Tryd.func99, Tryd.ntmps99
    go_wp2_with fail
    go_ret
    exact ⟨rfl, HB0.out⟩
  · have hI : decide ((40 : Int) < (g.sorts.length : Int)) = false := decide_eq_false (by omega)
    by_cases h100 : 100 < g.ops.length
    · have hI2 : decide ((100 : Int) < (g.ops.length : Int)) = true := decide_eq_true (by omega)
      rw [valid_ops h100]
      go_enter Tryd.func99, Tryd.ntmps99
      go_wp2_with fail
      go_ret
      exact ⟨rfl, HB0.out⟩
    · have hI2 : decide ((100 : Int) < (g.ops.length : Int)) = false := decide_eq_false (by omega)
      go_enter Tryd.func99, Tryd.ntmps99
      go_wp2_with fail
      refine (diffNames_any A1 c1 g.sorts _ ((HS.out.later HB0.out).mono (by simp)) HOK.out.1).mono ?_
      rintro e w1 ⟨rfl, hb1⟩
      clear x0 x1
      have HBX1 := Lib.hid (cells_below HBX.out hb1)
      have HB1 := Lib.hid (HB0.out.trans (hb1.mono (by simp)))
      have hz1s : w.heap.size < w1.heap.size := by have := hb1.size; simp at this; omega
      obtain ⟨⟨x0, x1⟩, _⟩ := blk2 HBX1.out
      clear hb1
      generalize hdf : diffL g.sorts = df
      cases df
      · go_wp2_with fail
        go_ret
        exact ⟨by rw [valid_diff hdf]; rfl, HB1.out⟩
      · have HDF := Lib.hid hdf
        clear hdf
        go_wp2_with (at_make; refine wpList_make_own _ rfl _ _ 51 rfl w1.heap.size 9 i0 (.string ⟨#[]⟩) 1 Tryd.underlying51 hi hz0 hz1 .i64 .i64 _ g.ops.length rfl rfl rfl (by rw [hz2]; omega) (by unfold maxLen; omega) (Nat.le_refl _) ?_)
        intro w2 ho2 hg2
        have HG2 := Lib.hid hg2
        have HO2 := Lib.hid ho2
        clear ho2 hg2
        have hb2 : Below w1.heap.size w1 w2 := (Below.refl _ _).grown HG2.out (Nat.le_refl _) (fun k e => by cases e)
        have HBX2 := Lib.hid (cells_below HBX1.out hb2)
        have HB2 := Lib.hid (HB1.out.trans (hb2.mono (by omega)))
        have hs2 := hb2.size
        have H40 := Lib.hid h40
        have H100 := Lib.hid h100
        clear x0 x1 hb2 hI hI2 h40
        obtain ⟨⟨x0, x1⟩, _⟩ := blk2 HBX2.out
        go_wp2_with fail
        go_loopw [29, 3] (fun y x wr => ∃ (k : Nat), y = .int .i64 k ∧ VInv g A1 c1 A2 c2 w w1.heap.size k x wr) (fun y _ _ => g.ops.length - (intOf y).toNat)
        case atStart => exact ⟨0, rfl, by omega, by simpa [strsC] using HO2.out, by simp, HB2.out, HBX2.out, hs2⟩
        case round =>
          clear x0 x1 hs2
          obtain ⟨k, rfl, hk, hown, hall, hbw, hbox, hsz⟩ := hrel
          have HOWN := Lib.hid hown
          have HALL := Lib.hid hall
          have HBW := Lib.hid hbw
          have HBOX := Lib.hid hbox
          clear hown hall hbw hbox
          by_cases hlt : k < g.ops.length
          · obtain ⟨d, hd⟩ : ∃ d, g.ops[k]? = some d := ⟨g.ops[k]'hlt, List.getElem?_eq_getElem _⟩
            obtain ⟨b, off, rfl, hbl, hc⟩ := (HD.out.later HBW.out) (by omega)
            obtain ⟨A', c', d0, d1, d2, d3⟩ := hc k d hd
            have HDS := Lib.hid d3
            have HDD := Lib.hid hd
            have hI : (k : Int) < (g.ops.length : Int) := by omega
            clear hc hd d3
            have HBD := Lib.hid ((Below.refl wr.heap.size wr).alloc (Nat.le_refl _) (.cells #[.string d.nm, .slice A' d.args.length c', .string d.res] 140))
            obtain ⟨⟨x0, x1⟩, _⟩ := blk2 (cells_below HBOX.out HBD.out)
            go_wp2_with fail
            refine (validDecl_any A1 c1 g.sorts d A' c' _ ?_ HOK.out.1 ?_ (HOK.out.2.2 d (List.mem_of_getElem? HDD.out))).mono ?_
            · exact ((HS.out.later HBW.out).mono HBW.out.size |>.later HBD.out).mono HBD.out.size
            · exact ((HDS.out.mono HBW.out.size).later HBD.out).mono HBD.out.size
            rintro e w3 ⟨rfl, hb3⟩
            have HB3 := Lib.hid hb3
            clear x0 x1 d0 d1 d2 hb3
            generalize hdv : validDc g.sorts d = dv
            cases dv
            · go_wp2_with fail
              go_ret
              exact ⟨by rw [valid_bad HDD.out hdv]; rfl, (HBW.out.trans (HBD.out.mono HBW.out.size)).trans (HB3.out.mono (by have := HBW.out.size; simp; omega))⟩
            · have HDV := Lib.hid hdv
              obtain ⟨⟨d0, d1, d2⟩, _⟩ := blk3 (cells_below (heap_alloc_new wr (.cells #[.string d.nm, .slice A' d.args.length c', .string d.res] 140)) HB3.out)
              have hs3 := HB3.out.size
              have HO3 := Lib.hid (own_below (HOWN.out.alloc _) HB3.out)
              clear hdv
              simp at hs3
              go_wp2_with (at_builtin; refine wpList_append_own _ rfl (.tmp 38) (.tmp 41) 51 rfl w1.heap.size 9 i0 _ 1 16 Tryd.underlying51 hi hz0 hz1 hz2 rfl (by decide) _ k _ rfl (HO3.out.alloc _) ⟨w3.heap.size, 0, none⟩ 1 1 [.string d.nm] rfl rfl ?c1 ?c2 ?c3 ?c4 ?c5 ?_)
              case c1 =>
                intro j u hu
                have : j = 0 := by have := (List.getElem?_eq_some_iff.1 hu).1; simpa using this
                subst this
                simp at hu
                subst hu
                simp [Addr.add]
              case c2 => intro u hu; simp at hu; subst hu; rfl
              case c3 => unfold maxLen; omega
              case c4 => omega
              case c5 => simp; omega
              intro v' w4 ho4 hg4 _
              have HO4 := Lib.hid ho4
              have HG4 := Lib.hid hg4
              clear ho4 hg4
              go_wp2
              go_roundw
              case rel =>
                have hs4 := HG4.out.size
                simp at hs4
                have et : g.ops.take (k + 1) = g.ops.take k ++ [d] := by rw [List.take_add_one, HDD.out]; rfl
                have hb4 : Below w.heap.size w w3 := (HBW.out.trans (HBD.out.mono HBW.out.size)).trans (HB3.out.mono (by have := HBW.out.size; simp; omega))
                have hw := HBW.out.size
                refine ⟨k + 1, by go_num, by omega, ?_, ?_, ?_, ?_, by omega⟩
                · rw [et, List.map_append]
                  have := HO4.out
                  simpa [strsC] using this
                · rw [et]
                  intro z hz
                  rcases List.mem_append.1 hz with hz | hz
                  · exact HALL.out z hz
                  · rw [List.mem_singleton.1 hz]; exact HDV.out
                · exact (hb4.alloc (by omega) _).grown HG4.out (by simp; omega) (fun j e => by have := (HOWN.out.lt j e).1; omega)
                · refine (HG4.out.block w.heap.size (by simp; omega) (fun e => by have := (HOWN.out.lt _ e.symm).1; omega)).trans ?_
                  exact (Below.heap_alloc _ _ _ (by omega)).trans (cells_below (cells_below HBOX.out HBD.out) HB3.out)
              case measure => simp [intOf]; omega
          · have hkl : k = g.ops.length := by omega
            have hI : ¬ (k : Int) < (g.ops.length : Int) := by omega
            have ho := HOWN.out
            rw [hkl, List.take_length] at ho
            obtain ⟨A', cap, rfl, hsl, _⟩ := slS_own ho
            have HSL := Lib.hid hsl
            have HKL := Lib.hid hkl
            clear ho hsl hkl h100 hk hlt hl1 hl2 hi hz0 hz1 hz2
            generalize hLL : g.ops.map Dc.nm = LL at *
            have HLL := Lib.hid hLL
            clear hLL
            go_wp2_with fail
            refine (diffNames_any A' cap LL _ HSL.out ?_).mono ?_
            · rw [← HLL.out]
              refine ⟨by rw [List.length_map]; exact HOK.out.2.1, fun s hs => ?_⟩
              obtain ⟨d, hd, rfl⟩ := List.mem_map.1 hs
              exact (HOK.out.2.2 d hd).1
            rintro e w3 ⟨rfl, hb3⟩
            have HB3 := Lib.hid hb3
            clear hb3
            go_wp2
            go_ret
            refine ⟨?_, HBW.out.trans (HB3.out.mono HBW.out.size)⟩
            have h4 := HALL.out
            rw [HKL.out, List.take_length] at h4
            rw [valid_last H40.out H100.out HDF.out h4, HLL.out]; rfl
end Go.Proofs.YthbcfcbonmphfaaDoor
