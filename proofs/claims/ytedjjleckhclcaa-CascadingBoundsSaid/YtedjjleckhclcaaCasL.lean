/- Walks: Search, whole. -/
import Derived.Test.YtedjjleckhclcaaCasK
namespace Go.Proofs.Ytedjjleckhclcaa
open Go.RowKit
set_option maxRecDepth 100000

theorem but_box {x : Nat} {V W : World} {b : Nat} {o : Obj} (h : V.heap[b]? = some o) (hb : But x V W) (hne : b ≠ x) : W.heap[b]? = some o :=
  (hb.block b (Array.getElem?_eq_some_iff.1 h).1 (fun e => hne (by injection e))).trans h
theorem ints_up {x : Nat} {W V : World} {A : Option Addr} {L : List Int} (h : IntsAt (fun b => b < W.heap.size ∧ b ≠ x) W A L) (hb : But x W V) : IntsAt (fun b => b < V.heap.size ∧ b ≠ x) V A L :=
  (but_ints h hb).more fun _ hp => ⟨Nat.lt_of_lt_of_le hp.1 hb.size, hp.2⟩
theorem but_alloc {x : Nat} (W : World) (o : Obj) : But x W (W.alloc o) := but_below (but_refl x W) ((Below.refl _ _).alloc (Nat.le_refl _) _)
theorem search_nil (key : Int) (w : World) : Calls Try.prog 12 #[.pointer none, .int .i64 key] w fun e w' => e = .returned (.tuple #[.slice none 0 0, .int .i64 1]) ∧ w = w' := by
  go_enter Try.func12, Try.ntmps12
  go_wp2_with fail
  go_ret2
  exact ⟨rfl, rfl⟩
/-- Facts of a round of Search. -/
structure SR (x rb i : Nat) (m : List CE) (A2 : Option Addr) (c1 c2 : Nat) (A1 : Option Addr) (lb : Nat) (V : World) : Prop where
  box : V.heap[lb]? = some (.cells #[.slice A1 m.length c1, .slice A2 (m.length + 1) c2] 51 (0, 0))
  keys : IntsAt (fun b => b < V.heap.size ∧ b ≠ x) V A1 (m.map Prod.fst)
  taken : IntsAt (fun b => b < V.heap.size ∧ b ≠ x) V A2 (tks m)
  row : ∃ u, V.cell? ⟨rb, i, none⟩ = some u ∧ V.frozen? ⟨rb, i, none⟩ = false
  rl : rb < V.heap.size
  lx : lb ≠ x
  rx : rb ≠ x
theorem SR.but {x rb i c1 c2 lb : Nat} {m : List CE} {A1 A2 : Option Addr} {V W : World} (h : SR x rb i m A2 c1 c2 A1 lb V) (hb : But x V W) : SR x rb i m A2 c1 c2 A1 lb W := by
  obtain ⟨u, h1, h2⟩ := h.row
  have e := hb.block rb h.rl (fun e => h.rx (by injection e))
  exact ⟨but_box h.box hb h.lx, ints_up h.keys hb, ints_up h.taken hb, ⟨u, (World.cell?_of_block (a := ⟨rb, i, none⟩) e).trans h1, (World.frozen?_of_block (a := ⟨rb, i, none⟩) e).trans h2⟩, Nat.lt_of_lt_of_le h.rl hb.size, h.lx, h.rx⟩
theorem SR.tk {x rb i c1 c2 lb : Nat} {m : List CE} {A1 A2 : Option Addr} {V : World} (h : SR x rb i m A2 c1 c2 A1 lb V) {r : Nat} (hr : r ≤ m.length) : ∃ b off, A2 = some ⟨b, off, none⟩ ∧ V.cell? ⟨b, off + r, none⟩ = some (.int .i64 (cnt m r)) := by
  obtain ⟨b, off, e, _, hc⟩ := h.taken (by rw [tks_len]; omega)
  exact ⟨b, off, e, hc r _ (tks_get hr)⟩
theorem SR.key {x rb i c1 c2 lb : Nat} {m : List CE} {A1 A2 : Option Addr} {V : World} (h : SR x rb i m A2 c1 c2 A1 lb V) {r : Nat} (hr : r < m.length) : ∃ b off e, A1 = some ⟨b, off, none⟩ ∧ (m.map Prod.fst)[r]? = some e ∧ V.cell? ⟨b, off + r, none⟩ = some (.int .i64 e) := by
  obtain ⟨b, off, e, _, hc⟩ := h.keys (by rw [List.length_map]; omega)
  obtain ⟨k, hk⟩ : ∃ k, (m.map Prod.fst)[r]? = some k := ⟨(m.map Prod.fst)[r]'(by simpa using hr), List.getElem?_eq_getElem _⟩
  exact ⟨b, off, k, e, hk, hc r k hk⟩
theorem SR.start {w : World} {x g n1 rb i t d : Nat} {M : List (List Int)} {key : Int} {W : World} {c : List Int} (h : SInv w x g n1 rb M key i t d W) (hc : M[i]? = some c) {A1 A2 : Option Addr} {c1 c2 : Nat}
    (h1 : IntsAt (fun b => b < W.heap.size ∧ b ≠ x) W A1 ((aug c (hdk (lsts (M.drop (i + 1))))).map Prod.fst)) (h2 : IntsAt (fun b => b < W.heap.size ∧ b ≠ x) W A2 (tks (aug c (hdk (lsts (M.drop (i + 1))))))) :
    SR x rb i (aug c (hdk (lsts (M.drop (i + 1))))) A2 c1 c2 A1 W.heap.size (W.alloc (.cells #[.slice A1 (aug c (hdk (lsts (M.drop (i + 1))))).length c1, .slice A2 ((aug c (hdk (lsts (M.drop (i + 1))))).length + 1) c2] 51)) := by
  obtain ⟨row, r1, r2, r3⟩ := h.row
  have hb := but_alloc (x := x) W (.cells #[.slice A1 (aug c (hdk (lsts (M.drop (i + 1))))).length c1, .slice A2 ((aug c (hdk (lsts (M.drop (i + 1))))).length + 1) c2] 51)
  have hx := bdLt h.ix.box
  have hrx : rb ≠ x := by have := h.ix.xn; have := h.n; have := h.r1; omega
  have hil := (List.getElem?_eq_some_iff.1 hc).1
  obtain ⟨u, hu⟩ : ∃ u, row[i]? = some u := ⟨row[i]'(by omega), Array.getElem?_eq_getElem _⟩
  have r2' := bdOld (p := .cells #[.slice A1 (aug c (hdk (lsts (M.drop (i + 1))))).length c1, .slice A2 ((aug c (hdk (lsts (M.drop (i + 1))))).length + 1) c2] 51) r2
  exact ⟨bdNew _ _, ints_up h1 hb, ints_up h2 hb, ⟨u, (cell_of_row _ _ _ _ _ _ r2').trans hu, by simp [World.frozen?, r2']⟩, bdLt r2', by omega, hrx⟩

set_option maxHeartbeats 8000000 in
theorem search_any (x g n1 : Nat) (M : List (List Int)) (key c0 : Int) (w : World) (hix : IX x g n1 (lsts M) c0 w) (hn : n1 ≤ w.heap.size) (h32 : M.length ≤ 32) (hl : ∀ c ∈ M, c.length ≤ 1000) (hs : ∀ c ∈ M, srt c) :
    Calls Try.prog 12 #[.pointer (some ⟨x, 0, none⟩), .int .i64 key] w (SearchPost w x g n1 M key) := by
  have H0 := Lib.hid (SInv.start (key := key) hix hn)
  have HL := Lib.hid hl
  have HS := Lib.hid hs
  obtain ⟨⟨b0, b1⟩, f0, f1⟩ := bk2 hix.box
  rw [lsts_len] at b0
  have hset0 : (w.setCell ⟨x, 1, none⟩ (.int .i64 0)).cell? ⟨x, 0, none⟩ = some (.slice (some ⟨g, 0, none⟩) M.length M.length) := by
    rw [cell_of_row _ _ _ _ _ _ (setCell_at hix.box)]
    simp [lsts_len]
  have hxl := bdLt hix.box
  obtain ⟨m, hm⟩ : ∃ m, M.length = m := ⟨_, rfl⟩
  have HM := Lib.hid hm
  rw [hm] at h32 b0 hset0
  have H0' : Hid (SInv w x g n1 w.heap.size M key 0 0 0 ((w.setCell ⟨x, 1, none⟩ (.int .i64 0)).alloc (.cells (madeCells #[.int .i64 0] m) 3))) := by rw [← hm]; exact H0.out
  obtain ⟨i1, hi1, hy0, hy1, hy2⟩ := info_parts Try.infoInt
  have hmk : ∀ W : World, (Instr.makeSlice 31 (.int .i64 (m : Int)) (.int .i64 (m : Int))).run Try.prog W = .ok (.slice (some ⟨W.heap.size, 0, none⟩) m m) (W.alloc (.cells (madeCells #[.int .i64 0] m) 3)) := fun W => by
    have h := run_make (P := Try.prog) W 31 3 i1 _ Try.underlying31 hi1 hy0 .i64 .i64 (m : Int) (m : Int) (by omega) (Int.le_refl _) (by rw [hy2]; omega) (by omega)
    rw [hy1, Nat.mul_one] at h
    exact h
  clear hix hl hs hm H0 hi1 hy0 hy1 hy2
  go_enter Try.func12, Try.ntmps12
  go_wp2_with fail
  clear hmk b0 b1 f0 f1 hset0
  go_loopw [7, 27] (fun u j wr => ∃ i t d : Nat, i ≤ m ∧ j = .int .i64 i ∧ u = .int .i64 t ∧ SInv w x g n1 w.heap.size M key i t d wr) (fun _ j _ => m - (intOf j).toNat)
  case atStart => exact ⟨0, 0, 0, Nat.zero_le _, rfl, rfl, H0'.out⟩
  case round =>
    clear H0'
    obtain ⟨i, t, d, hi, rfl, rfl, hinv⟩ := hrel
    have HI := Lib.hid hinv
    clear hinv
    by_cases hlt : i < m
    · obtain ⟨c, hc⟩ : ∃ c, M[i]? = some c := ⟨M[i]'(by rw [HM.out]; exact hlt), List.getElem?_eq_getElem _⟩
      obtain ⟨A1, c1, A2, c2, q1, q2, k1, k2⟩ := HI.out.at_ hc
      have hsc : srt c := HS.out c (List.mem_of_getElem? hc)
      have hsn : srt (hdk (lsts (M.drop (i + 1)))) := lsts_srt _ fun e he => HS.out e (List.mem_of_mem_drop he)
      have hd50 := HI.out.bd HL.out (by omega)
      have hml : (aug c (hdk (lsts (M.drop (i + 1))))).length ≤ 2000 := by
        have h1 := HL.out c (List.mem_of_getElem? hc)
        have h2 := lsts_len_bd (M.drop (i + 1)) fun e he => HL.out e (List.mem_of_mem_drop he)
        rw [aug_len]
        omega
      have HSR := Lib.hid (SR.start (c1 := c1) (c2 := c2) HI.out hc k1 k2)
      have HST := Lib.hid (step_rk hsc hsn key)
      have HKS := Lib.hid (aug_ksrt hsc hsn)
      have HDR := Lib.hid (hdk_drop hc)
      have hxw := bdLt HI.out.ix.box
      have HC := Lib.hid hc
      have HN : ∀ (W1 : World) (d' : Nat) (v : Int), But x (wr.alloc (.cells #[.slice A1 (aug c (hdk (lsts (M.drop (i + 1))))).length c1, .slice A2 ((aug c (hdk (lsts (M.drop (i + 1))))).length + 1) c2] 51)) W1 → W1.heap[x]? = some (ixBox g (lsts M).length d') → v = rk c key → (∀ K, (hdk (lsts M)).length < 2 ^ K → d' ≤ K + i) →
          SInv w x g n1 w.heap.size M key (i + 1) (rk (hdk (lsts (M.drop (i + 1)))) key / 2) d' (W1.setCell ⟨w.heap.size, i, none⟩ (.int .i64 v)) := fun W1 d' v hb hx hv hd => HI.out.next hc (but_alloc _ _) hb hx hv hd
      have HNX := Lib.hid HN
      obtain ⟨mm, hmm⟩ : ∃ mm, mm = aug c (hdk (lsts (M.drop (i + 1)))) := ⟨_, rfl⟩
      have hXB := bdOld (p := .cells #[.slice A1 (aug c (hdk (lsts (M.drop (i + 1))))).length c1, .slice A2 ((aug c (hdk (lsts (M.drop (i + 1))))).length + 1) c2] 51) HI.out.ix.box
      rw [← hmm] at HSR HST HKS HDR HNX hml q1 q2 hXB
      obtain ⟨lm, hlm⟩ : ∃ lm, mm.length = lm := ⟨_, rfl⟩
      have HLM := Lib.hid hlm
      obtain ⟨nx, hnx⟩ : ∃ nx, nx = hdk (lsts (M.drop (i + 1))) := ⟨_, rfl⟩
      rw [← hnx] at HST HNX
      have z0 := (bk2 HI.out.ix.box).1.1
      have HLN : Hid ((lsts M).length = m) := by rw [lsts_len]; exact HM.out
      rw [HLN.out] at z0
      have hrk0 : rk (mm.map Prod.fst) key ≤ lm := by have := rk_le (mm.map Prod.fst) key; rw [List.length_map, hlm] at this; exact this
      have hcn := cnt_le mm (rk (mm.map Prod.fst) key)
      obtain ⟨r, hr⟩ : ∃ r, r = rk (mm.map Prod.fst) key := ⟨_, rfl⟩
      rw [← hr] at hrk0 hcn HST
      obtain ⟨q, hq⟩ : ∃ q, q = cnt mm r := ⟨_, rfl⟩
      rw [← hq] at hcn HST
      rw [hlm] at hml q1 q2
      have HXB := Lib.hid hXB
      have HR := Lib.hid hr
      have HQ := Lib.hid hq
      have hgx : g ≠ x := HI.out.ix.gx
      have hgw : g < wr.heap.size := by have := HI.out.ix.gn; have := HI.out.n; have := HI.out.but.size; omega
      clear hc k1 k2 hsc hsn HN hmm hlm hnx hXB hr hq
      by_cases hi0 : i = 0
      · have hz0 : ((i : Int) == 0) = true := by simp [hi0]
        have hd0 : d = 0 := HI.out.d0 hi0
        have HI0 := Lib.hid hi0
        have HD0 := Lib.hid hd0
        have HFD := Lib.hid (find_any x g (lsts M).length d key _ A1 c1 (mm.map Prod.fst) HXB.out (by omega) (by omega) HKS.out (by rw [List.length_map, HLM.out]; omega) HSR.out.keys)
        rw [List.length_map, HLM.out] at HFD
        obtain ⟨⟨l0, l1⟩, _⟩ := bk2 HSR.out.box
        rw [HLM.out] at l0 l1
        clear hi0 hd0
        go_wp2_with fail
        rw [HLM.out] at HSR HXB HNX
        refine HFD.out.mono ?_
        rintro e W1 ⟨rfl, d', hx', hd', hbt⟩
        rw [← HR.out]
        have HSW := Lib.hid (HSR.out.but hbt)
        have HBW := Lib.hid hbt
        have HXW := Lib.hid (show W1.heap[x]? = some (ixBox g (lsts M).length (d' : Int)) by have := hx'; rw [HD0.out] at this; simpa using this)
        have HDD : Hid (∀ K, (hdk (lsts M)).length < 2 ^ K → d' ≤ K + i) := fun K hK => by
          have h3 := HDR.out
          rw [HI0.out, List.drop_zero] at h3
          rw [h3] at hK
          have := hd' K hK
          omega
        clear hx' hd' hbt l0 l1
        obtain ⟨⟨l0, l1⟩, _⟩ := bk2 HSW.out.box
        obtain ⟨tb, toff, hA2, t0⟩ := HSW.out.tk (r := r) (by rw [HLM.out]; exact hrk0)
        subst hA2
        rw [← HQ.out] at t0
        rw [HLM.out] at l0 l1
        obtain ⟨u, y0, yf⟩ := HSW.out.row
        have him : (i : Int) < (m : Int) := by omega
        have hrl : (r : Int) < (lm : Int) + 1 := by omega
        have hqr : (q : Int) ≤ (r : Int) := by omega
        have hrl2 : r < lm + 1 := by omega
        clear HSR HXB
        go_wp2_with fail
        go_roundw
        case rel =>
          refine ⟨i + 1, q, d', by omega, by go_num, by first | rfl | trivial, ?_⟩
          have hv : (r : Int) - (q : Int) = (rk c key : Int) := by have := HST.out; omega
          have := HNX.out W1 d' ((r : Int) - (q : Int)) HBW.out HXW.out hv HDD.out
          rw [← HST.out.1] at this
          exact this
        case measure => simp [intOf]; omega
      · have hz0 : ((i : Int) == 0) = false := by simp; omega
        have HDP := Lib.hid (HI.out.d)
        have hi1 : 1 ≤ i := by omega
        have hti : t = r / 2 := by rw [HI.out.t hi0, HDR.out, ← HR.out]
        have HNR := Lib.hid (next_rk HKS.out key t (by rw [hti, HR.out]))
        rw [← HR.out, List.length_map, HLM.out] at HNR
        by_cases hA : lm ≤ 2 * t
        · have hr2 : r = 2 * t := HNR.out.2 hA
          have hw : (t : Int) * 2 = (r : Int) := by omega
          have hAI : (lm : Int) ≤ (r : Int) := by omega
          have HSW := Lib.hid HSR.out
          have HBW := Lib.hid (but_refl x (wr.alloc (.cells #[.slice A1 mm.length c1, .slice A2 (mm.length + 1) c2] 51)))
          have HXW := Lib.hid HXB.out
          have HDD : Hid (∀ K, (hdk (lsts M)).length < 2 ^ K → d ≤ K + i) := fun K hK => by have := HDP.out K hK; omega
          rw [HLM.out] at HSW HBW HXW HNX
          clear hti hA hr2 hi0
          obtain ⟨⟨l0, l1⟩, _⟩ := bk2 HSW.out.box
          obtain ⟨tb, toff, hA2, t0⟩ := HSW.out.tk (r := r) (by rw [HLM.out]; exact hrk0)
          subst hA2
          rw [← HQ.out] at t0
          rw [HLM.out] at l0 l1
          obtain ⟨u, y0, yf⟩ := HSW.out.row
          have him : (i : Int) < (m : Int) := by omega
          have hrl : (r : Int) < (lm : Int) + 1 := by omega
          have hqr : (q : Int) ≤ (r : Int) := by omega
          have hrl2 : r < lm + 1 := by omega
          clear HSR HXB
          go_wp2_with fail
          go_roundw
          case rel =>
            refine ⟨i + 1, q, d, by omega, by go_num, by first | rfl | trivial, ?_⟩
            have hv : (r : Int) - (q : Int) = (rk c key : Int) := by have := HST.out; omega
            have := HNX.out _ d ((r : Int) - (q : Int)) HBW.out HXW.out hv HDD.out
            rw [← HST.out.1] at this
            exact this
          case measure => simp [intOf]; omega
        · obtain ⟨s, hs2⟩ : ∃ s, s = 2 * t := ⟨_, rfl⟩
          obtain ⟨kb, koff, e, hA1, hke, k0⟩ := HSR.out.key (r := s) (by rw [HLM.out]; omega)
          subst hA1
          have HE := Lib.hid (HNR.out.1 (by omega) e (by rw [← hs2]; exact hke))
          have HLS := Lib.hid (isLess_any x g (lsts M).length d e key _ HXB.out (by omega) (by omega))
          have hsI : (s : Int) < (lm : Int) := by omega
          have hw : (t : Int) * 2 = (s : Int) := by omega
          obtain ⟨⟨l0, l1⟩, _⟩ := bk2 HSR.out.box
          rw [HLM.out] at l0 l1 HLS k0
          have HS2 := Lib.hid hs2
          have HDD : Hid (∀ K, (hdk (lsts M)).length < 2 ^ K → d + 1 ≤ K + i) := fun K hK => by have := HDP.out K hK; omega
          clear hti hA hi0 hke hs2
          go_wp2_with fail
          rw [HLM.out] at HSR HXB HNX
          refine HLS.out.mono ?_
          rintro r0 W1 ⟨rfl, hW1⟩
          have hbt : But x (wr.alloc (.cells #[.slice (some ⟨kb, koff, none⟩) lm c1, .slice A2 (lm + 1) c2] 51)) W1 := by rw [hW1]; exact but_set _ _ _
          have HSW := Lib.hid (HSR.out.but hbt)
          have HBW := Lib.hid hbt
          have HXW := Lib.hid (show W1.heap[x]? = some (ixBox g (lsts M).length ((d + 1 : Nat) : Int)) by rw [hW1]; exact ix_set HXB.out)
          clear hW1 hbt l0 l1 k0 hw
          by_cases hek : e < key
          · have hrs : r = s + 1 := by have := HE.out.1 hek; rw [HS2.out]; exact this
            have hw : IntKind.i64.wrap ((s : Int) + 1) = (r : Int) := by rw [IntWalk.i64_in _ (by omega)]; omega
            clear hrs
            obtain ⟨⟨l0, l1⟩, _⟩ := bk2 HSW.out.box
            obtain ⟨tb, toff, hA2, t0⟩ := HSW.out.tk (r := r) (by rw [HLM.out]; exact hrk0)
            subst hA2
            rw [← HQ.out] at t0
            rw [HLM.out] at l0 l1
            obtain ⟨u, y0, yf⟩ := HSW.out.row
            have him : (i : Int) < (m : Int) := by omega
            have hrl : (r : Int) < (lm : Int) + 1 := by omega
            have hqr : (q : Int) ≤ (r : Int) := by omega
            have hrl2 : r < lm + 1 := by omega
            clear HSR HXB
            go_wp2_with fail
            go_roundw
            case rel =>
              refine ⟨i + 1, q, d + 1, by omega, by go_num, by first | rfl | trivial, ?_⟩
              have hv : (r : Int) - (q : Int) = (rk c key : Int) := by have := HST.out; omega
              have := HNX.out W1 (d + 1) ((r : Int) - (q : Int)) HBW.out HXW.out hv HDD.out
              rw [← HST.out.1] at this
              exact this
            case measure => simp [intOf]; omega
          · have hrs : r = s := by have := HE.out.2 (by omega); rw [HS2.out]; exact this
            have hek' : key ≤ e := by omega
            subst hrs
            obtain ⟨⟨l0, l1⟩, _⟩ := bk2 HSW.out.box
            obtain ⟨tb, toff, hA2, t0⟩ := HSW.out.tk (r := r) (by rw [HLM.out]; exact hrk0)
            subst hA2
            rw [← HQ.out] at t0
            rw [HLM.out] at l0 l1
            obtain ⟨u, y0, yf⟩ := HSW.out.row
            have him : (i : Int) < (m : Int) := by omega
            have hrl : (r : Int) < (lm : Int) + 1 := by omega
            have hqr : (q : Int) ≤ (r : Int) := by omega
            have hrl2 : r < lm + 1 := by omega
            clear HSR HXB
            go_wp2_with fail
            go_roundw
            case rel =>
              refine ⟨i + 1, q, d + 1, by omega, by go_num, by first | rfl | trivial, ?_⟩
              have hv : (r : Int) - (q : Int) = (rk c key : Int) := by have := HST.out; omega
              have := HNX.out W1 (d + 1) ((r : Int) - (q : Int)) HBW.out HXW.out hv HDD.out
              rw [← HST.out.1] at this
              exact this
            case measure => simp [intOf]; omega
    · have hiM : i = M.length := by rw [HM.out]; omega
      have HDONE := Lib.hid (HI.out.done hiM)
      rw [HM.out] at HDONE
      clear hiM
      go_wp2_with fail
      go_ret2
      exact HDONE.out
end Go.Proofs.Ytedjjleckhclcaa
