/- Walks: the reference's Encode. -/
import Derived.Test.YtakaadoppijeaaaDoorBvDd
namespace Go.Proofs.YtakaadoppijeaaaDoor
open Go.RowKit
set_option maxRecDepth 100000
/-- Numbers of bytes, as cells. -/
def valsY (L : List Nat) : List Value := L.map fun n : Nat => Value.int .u8 (n : Int)
theorem valsY_snoc (L : List Nat) (x : Nat) : valsY (L ++ [x]) = valsY L ++ [.int .u8 (x : Int)] := by simp [valsY]
/-- The head of the code and its first j bytes. -/
def encK (l : List Bool) (j : Nat) : List Nat := [l.length / 16777216 % 256, l.length / 65536 % 256, l.length / 256 % 256, l.length % 256] ++ (List.range j).map (enB l l.length)
theorem encK_succ (l : List Bool) (j : Nat) : encK l (j + 1) = encK l j ++ [enB l l.length j] := by simp [encK, List.range_succ]
theorem encK_len (l : List Bool) (j : Nat) : (encK l j).length = 4 + j := by simp [encK]; omega
theorem own_bytes {w₀ W : World} {g n cap : Nat} {L : List Nat} (h : W.ownsRow w₀.heap.size 5 1 (.slice (some ⟨g, 0, none⟩) n cap) n (valsY L)) : BytesAt W g L := fun i y hy => by
  have := h.cells (g := g) rfl i (.int .u8 (y : Int)) (by unfold valsY; rw [List.getElem?_map, hy]; rfl)
  have e : ({ block := g, off := 0 } : Addr).add i = ⟨g, i, none⟩ := by
    unfold Addr.add
    split
    · simp_all
    · simp
  rwa [e] at this
theorem refB_succ (f : Nat → Bool) (k : Nat) : refB f (k + 1) = refB f k * 2 + if f k then 1 else 0 := rfl
set_option maxHeartbeats 8000000 in
theorem refEncode_any (A : Option Addr) (cp : Nat) (l : List Bool) (w : World) (hl : l.length ≤ 2000000) (hA : BitsAt (· < w.heap.size) w A l) :
    Calls Tryd.prog 30 #[.slice A l.length cp] w fun e w' => (∃ g cap, e = .returned (.slice (some ⟨g, 0, none⟩) (4 + nby l) cap) ∧ BytesAt w' g (enc l)) ∧ Below w.heap.size w w' := by
  have HA := Lib.hid hA
  obtain ⟨n, hn⟩ : ∃ n, n = l.length := ⟨_, rfl⟩
  rw [← hn] at hl ⊢
  have HN := Lib.hid hn
  clear hA
  obtain ⟨pa, ha⟩ : ∃ pa, pa = n / 16777216 := ⟨_, rfl⟩
  obtain ⟨pb, hb⟩ : ∃ pb, pb = n / 65536 := ⟨_, rfl⟩
  obtain ⟨pc, hc⟩ : ∃ pc, pc = n / 256 := ⟨_, rfl⟩
  obtain ⟨pd, hd⟩ : ∃ pd, pd = pc % 256 := ⟨_, rfl⟩
  obtain ⟨pe, he⟩ : ∃ pe, pe = n % 256 := ⟨_, rfl⟩
  have ga : (n : Int) / 16777216 = (pa : Int) := by omega
  have gb : (n : Int) / 65536 = (pb : Int) := by omega
  have gc : (n : Int) / 256 = (pc : Int) := by omega
  have gd : (pc : Int) % 256 = (pd : Int) := by omega
  have ge : (n : Int) % 256 = (pe : Int) := by omega
  have pa2 : pa < 256 := by omega
  have pb2 : pb < 256 := by omega
  have hO : (w.alloc (.cells #[.int .u8 (pa : Int), .int .u8 (pb : Int), .int .u8 (pd : Int), .int .u8 (pe : Int)] 5)).ownsRow w.heap.size 5 1 (.slice (some ⟨w.heap.size, 0, none⟩) 4 4) 4 (valsY (encK l 0)) := by
    have := World.ownsRow_lit (e := 5) (size := 1) w #[.int .u8 (pa : Int), .int .u8 (pb : Int), .int .u8 (pd : Int), .int .u8 (pe : Int)] 4 (Nat.le_refl _) (by unfold maxLen; omega) rfl
    have e : (#[Value.int .u8 (pa : Int), .int .u8 (pb : Int), .int .u8 (pd : Int), .int .u8 (pe : Int)] : Array Value).toList = valsY (encK l 0) := by
      unfold valsY encK
      rw [← hn]
      simp only [List.map_cons, List.map_nil, List.range_zero, List.append_nil]
      rw [show n / 16777216 % 256 = pa by omega, show n / 65536 % 256 = pb by omega, show n / 256 % 256 = pd by omega, show n % 256 = pe by omega]
    rwa [e] at this
  have HO := Lib.hid hO
  have wa : IntKind.u8.wrap (pa : Int) = (pa : Int) := u8_in pa pa2
  have wb' : IntKind.u8.wrap (pb : Int) = (pb : Int) := u8_in pb pb2
  have wd' : IntKind.u8.wrap (pc : Int) = (pd : Int) := by rw [← gd]; simp [IntKind.wrap, IntKind.bits, IntKind.signed]
  have we : IntKind.u8.wrap (n : Int) = (pe : Int) := by rw [← ge]; simp [IntKind.wrap, IntKind.bits, IntKind.signed]
  obtain ⟨i1, hi1, hy0, hy1, hy2⟩ := info_parts Tryd.infoU8
  clear hn ha hb hc hd he hO
  go_enter Tryd.func30, Tryd.ntmps30
  go_wp2_with fail
  clear ga gb gc gd ge wa wb' wd' we
  go_loopw [4, 5] (fun s4 s5 wr => ∃ j g cap : Nat, 8 * j ≤ n + 7 ∧ s5 = .int .i64 ((8 * j : Nat) : Int) ∧ s4 = .slice (some ⟨g, 0, none⟩) (4 + j) cap ∧ wr.ownsRow w.heap.size 5 1 (.slice (some ⟨g, 0, none⟩) (4 + j) cap) (4 + j) (valsY (encK l j)) ∧ Below w.heap.size w wr) (fun _ s5 _ => n + 8 - (intOf s5).toNat)
  case atStart => exact ⟨0, w.heap.size, 4, by omega, rfl, rfl, HO.out, (Below.refl _ _).alloc (Nat.le_refl _) _⟩
  case round =>
    clear HO
    obtain ⟨j, g, cap, hj, rfl, rfl, ho, hb⟩ := hrel
    have HW := Lib.hid ho
    have HB := Lib.hid hb
    clear ho hb
    obtain ⟨s, hs⟩ : ∃ s, s = 8 * j := ⟨_, rfl⟩
    rw [← hs]
    have HSJ := Lib.hid hs
    by_cases hlt : s < n
    · have hltI : (s : Int) < (n : Int) := by omega
      obtain ⟨p, off, hAe, hp, hc⟩ := HA.out (by rw [← HN.out]; omega)
      subst hAe
      have HC := Lib.hid hc
      clear hc hs
      obtain ⟨fb, hfb⟩ : ∃ fb : Nat → Bool, fb = fun i => decide (8 * j + i < n) && l.getD (8 * j + i) false := ⟨_, rfl⟩
      have HFB := Lib.hid hfb
      clear hfb
      go_wp2_with fail
      go_loopw [6, 7] (fun s6 s7 wi => ∃ k bv : Nat, k ≤ 8 ∧ s7 = .int .i64 k ∧ s6 = .int .i64 bv ∧ bv = refB fb k ∧ wr = wi) (fun _ s7 _ => 8 - (intOf s7).toNat)
      case atStart => exact ⟨0, 0, by omega, rfl, rfl, rfl, rfl⟩
      case round =>
        obtain ⟨k, bv, hk, rfl, rfl, hbv, rfl⟩ := hrel
        have hblt : bv < 256 := by
          have := refB_lt fb k
          have h2 : 2 ^ k ≤ 2 ^ 8 := Nat.pow_le_pow_right (by decide) hk
          rw [hbv]; omega
        have HBV := Lib.hid hbv
        clear hbv
        by_cases hk8 : k < 8
        · have hk8I : (k : Int) < 8 := by omega
          by_cases hin : s + k < n
          · have hinI : (s : Int) + (k : Int) < (n : Int) := by omega
            obtain ⟨v, hv⟩ : ∃ v, l[s + k]? = some v := ⟨l[s + k]'(by rw [← HN.out]; exact hin), List.getElem?_eq_getElem _⟩
            have x0 := (HB.out.cell (p := ⟨p, off + (s + k), none⟩) hp).trans (HC.out (s + k) v hv)
            have hfv : fb k = v := by
              rw [HFB.out]
              show (decide (8 * j + k < n) && l.getD (8 * j + k) false) = v
              rw [← HSJ.out, decide_eq_true hin, Bool.true_and, List.getD_eq_getElem?_getD, hv, Option.getD_some]
            have HFV := Lib.hid hfv
            have hskt : ((s : Int) + (k : Int)).toNat = s + k := by omega
            clear hv hfv
            cases v
            · have HNB : Hid (bv * 2 = refB fb (k + 1)) := Lib.hid (by rw [refB_succ, HFV.out, ← HBV.out]; rfl)
              go_wp2_with fail
              go_roundw
              case rel => exact ⟨k + 1, bv * 2, by omega, by go_num, by go_num, HNB.out, by trivial⟩
              case measure => simp [intOf]; omega
            · have HNB : Hid (bv * 2 + 1 = refB fb (k + 1)) := Lib.hid (by rw [refB_succ, HFV.out, ← HBV.out]; rfl)
              go_wp2_with fail
              go_roundw
              case rel => exact ⟨k + 1, bv * 2 + 1, by omega, by go_num, by go_num, HNB.out, by trivial⟩
              case measure => simp [intOf]; omega
          · have hfv : fb k = false := by
              rw [HFB.out]
              show (decide (8 * j + k < n) && l.getD (8 * j + k) false) = false
              rw [← HSJ.out, decide_eq_false hin, Bool.false_and]
            have HNB : Hid (bv * 2 = refB fb (k + 1)) := Lib.hid (by rw [refB_succ, hfv, ← HBV.out]; rfl)
            have hinI : decide ((s : Int) + (k : Int) < (n : Int)) = false := decide_eq_false (by omega)
            have hinN : decide (s + k < n) = false := decide_eq_false hin
            clear hfv
            go_wp2_with fail
            go_roundw
            case rel => exact ⟨k + 1, bv * 2, by omega, by go_num, by go_num, HNB.out, by trivial⟩
            case measure => simp [intOf]; omega
        · have hk8' : k = 8 := by omega
          have HE : Hid (bv = enB l l.length j) := Lib.hid (by rw [HBV.out, hk8', HFB.out, HN.out]; exact refB_eight l l.length j)
          have hu8 : IntKind.u8.wrap (bv : Int) = (bv : Int) := u8_in bv hblt
          have hsz : w.heap.size ≤ wr.heap.size := HB.out.size
          subst hk8'
          go_wp2_with (at_builtin; refine wpList_append_lies _ rfl (.tmp 48) (.tmp 51) 43 rfl w.heap.size 5 i1 _ 1 1 Tryd.underlying43 hi1 hy0 hy1 hy2 rfl (by decide) (.slice (some ⟨g, 0, none⟩) (4 + j) cap) (4 + j) (valsY (encK l j)) rfl (HW.out.alloc _) ⟨wr.heap.size, 0, none⟩ 1 1 [.int .u8 (bv : Int)] rfl rfl (World.news_of_block (cs := #[.int .u8 (bv : Int)]) (t := 5) (fr := (0, 0)) (heap_alloc_new wr _)) (by simp [Value.oneCell']) (by omega) (by unfold maxLen; omega) (by omega) (by simp; omega) (wr.heap.size + 1) (by simp) ?_)
          intro g2 cap2 W6 hown6 hgrow6 hat6 hlt6
          have hb6 : Below w.heap.size w W6 := (HB.out.alloc hsz _).grown hgrow6 (by simp; omega) (fun k' e => by have := (HW.out.lt k' e).1; omega)
          have HB6 := Lib.hid hb6
          have HO6 : Hid (W6.ownsRow w.heap.size 5 1 (.slice (some ⟨g2, 0, none⟩) (4 + (j + 1)) cap2) (4 + (j + 1)) (valsY (encK l (j + 1)))) := Lib.hid (by rw [encK_succ, valsY_snoc, ← HE.out]; exact hown6)
          have HS8 : Hid (s + 8 = 8 * (j + 1)) := Lib.hid (by have := HSJ.out; omega)
          have hjn : 8 * (j + 1) ≤ n + 7 := by have := HSJ.out; omega
          clear hown6 hgrow6 hat6 hlt6 hb6
          go_wp2_with fail
          go_roundw
          case rel => exact ⟨j + 1, g2, cap2, hjn, by rw [← HS8.out]; go_num, rfl, HO6.out, HB6.out⟩
          case measure => simp [intOf]; omega
    · have hjz : j = nby l := by unfold nby; rw [← HN.out]; omega
      have HJZ := Lib.hid hjz
      clear hjz hs
      go_wp2_with fail
      go_ret
      refine ⟨⟨g, cap, by rw [← HJZ.out]; rfl, ?_⟩, HB.out⟩
      have := own_bytes HW.out
      rw [HJZ.out] at this
      exact this
end Go.Proofs.YtakaadoppijeaaaDoor
