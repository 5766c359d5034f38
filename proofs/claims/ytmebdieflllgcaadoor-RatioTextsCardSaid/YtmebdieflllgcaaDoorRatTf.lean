/- The program's Parse and the reference's, by what they say of a text. -/
import Derived.Test.YtmebdieflllgcaaDoorRatTd
import Derived.Test.YtmebdieflllgcaaDoorRatTe
namespace Go.Proofs.YtmebdieflllgcaaDoor
open Go.RowKit
set_option maxRecDepth 100000

/-- The text behind the slash, or "1". -/
def aft (l : List UInt8) : List UInt8 := if (Lib.cut l [47]).2.2 then (Lib.cut l [47]).2.1 else [49]
theorem PA_atoi {l : List UInt8} {n d : Int} (h : PA l n d) : Lib.atoiAll (Lib.cut l [47]).1 = .ok n ∧ Lib.atoiAll (aft l) = .ok d := by
  obtain ⟨⟨h1, h2, h3, h4, _⟩, rfl⟩ := h
  unfold txtL aft
  by_cases hd : d = 1
  · rw [if_pos hd, cut_noslash _ (itoa_noslash n)]
    exact ⟨atoiAll_itoa n h3 h4, by rw [hd]; exact atoiAll_one⟩
  · rw [if_neg hd, List.append_assoc, List.singleton_append, cut_slash _ _ (itoa_noslash n)]
    exact ⟨atoiAll_itoa n h3 h4, atoiAll_itoa d (by omega) h2⟩
theorem cut_len (l : List UInt8) : (Lib.cut l [47]).1.length ≤ l.length ∧ (Lib.cut l [47]).2.1.length ≤ l.length := by
  unfold Lib.cut
  split
  · simp only [List.length_take, List.length_drop]
    omega
  · simp
theorem bytes_of (l : List UInt8) : (ByteArray.mk l.toArray).data.toList = l := by simp
theorem size_of (l : List UInt8) : (ByteArray.mk l.toArray).size = l.length := by simp [ByteArray.size]
theorem str_of {s : ByteArray} {l : List UInt8} (h : l = s.data.toList) : (ByteArray.mk l.toArray) = s := by
  apply ByteArray.ext
  rw [h]
theorem ne_str {X s : ByteArray} (h : X.data.toList ≠ s.data.toList) : (X.toList != s.toList) = true := by
  rw [bne_iff_ne, Lib.toList_data, Lib.toList_data]
  exact h
theorem txF_ok {n d : Int} (h : vldB n d = true) : txF n d = .tuple #[.string ⟨(txtL n d).toArray⟩, .int .i64 0] := by unfold txF; rw [h]; rfl
theorem txF_no {n d : Int} (h : vldB n d = false) : txF n d = .tuple #[.string ⟨#[]⟩, .int .i64 1] := by unfold txF; rw [h]; rfl
theorem text_is {n d : Int} {v : Value} (h : txF n d = v) (W : World) (hg : Gl W) : Calls Tryd.prog 33 #[.agg #[.int .i64 n, .int .i64 d]] W fun e w' => e = .returned v ∧ Below W.heap.size W w' := by
  have := Text_any n d W hg.pw
  rwa [h] at this
theorem Parse_yes (s : ByteArray) (n d : Int) (w : World) (hg : Gl w) (hs : s.size ≤ 300) (h : PA s.data.toList n d) :
    Calls Tryd.prog 31 #[.string s] w fun e w' => e = .returned (.tuple #[.agg #[.int .i64 n, .int .i64 d], .int .i64 0]) ∧ Below w.heap.size w w' := by
  obtain ⟨a1, a2⟩ := PA_atoi h
  obtain ⟨b1, b2⟩ := cut_len s.data.toList
  have hl : s.data.toList.length = s.size := rfl
  have kc := fun W (hW : Gl W) => cut_any s W hs hW
  have tx : txF n d = .tuple #[.string s, .int .i64 0] := by rw [txF_ok (vldB_true.2 h.1), str_of h.2]
  unfold aft at a2
  cases hf : (Lib.cut s.data.toList [47]).2.2 with
  | true =>
    rw [hf] at a2 kc
    exact parse_y_ok s _ _ s n d w hg kc (fun W => atoi_good _ n W (by rw [size_of]; omega) (by rw [bytes_of]; exact a1)) (fun W => atoi_good _ d W (by rw [size_of]; omega) (by rw [bytes_of]; exact a2)) (text_is tx)
  | false =>
    rw [hf] at a2 kc
    exact parse_n_ok s _ _ s n d w hg kc (fun W => atoi_good _ n W (by rw [size_of]; omega) (by rw [bytes_of]; exact a1)) (fun W => atoi_good _ d W (by simp [ByteArray.size]) (by exact a2)) (text_is tx)
theorem Parse_no (s : ByteArray) (w : World) (hg : Gl w) (hs : s.size ≤ 300) (h : ∀ n d, ¬ PA s.data.toList n d) :
    Calls Tryd.prog 31 #[.string s] w fun e w' => e = .returned (.tuple #[.agg #[.int .i64 0, .int .i64 0], .int .i64 7]) ∧ Below w.heap.size w w' := by
  obtain ⟨b1, b2⟩ := cut_len s.data.toList
  have hl : s.data.toList.length = s.size := rfl
  have kc := fun W (hW : Gl W) => cut_any s W hs hW
  by_cases h1 : ∃ n, Lib.atoiAll (Lib.cut s.data.toList [47]).1 = .ok n
  · obtain ⟨n, h1⟩ := h1
    have k1 := fun W => atoi_good ⟨(Lib.cut s.data.toList [47]).1.toArray⟩ n W (by rw [size_of]; omega) (by rw [bytes_of]; exact h1)
    cases hf : (Lib.cut s.data.toList [47]).2.2 with
    | true =>
      rw [hf] at kc
      by_cases h2 : ∃ d, Lib.atoiAll (Lib.cut s.data.toList [47]).2.1 = .ok d
      · obtain ⟨d, h2⟩ := h2
        have k2 := fun W => atoi_good ⟨(Lib.cut s.data.toList [47]).2.1.toArray⟩ d W (by rw [size_of]; omega) (by rw [bytes_of]; exact h2)
        cases hv : vldB n d with
        | false => exact parse_y_inv s _ _ s n d w hg kc k1 k2 (text_is (txF_no hv))
        | true => exact parse_y_dif s _ _ _ n d w hg kc k1 k2 (text_is (txF_ok hv)) (ne_str (by rw [bytes_of]; exact fun e => h n d ⟨vldB_true.1 hv, e⟩))
      · exact parse_y_bad2 s _ _ s n 0 w hg kc k1 (fun W hW => atoi_bad _ W (by rw [size_of]; omega) hW (fun v hv => h2 ⟨v, by rw [bytes_of] at hv; exact hv⟩))
    | false =>
      rw [hf] at kc
      have k2 := fun W => atoi_good ⟨#[49]⟩ 1 W (by simp [ByteArray.size]) atoiAll_one
      cases hv : vldB n 1 with
      | false => exact parse_n_inv s _ _ s n 1 w hg kc k1 k2 (text_is (txF_no hv))
      | true => exact parse_n_dif s _ _ _ n 1 w hg kc k1 k2 (text_is (txF_ok hv)) (ne_str (by rw [bytes_of]; exact fun e => h n 1 ⟨vldB_true.1 hv, e⟩))
  · have k1 := fun W (hW : Gl W) => atoi_bad ⟨(Lib.cut s.data.toList [47]).1.toArray⟩ W (by rw [size_of]; omega) hW (fun v hv => h1 ⟨v, by rw [bytes_of] at hv; exact hv⟩)
    cases hf : (Lib.cut s.data.toList [47]).2.2 with
    | true => rw [hf] at kc; exact parse_y_bad1 s _ _ s 0 0 w hg kc k1
    | false => rw [hf] at kc; exact parse_n_bad1 s _ _ s 0 0 w hg kc k1
end Go.Proofs.YtmebdieflllgcaaDoor
