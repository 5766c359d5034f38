/- awake. -/
import Derived.Deep.RegionWith
import Derived.Deep.DeepCutAuto
import Derived.Deep.CutBlock
import Derived.Test.YthbcfcbonmphfaaDoorTermIBundle
import Derived.Test.YthbcfcbonmphfaaDoorJoinSBundle
import Derived.Test.YthbcfcbonmphfaaDoorTermUBundle
import Derived.Test.YthbcfcbonmphfaaDoorTermNBundle
/- numbers; what awake finds. -/
namespace Go.Proofs.YthbcfcbonmphfaaDoor
open Go.RowKit Go.Shelf
set_option maxRecDepth 100000

def bNat : ByteArray := ⟨#[110, 97, 116]⟩
def sgN : Sg := ⟨[bNat], [⟨⟨#[122, 101, 114, 111]⟩, [], bNat⟩, ⟨⟨#[115]⟩, [bNat], bNat⟩]⟩
def tX : Tm := .mk ⟨#[88]⟩ bNat []
def tS : Tm := .mk ⟨#[115]⟩ ⟨#[]⟩ [tX]
def tZ : Tm := .mk ⟨#[122, 101, 114, 111]⟩ ⟨#[]⟩ []
def tSS : Tm := .mk ⟨#[115]⟩ ⟨#[]⟩ [tZ, tZ]
def tO : Tm := .mk ⟨#[111, 110, 101]⟩ ⟨#[]⟩ []
def tSO : Tm := .mk ⟨#[115]⟩ ⟨#[]⟩ [tO]
theorem v_X : isV tX = true := by simp only [isV, Lib.toList_data]; decide +kernel
theorem v_S : isV tS = false := by simp only [isV, Lib.toList_data]; decide +kernel
theorem v_Z : isV tZ = false := by simp only [isV, Lib.toList_data]; decide +kernel
theorem v_O : isV tO = false := by simp only [isV, Lib.toList_data]; decide +kernel
theorem v_SS : isV tSS = false := by simp only [isV, Lib.toList_data]; decide +kernel
theorem v_SO : isV tSO = false := by simp only [isV, Lib.toList_data]; decide +kernel
theorem val_N : validSg sgN = true := by
  unfold validSg diffL validDc memS
  simp only [Lib.toList_data]
  decide +kernel
theorem formed_S : formed tS = true := by
  unfold formed fitsL fitX agreeL namedT isV
  simp only [Lib.toList_data]
  decide +kernel
theorem formed_SS : formed tSS = true := by
  unfold formed fitsL fitX agreeL namedT isV
  simp only [Lib.toList_data]
  decide +kernel
theorem formed_SO : formed tSO = true := by
  unfold formed fitsL fitX agreeL namedT isV
  simp only [Lib.toList_data]
  decide +kernel
theorem look_s : lookD sgN.ops ⟨#[115]⟩ = some ⟨⟨#[115]⟩, [bNat], bNat⟩ := by rfl
theorem look_o : lookD sgN.ops ⟨#[111, 110, 101]⟩ = none := by rfl
theorem own_X : ownS sgN.ops tX = (bNat, true) := by unfold ownS; rw [v_X]; rfl
theorem own_O : ownS sgN.ops tO = (⟨#[]⟩, false) := by unfold ownS; rw [v_O]; rfl
theorem own_S : ownS sgN.ops tS = (bNat, true) := by unfold ownS; rw [v_S]; rfl
theorem chk_X : chk sgN tX = 0 := by rw [chk_v v_X]; rfl
theorem chk_S : chk sgN tS = 0 := by
  rw [chk_some v_S look_s]
  have : chkArgs sgN.ops tS.ks [bNat] = true := by
    show chkArgs sgN.ops [tX] [bNat] = true
    simp only [chkArgs, own_X]; rfl
  rw [if_neg (by decide), this]; rfl
theorem chk_SS : chk sgN tSS = 3 := by rw [chk_some v_SS look_s]; rfl
theorem chk_SO : chk sgN tSO = 0 := by
  rw [chk_some v_SO look_s]
  have : chkArgs sgN.ops tSO.ks [bNat] = true := by
    show chkArgs sgN.ops [tO] [bNat] = true
    simp only [chkArgs, own_O]; rfl
  rw [if_neg (by decide), this]; rfl
theorem chk_O : chk sgN tO = 9 := chk_none v_O look_o
theorem sort_S : sortRes sgN tS = (bNat, 0) := by
  rw [sortRes_ok val_N formed_S, own_S]
  intro x hx
  have : x ∈ [(1, tS), (2, tX)] := hx
  simp at this
  rcases this with rfl | rfl
  · exact chk_S
  · exact chk_X
theorem sort_SS : sortRes sgN tSS = (⟨#[]⟩, 3) := by
  have h := sortRes_err (g := sgN) (t := tSS) (p := []) (x := (1, tSS)) val_N formed_SS ⟨[(2, tZ), (2, tZ)], rfl⟩ (fun y hy => by cases hy) (by rw [show chk sgN (1, tSS).2 = 3 from chk_SS]; decide)
  rw [h]
  show (_, chk sgN tSS) = _
  rw [chk_SS]
theorem sort_SO : sortRes sgN tSO = (⟨#[]⟩, 9) := by
  have h := sortRes_err (g := sgN) (t := tSO) (p := [(1, tSO)]) (x := (2, tO)) val_N formed_SO ⟨[], rfl⟩ (fun y hy => by rw [List.mem_singleton.1 hy]; exact chk_SO) (by rw [show chk sgN (2, tO).2 = 9 from chk_O]; decide)
  rw [h]
  show (_, chk sgN tO) = _
  rw [chk_O]
theorem txt_N : txtSig sgN = .tuple #[.string ⟨#[115, 111, 114, 116, 32, 110, 97, 116, 10, 111, 112, 32, 122, 101, 114, 111, 40, 41, 32, 45, 62, 32, 110, 97, 116, 10, 111, 112, 32, 115, 40, 110, 97, 116, 41, 32, 45, 62, 32, 110, 97, 116, 10]⟩, .int .i64 0] := by
  rw [txtSig_ok val_N]; rfl
theorem size_S : tS.size = 2 ∧ tS.depth = 2 := by decide
theorem rcmp_X : rcmp tX tX = 0 := by
  rw [rcmp_eq rfl]; rfl
theorem rcmp_S : rcmp tS tS = 0 := by
  rw [rcmp_eq rfl]
  have : rcmps tS.ks tS.ks = 0 := by
    show rcmps [tX] [tX] = 0
    simp only [rcmps, rcmp_X]; rfl
  rw [this]; rfl
theorem at_S : subAt tS [0] = some tX := by rfl
end Go.Proofs.YthbcfcbonmphfaaDoor

/- awake. -/
namespace Go.Proofs.YthbcfcbonmphfaaDoor
open Go.RowKit Go.Shelf
set_option maxRecDepth 100000

theorem pt_var {x y z : Tk} {l l' : List Tk} {r : Option Tm} (h : PT (x :: y :: z :: l) r l') (h1 : x.k = 1) (h2 : sym y [58]) (h3 : z.k = 1) : r = some (.mk (nmOf x) (nmOf z) []) ∧ l' = l := by
  cases h with
  | noName h => exact absurd h1 h
  | var _ _ _ => exact ⟨rfl, rfl⟩
  | noSort _ _ h => exact absurd h3 h
  | parts _ h _ => exact absurd h2 h
def pS : List Tk := [⟨1, [115], 0, 1, 1⟩, ⟨4, [40], 0, 1, 2⟩, ⟨1, [88], 0, 1, 3⟩, ⟨4, [58], 0, 1, 4⟩, ⟨1, [110, 97, 116], 0, 1, 5⟩, ⟨4, [41], 0, 1, 8⟩, ⟨5, [], 0, 1, 9⟩]
theorem toks_S : toks [115, 40, 88, 58, 110, 97, 116, 41] 1 1 = .ok pS := by rfl
theorem pl_S {r : Option (List Tm)} {l' : List Tk} (h : PL [⟨1, [88], 0, 1, 3⟩, ⟨4, [58], 0, 1, 4⟩, ⟨1, [110, 97, 116], 0, 1, 5⟩, ⟨4, [41], 0, 1, 8⟩, ⟨5, [], 0, 1, 9⟩] r l') : r = some [tX] ∧ l' = [⟨5, [], 0, 1, 9⟩] := by
  have key : ∀ {r : Option Tm} {l' : List Tk}, PT [⟨1, [88], 0, 1, 3⟩, ⟨4, [58], 0, 1, 4⟩, ⟨1, [110, 97, 116], 0, 1, 5⟩, ⟨4, [41], 0, 1, 8⟩, ⟨5, [], 0, 1, 9⟩] r l' → r = some tX ∧ l' = [⟨4, [41], 0, 1, 8⟩, ⟨5, [], 0, 1, 9⟩] := fun h => pt_var h rfl ⟨rfl, rfl⟩ rfl
  cases h with
  | bad hT => exact absurd (key hT).1 (by simp)
  | last hT h =>
    obtain ⟨e1, e2⟩ := key hT
    injection e1 with e1
    injection e2 with e2 e3
    exact ⟨by rw [e1], e3⟩
  | noComma hT h _ =>
    obtain ⟨_, e2⟩ := key hT
    injection e2 with e2 e3
    exact absurd (by rw [e2]; exact ⟨rfl, rfl⟩) h
  | more hT h _ _ =>
    obtain ⟨_, e2⟩ := key hT
    injection e2 with e2 e3
    exact absurd (by rw [e2]; exact ⟨rfl, rfl⟩) h
theorem pt_S {r : Option Tm} {l' : List Tk} (h : PT pS r l') : r = some tS ∧ l' = [⟨5, [], 0, 1, 9⟩] := by
  unfold pS at h
  cases h with
  | noName h => exact absurd rfl h
  | var _ h _ => exact absurd h.2 (by simp)
  | noSort _ h _ => exact absurd h.2 (by simp)
  | parts _ _ hL =>
    cases hL with
    | noParen h => exact absurd ⟨rfl, rfl⟩ h
    | empty _ h => exact absurd h.1 (by simp)
    | elems _ _ hP =>
      obtain ⟨e1, e2⟩ := pl_S hP
      rw [e1]
      exact ⟨rfl, e2⟩

/-- numbers. -/
def numPost (w : World) (e : Ending) (w' : World) : Prop :=
  (∃ A1 A2, e = .returned (.agg #[.slice A1 1 1, .slice A2 2 2]) ∧ SlS w'.heap.size w' A1 sgN.sorts ∧ SlD w'.heap.size w' A2 sgN.ops) ∧ Below w.heap.size w w'
set_option maxHeartbeats 1000000 in
theorem numbers_any (w : World) : Calls Tryd.prog 72 #[] w (numPost w) := by
  go_enter Tryd.func72, Tryd.ntmps72
  go_wp2_with fail
  refine bodyPost_ret (v := .agg #[.slice (some ⟨w.heap.size + 1, 0, none⟩) 1 1, .slice (some ⟨w.heap.size + 1 + 1 + 1, 0, none⟩) 2 2]) (by simp [results, Tryd.results72, go_sem]) rfl ?_
  have q1 := heap_alloc_new (w.alloc (.cells #[.slice (some ⟨w.heap.size + 1, 0, none⟩) 1 1, .slice (some ⟨w.heap.size + 1 + 1 + 1, 0, none⟩) 2 2] 82)) (.cells #[.string ⟨#[110, 97, 116]⟩] 9)
  have q2 := heap_alloc_new ((w.alloc (.cells #[.slice (some ⟨w.heap.size + 1, 0, none⟩) 1 1, .slice (some ⟨w.heap.size + 1 + 1 + 1, 0, none⟩) 2 2] 82)).alloc (.cells #[.string ⟨#[110, 97, 116]⟩] 9)) (.cells #[.string ⟨#[110, 97, 116]⟩] 9)
  have q3 := heap_alloc_new (((w.alloc (.cells #[.slice (some ⟨w.heap.size + 1, 0, none⟩) 1 1, .slice (some ⟨w.heap.size + 1 + 1 + 1, 0, none⟩) 2 2] 82)).alloc (.cells #[.string ⟨#[110, 97, 116]⟩] 9)).alloc (.cells #[.string ⟨#[110, 97, 116]⟩] 9)) (.cells #[.string ⟨#[122, 101, 114, 111]⟩, .slice none 0 0, .string ⟨#[110, 97, 116]⟩, .string ⟨#[115]⟩, .slice (some ⟨w.heap.size + 1 + 1, 0, none⟩) 1 1, .string ⟨#[110, 97, 116]⟩] 140)
  simp only [World.size_alloc] at q1 q2 q3
  replace q1 := (Below.heap_alloc _ (.cells #[.string ⟨#[122, 101, 114, 111]⟩, .slice none 0 0, .string ⟨#[110, 97, 116]⟩, .string ⟨#[115]⟩, .slice (some ⟨w.heap.size + 1 + 1, 0, none⟩) 1 1, .string ⟨#[110, 97, 116]⟩] 140) _ (by simp)).trans ((Below.heap_alloc _ (.cells #[.string ⟨#[110, 97, 116]⟩] 9) _ (by simp)).trans q1)
  replace q2 := (Below.heap_alloc _ (.cells #[.string ⟨#[122, 101, 114, 111]⟩, .slice none 0 0, .string ⟨#[110, 97, 116]⟩, .string ⟨#[115]⟩, .slice (some ⟨w.heap.size + 1 + 1, 0, none⟩) 1 1, .string ⟨#[110, 97, 116]⟩] 140) _ (by simp)).trans q2
  refine ⟨⟨_, _, rfl, fun _ => ⟨_, 0, rfl, by simp, fun i s hi => ?_⟩, fun _ => ⟨_, 0, rfl, by simp, fun i d hi => ?_⟩⟩, ?_⟩
  · match i, hi with
    | 0, hi => injection hi with hi; subst hi; exact cell_of_row _ _ 0 _ _ (0, 0) q1
  · match i, hi with
    | 0, hi =>
      injection hi with hi
      subst hi
      exact ⟨none, 0, cell_of_row _ _ 0 _ _ (0, 0) q3, cell_of_row _ _ 1 _ _ (0, 0) q3, cell_of_row _ _ 2 _ _ (0, 0) q3, fun h => absurd h (by simp)⟩
    | 1, hi =>
      injection hi with hi
      subst hi
      exact ⟨some ⟨w.heap.size + 1 + 1, 0, none⟩, 1, cell_of_row _ _ 3 _ _ (0, 0) q3, cell_of_row _ _ 4 _ _ (0, 0) q3, cell_of_row _ _ 5 _ _ (0, 0) q3, fun _ => ⟨_, 0, rfl, by simp, fun j a hj => by
        match j, hj with
        | 0, hj => injection hj with hj; subst hj; exact cell_of_row _ _ 0 _ _ (0, 0) q2⟩⟩
  · (repeat' (first | exact Below.refl _ _ | refine Below.alloc ?_ (by simp <;> omega) _))

theorem okN : okG sgN := by
  refine ⟨⟨by decide, fun s hs => ?_⟩, by decide, fun d hd => ?_⟩
  · rw [List.mem_singleton.1 hs]; decide
  · have : d ∈ [(⟨⟨#[122, 101, 114, 111]⟩, [], bNat⟩ : Dc), ⟨⟨#[115]⟩, [bNat], bNat⟩] := hd
    simp at this
    rcases this with rfl | rfl
    · exact ⟨by decide, by decide, by decide, fun a ha => by cases ha⟩
    · exact ⟨by decide, by decide, by decide, fun a ha => by rw [List.mem_singleton.1 ha]; decide⟩
theorem okX (m : Nat) (h : 100 ≤ m) : okT m tX := .mk _ _ _ (Nat.le_trans (by decide) h) (Nat.le_trans (by decide) h) (Nat.zero_le _) (fun k hk => by cases hk)
theorem okZ (m : Nat) (h : 100 ≤ m) : okT m tZ := .mk _ _ _ (Nat.le_trans (by decide) h) (Nat.zero_le _) (Nat.zero_le _) (fun k hk => by cases hk)
theorem okO (m : Nat) (h : 100 ≤ m) : okT m tO := .mk _ _ _ (Nat.le_trans (by decide) h) (Nat.zero_le _) (Nat.zero_le _) (fun k hk => by cases hk)
theorem okS' (m : Nat) (h : 100 ≤ m) : okT m tS := .mk _ _ _ (Nat.le_trans (by decide) h) (Nat.zero_le _) (Nat.le_trans (by decide) h) (fun k hk => by rw [List.mem_singleton.1 hk]; exact okX m h)
theorem okSS (m : Nat) (h : 100 ≤ m) : okT m tSS := .mk _ _ _ (Nat.le_trans (by decide) h) (Nat.zero_le _) (Nat.le_trans (by decide) h) (fun k hk => by
  rcases List.mem_cons.1 hk with rfl | hk
  · exact okZ m h
  · rw [List.mem_singleton.1 hk]; exact okZ m h)
theorem okSO (m : Nat) (h : 100 ≤ m) : okT m tSO := .mk _ _ _ (Nat.le_trans (by decide) h) (Nat.zero_le _) (Nat.le_trans (by decide) h) (fun k hk => by rw [List.mem_singleton.1 hk]; exact okO m h)
theorem m100 : 100 ≤ maxLen := by unfold maxLen; omega
theorem trep_one {n₀ : Nat} {w : World} {b : Nat} {k : Tm} {A : Option Addr} {c : Nat} (nm st : ByteArray) (h : w.heap[b]? = some (.cells (tcells k A c) 56 (0, 0))) (hb : b < n₀) (hk : TRep n₀ w k A) : TRep n₀ w (.mk nm st [k]) (some ⟨b, 0, none⟩) := by
  obtain ⟨⟨c0, c1, c2⟩, _⟩ := blk3 h
  refine .mk nm st [k] _ b 0 (fun _ => A) (fun _ => c) (fun _ => ⟨rfl, hb⟩) (fun i x hi => ?_) (fun i x hi => ?_) (fun i x hi => ?_) (fun i x hi => ?_) <;>
    (match i, hi with
      | 0, hi => injection hi with hi; subst hi; first | exact c0 | exact c1 | exact c2 | exact hk)
theorem trep_two {n₀ : Nat} {w : World} {b : Nat} {k : Tm} {A : Option Addr} {c : Nat} (nm st : ByteArray) (h : w.heap[b]? = some (.cells #[.string k.nm, .string k.st, .slice A k.ks.length c, .string k.nm, .string k.st, .slice A k.ks.length c] 56 (0, 0))) (hb : b < n₀) (hk : TRep n₀ w k A) : TRep n₀ w (.mk nm st [k, k]) (some ⟨b, 0, none⟩) := by
  have c0 := cell_of_row w b 0 _ _ (0, 0) h
  have c1 := cell_of_row w b 1 _ _ (0, 0) h
  have c2 := cell_of_row w b 2 _ _ (0, 0) h
  have c3 := cell_of_row w b 3 _ _ (0, 0) h
  have c4 := cell_of_row w b 4 _ _ (0, 0) h
  have c5 := cell_of_row w b 5 _ _ (0, 0) h
  refine .mk nm st [k, k] _ b 0 (fun _ => A) (fun _ => c) (fun _ => ⟨rfl, hb⟩) (fun i x hi => ?_) (fun i x hi => ?_) (fun i x hi => ?_) (fun i x hi => ?_) <;>
    (match i, hi with
      | 0, hi => injection hi with hi; subst hi; first | exact c0 | exact c1 | exact c2 | exact hk
      | 1, hi => injection hi with hi; subst hi; first | exact c3 | exact c4 | exact c5 | exact hk)

theorem sortS_any (A1 A2 A : Option Addr) (c : Nat) (W : World) (hs : SlS W.heap.size W A1 sgN.sorts) (hd : SlD W.heap.size W A2 sgN.ops) (hrep : TRep W.heap.size W tS A) :
    Calls Tryd.prog 53 #[.agg #[.slice A1 1 1, .slice A2 2 2], .agg #[.string ⟨#[115]⟩, .string ⟨#[]⟩, .slice A 1 c]] W fun e w' => e = .returned (.tuple #[.string bNat, .int .i64 0]) ∧ Below W.heap.size W w' := by
  have h := Sort_any sgN A1 1 A2 2 tS A c W hs hd okN hrep (okS' _ m100) (by decide)
  rw [sort_S] at h
  exact h
theorem sortSS_any (A1 A2 A : Option Addr) (c : Nat) (W : World) (hs : SlS W.heap.size W A1 sgN.sorts) (hd : SlD W.heap.size W A2 sgN.ops) (hrep : TRep W.heap.size W tSS A) :
    Calls Tryd.prog 53 #[.agg #[.slice A1 1 1, .slice A2 2 2], .agg #[.string ⟨#[115]⟩, .string ⟨#[]⟩, .slice A 2 c]] W fun e w' => e = .returned (.tuple #[.string ⟨#[]⟩, .int .i64 3]) ∧ Below W.heap.size W w' := by
  have h := Sort_any sgN A1 1 A2 2 tSS A c W hs hd okN hrep (okSS _ m100) (by decide)
  rw [sort_SS] at h
  exact h
theorem sortSO_any (A1 A2 A : Option Addr) (c : Nat) (W : World) (hs : SlS W.heap.size W A1 sgN.sorts) (hd : SlD W.heap.size W A2 sgN.ops) (hrep : TRep W.heap.size W tSO A) :
    Calls Tryd.prog 53 #[.agg #[.slice A1 1 1, .slice A2 2 2], .agg #[.string ⟨#[115]⟩, .string ⟨#[]⟩, .slice A 1 c]] W fun e w' => e = .returned (.tuple #[.string ⟨#[]⟩, .int .i64 9]) ∧ Below W.heap.size W w' := by
  have h := Sort_any sgN A1 1 A2 2 tSO A c W hs hd okN hrep (okSO _ m100) (by decide)
  rw [sort_SO] at h
  exact h
theorem atS_any (A : Option Addr) (c b : Nat) (W : World) (hrep : TRep W.heap.size W tS A) (hb : b < W.heap.size) (hc : W.cell? ⟨b, 0, none⟩ = some (.int .i64 0)) :
    Calls Tryd.prog 32 #[.agg #[.string ⟨#[115]⟩, .string ⟨#[]⟩, .slice A 1 c], .slice (some ⟨b, 0, none⟩) 1 1] W fun e w' => (∃ A' c', e = .returned (.tuple #[.agg #[.string ⟨#[88]⟩, .string bNat, .slice A' 0 c'], .int .i64 0])) ∧ Below W.heap.size W w' := by
  have h := At_any tS A c (some ⟨b, 0, none⟩) 1 [0] W hrep (fun _ => ⟨b, 0, rfl, hb, fun i x hi => by
    match i, hi with
    | 0, hi => injection hi with hi; subst hi; exact hc⟩) (by decide) (okS' _ (by decide)) (by decide)
  refine Calls.mono h ?_
  rintro e w' ⟨h1, h2⟩
  rw [if_pos formed_S, at_S] at h1
  obtain ⟨A', c', he, _⟩ := h1
  exact ⟨⟨A', c', he⟩, h2⟩
theorem txtN_any (A1 A2 : Option Addr) (W : World) (hs : SlS W.heap.size W A1 sgN.sorts) (hd : SlD W.heap.size W A2 sgN.ops) :
    Calls Tryd.prog 49 #[.agg #[.slice A1 1 1, .slice A2 2 2]] W fun e w' => e = .returned (.tuple #[.string ⟨#[115, 111, 114, 116, 32, 110, 97, 116, 10, 111, 112, 32, 122, 101, 114, 111, 40, 41, 32, 45, 62, 32, 110, 97, 116, 10, 111, 112, 32, 115, 40, 110, 97, 116, 41, 32, 45, 62, 32, 110, 97, 116, 10]⟩, .int .i64 0]) ∧ Below W.heap.size W w' := by
  have h := TextSignature_any sgN A1 1 A2 2 W hs hd okN (fun i d b off A' c' hi _ _ => joins_two (c := c') <| by
    have : d ∈ [(⟨⟨#[122, 101, 114, 111]⟩, [], bNat⟩ : Dc), ⟨⟨#[115]⟩, [bNat], bNat⟩] := List.mem_of_getElem? hi
    simp at this
    rcases this with rfl | rfl <;> simp)
  rw [txt_N] at h
  exact h
theorem parseS_any (W : World) (hp : Pairs W) :
    Calls Tryd.prog 41 #[.string ⟨#[115, 40, 88, 58, 110, 97, 116, 41]⟩] W fun e w' => (∃ A c, e = .returned (.tuple #[.agg #[.string ⟨#[115]⟩, .string ⟨#[]⟩, .slice A 1 c], .agg #[.int .i64 0, .int .i64 0], .int .i64 0]) ∧ TRep w'.heap.size w' tS A) ∧ Below W.heap.size W w' := by
  refine (Parse_ok ⟨#[115, 40, 88, 58, 110, 97, 116, 41]⟩ W (by decide) hp pS toks_S).mono ?_
  rintro e w' ⟨hb, h⟩
  have hfa : formed tS = true := formed_S
  unfold formed at hfa
  simp only [Bool.and_eq_true] at hfa
  have htk : toks (ByteArray.mk #[115, 40, 88, 58, 110, 97, 116, 41]).data.toList 1 1 = .ok pS := toks_S
  refine ⟨?_, hb⟩
  rcases h with ⟨h, _⟩ | ⟨_, p, h, _⟩ | ⟨_, L, r, x, l', h, hpt, hn, _⟩ | ⟨_, L, t, x, l', h, hpt, hx, h3⟩
  · exact absurd h (by decide)
  · rw [htk] at h; cases h
  · rw [htk] at h
    injection h with h
    subst h
    obtain ⟨e1, e2⟩ := pt_S hpt
    injection e2 with e2 _
    rcases hn with hn | hn
    · rw [hn] at e1; cases e1
    · rw [e2] at hn; exact absurd rfl hn
  · rw [htk] at h
    injection h with h
    subst h
    obtain ⟨e1, e2⟩ := pt_S hpt
    injection e1 with e1
    subst e1
    rcases h3 with ⟨h3, _⟩ | ⟨_, h3, _⟩ | ⟨_, _, A, c, he, htx⟩
    · rw [hfa.1.1] at h3; cases h3
    · rw [hfa.2] at h3; cases h3
    · exact ⟨A, c, he, htx.rep (fun b hb => hb.2)⟩
theorem sizeS_any (A : Option Addr) (c : Nat) (W : World) (hrep : TRep W.heap.size W tS A) :
    Calls Tryd.prog 73 #[.agg #[.string ⟨#[115]⟩, .string ⟨#[]⟩, .slice A 1 c]] W fun e w' => e = .returned (.int .i64 2) ∧ Below W.heap.size W w' := by
  have h := size_any tS A c W hrep (okS' _ m100) (by decide)
  have e : sizeR tS = 2 := by unfold sizeR; rw [formed_S]; rfl
  rw [e] at h
  exact h
theorem depthS_any (A : Option Addr) (c : Nat) (W : World) (hrep : TRep W.heap.size W tS A) :
    Calls Tryd.prog 74 #[.agg #[.string ⟨#[115]⟩, .string ⟨#[]⟩, .slice A 1 c]] W fun e w' => e = .returned (.int .i64 2) ∧ Below W.heap.size W w' := by
  have h := depth_any tS A c W hrep (okS' _ m100) (by decide)
  have e : depthR tS = 2 := by unfold depthR; rw [formed_S]; rfl
  rw [e] at h
  exact h
theorem sameX_any (A B : Option Addr) (c c' : Nat) (W : World) :
    Calls Tryd.prog 35 #[.agg #[.string ⟨#[88]⟩, .string bNat, .slice A 0 c], .agg #[.string ⟨#[88]⟩, .string bNat, .slice B 0 c']] W fun e w' => e = .returned (.bool true) ∧ Below W.heap.size W w' := by
  have h := refSame_any tX tX A B c c' W.heap.size W (TRep.leaf _ _ _ _ rfl) (TRep.leaf _ _ _ _ rfl) (Nat.le_refl _) (okX _ m100) (okX _ m100)
  rw [rcmp_X] at h
  exact h
theorem sameS_any (A B : Option Addr) (c c' : Nat) (W : World) (h1 : TRep W.heap.size W tS A) (h2 : TRep W.heap.size W tS B) :
    Calls Tryd.prog 35 #[.agg #[.string ⟨#[115]⟩, .string ⟨#[]⟩, .slice A 1 c], .agg #[.string ⟨#[115]⟩, .string ⟨#[]⟩, .slice B 1 c']] W fun e w' => e = .returned (.bool true) ∧ Below W.heap.size W w' := by
  have h := refSame_any tS tS A B c c' W.heap.size W h1 h2 (Nat.le_refl _) (okS' _ m100) (okS' _ m100)
  rw [rcmp_S] at h
  exact h
end Go.Proofs.YthbcfcbonmphfaaDoor
namespace Go.Proofs.YthbcfcbonmphfaaDoor
open Go.RowKit Go.Shelf
set_option maxRecDepth 100000

/-- What awake keeps: its terms. -/
structure AW (w w' : World) : Prop where
  below : Below w.heap.size w w'
  b1 : w'.heap[w.heap.size]? = some (.cells (tcells tX none 0) 56 (0, 0))
  s2 : w'.heap[w.heap.size + 1]? = some (.cells (tcells tX none 0) 56 (0, 0))
  b2 : w'.heap[w.heap.size + 1 + 1]? = some (.cells (tcells tS (some ⟨w.heap.size + 1, 0, none⟩) 1) 56 (0, 0))
  b3 : w'.heap[w.heap.size + 1 + 1 + 1]? = some (.cells (tcells tZ none 0) 56 (0, 0))
theorem AW.next {w w1 w2 : World} (h : AW w w1) (hb : Below w1.heap.size w1 w2) : AW w w2 :=
  ⟨h.below.trans (hb.mono h.below.size), cells_below h.b1 hb, cells_below h.s2 hb, cells_below h.b2 hb, cells_below h.b3 hb⟩
theorem AW.drew {w w1 : World} (h : AW w w1) : AW w w1.drew := ⟨h.below.drew, h.b1, h.s2, h.b2, h.b3⟩
theorem AW.rep {w w1 : World} (h : AW w w1) : TRep w1.heap.size w1 tS (some ⟨w.heap.size + 1, 0, none⟩) :=
  trep_one _ _ h.s2 (Array.getElem?_eq_some_iff.1 h.s2).1 (TRep.leaf _ _ _ _ rfl)
theorem AW.start (w : World) : AW w ((((w.alloc (.cells (tcells tX none 0) 56)).alloc (.cells (tcells tX none 0) 56)).alloc (.cells (tcells tS (some ⟨w.heap.size + 1, 0, none⟩) 1) 56)).alloc (.cells (tcells tZ none 0) 56)) := by
  have h1 := heap_alloc_new w (.cells (tcells tX none 0) 56)
  have h2 := heap_alloc_new (w.alloc (.cells (tcells tX none 0) 56)) (.cells (tcells tX none 0) 56)
  have h3 := heap_alloc_new ((w.alloc (.cells (tcells tX none 0) 56)).alloc (.cells (tcells tX none 0) 56)) (.cells (tcells tS (some ⟨w.heap.size + 1, 0, none⟩) 1) 56)
  have h4 := heap_alloc_new (((w.alloc (.cells (tcells tX none 0) 56)).alloc (.cells (tcells tX none 0) 56)).alloc (.cells (tcells tS (some ⟨w.heap.size + 1, 0, none⟩) 1) 56)) (.cells (tcells tZ none 0) 56)
  simp only [World.size_alloc] at h2 h3 h4
  exact ⟨((((Below.refl _ _).alloc (Nat.le_refl _) _).alloc (by simp) _).alloc (by simp; omega) _).alloc (by simp; omega) _,
    (Below.heap_alloc _ _ _ (by simp; omega)).trans ((Below.heap_alloc _ _ _ (by simp; omega)).trans ((Below.heap_alloc _ _ _ (by simp)).trans h1)),
    (Below.heap_alloc _ _ _ (by simp)).trans ((Below.heap_alloc _ _ _ (by simp)).trans h2), (Below.heap_alloc _ _ _ (by simp)).trans h3, h4⟩

set_option maxHeartbeats 8000000 in
theorem awake02_any (w : World) (hp : Pairs w) : Calls Tryd.prog 30 #[] w fun e w' => e = .returned (.bool true) ∧ Below w.heap.size w w' := by
  have HP := Lib.hid hp
  have H0 : AW w ((((w.alloc (.cells #[.string ⟨#[88]⟩, .string ⟨#[110, 97, 116]⟩, .slice none 0 0] 56)).alloc (.cells #[.string ⟨#[88]⟩, .string ⟨#[110, 97, 116]⟩, .slice none 0 0] 56)).alloc (.cells #[.string ⟨#[115]⟩, .string ⟨#[]⟩, .slice (some ⟨w.heap.size + 1, 0, none⟩) 1 1] 56)).alloc (.cells #[.string ⟨#[122, 101, 114, 111]⟩, .string ⟨#[]⟩, .slice none 0 0] 56)) := AW.start w
  clear hp
  go_enter Tryd.func30, Tryd.ntmps30
  go_upto_region 4 with fail
  generalize ((((w.alloc (.cells #[.string ⟨#[88]⟩, .string ⟨#[110, 97, 116]⟩, .slice none 0 0] 56)).alloc (.cells #[.string ⟨#[88]⟩, .string ⟨#[110, 97, 116]⟩, .slice none 0 0] 56)).alloc (.cells #[.string ⟨#[115]⟩, .string ⟨#[]⟩, .slice (some ⟨w.heap.size + 1, 0, none⟩) 1 1] 56)).alloc (.cells #[.string ⟨#[122, 101, 114, 111]⟩, .string ⟨#[]⟩, .slice none 0 0] 56)) = W0 at H0 ⊢
  go_cut [4, 5] from 22 to 27 (fun a b wx => a = .string ⟨#[110, 97, 116]⟩ ∧ b = .int .i64 0 ∧ AW w wx)
  case first =>
    obtain ⟨⟨x0, x1, x2⟩, _⟩ := blk3 H0.b2
    have HA := Lib.hid H0
    clear H0
    unfold tS at x0 x1 x2
    dsimp only [Tm.nm_mk, Tm.st_mk, Tm.ks_mk, List.length_cons, List.length_nil] at x0 x1 x2
    go_region_with (first
      | (go_at_call 72; refine (numbers_any _).mono ?_; rintro e w1 ⟨⟨A1, A2, rfl, hs, hd⟩, hb⟩; have HS := Lib.hid hs; have HD := Lib.hid hd; have HA1 := Lib.hid (HA.out.next ((Below.refl _ _).drew.trans hb)); obtain ⟨⟨y0, y1, y2⟩, _⟩ := blk3 HA1.out.b2; unfold tS at y0 y1 y2; dsimp only [Tm.nm_mk, Tm.st_mk, Tm.ks_mk, List.length_cons, List.length_nil] at y0 y1 y2; clear hs hd hb)
      | (go_at_call 53; refine (sortS_any A1 A2 _ 1 _ HS.out HD.out HA1.out.rep).mono ?_; rintro e w2 ⟨rfl, hb2⟩; have HA2 := Lib.hid (HA1.out.next hb2); clear hb2))
    all_goals
      go_wp2_with fail
      go_meet
      exact ⟨rfl, rfl, HA2.out⟩
  case rest =>
    obtain ⟨rfl, rfl, hA⟩ := hcut
    clear H0
    have HA := Lib.hid hA
    have HA5 := Lib.hid (hA.next ((Below.refl _ _).alloc (Nat.le_refl _) (.cells #[.int .i64 0] 3)))
    obtain ⟨⟨x0, x1, x2⟩, _⟩ := blk3 hA.b2
    unfold tS at x0 x1 x2
    dsimp only [Tm.nm_mk, Tm.st_mk, Tm.ks_mk, List.length_cons, List.length_nil] at x0 x1 x2
    clear hA
    go_wp2_with fail
    refine (atS_any _ 1 wc.heap.size _ HA5.out.rep (by simp) (by simp)).mono ?_
    rintro e w3 ⟨⟨A6, c6, rfl⟩, hb3⟩
    have HA3 := Lib.hid (HA5.out.next hb3)
    have HA6 := Lib.hid (HA3.out.next ((Below.refl _ _).alloc (Nat.le_refl _) (.cells #[.string ⟨#[88]⟩, .string bNat, .slice A6 0 c6] 56)))
    have HB6 := Lib.hid (heap_alloc_new w3 (.cells #[.string ⟨#[88]⟩, .string bNat, .slice A6 0 c6] 56))
    clear x0 x1 x2 hb3 HA5 HA
    go_upto_region 6 with fail
    generalize hW6 : w3.alloc (.cells #[.string ⟨#[88]⟩, .string bNat, .slice A6 0 c6] 56) = W6 at HA6 HB6 ⊢
    clear hW6
    go_cut [8, 9] from 34 to 42 (fun a b wx => a = .string ⟨#[]⟩ ∧ b = .int .i64 3 ∧ AW w wx ∧ wx.heap[w3.heap.size]? = some (.cells #[.string ⟨#[88]⟩, .string bNat, .slice A6 0 c6] 56 (0, 0)))
    case first =>
      obtain ⟨⟨z0, z1, z2⟩, _⟩ := blk3 HA6.out.b3
      unfold tZ at z0 z1 z2
      dsimp only [Tm.nm_mk, Tm.st_mk, Tm.ks_mk, List.length_nil] at z0 z1 z2
      have hfact : ∀ W', Below W6.heap.size W6 W' → (W'.cell? ⟨w.heap.size + 1 + 1 + 1, 0, none⟩ = some (.string ⟨#[122, 101, 114, 111]⟩) ∧ W'.cell? ⟨w.heap.size + 1 + 1 + 1, 1, none⟩ = some (.string ⟨#[]⟩) ∧ W'.cell? ⟨w.heap.size + 1 + 1 + 1, 2, none⟩ = some (.slice none 0 0)) ∧ AW w W' ∧ W'.heap[w3.heap.size]? = some (.cells #[.string ⟨#[88]⟩, .string bNat, .slice A6 0 c6] 56 (0, 0)) := fun W' hb => by
        have ha := HA6.out.next hb
        obtain ⟨h, _⟩ := blk3 ha.b3
        exact ⟨h, ha, cells_below HB6.out hb⟩
      have HF := Lib.hid hfact
      clear hfact
      go_region_with (first
        | (go_at_call 72; refine (numbers_any _).mono ?_; rintro e w7 ⟨⟨A1, A2, rfl, hs, hd⟩, hb⟩; have HS := Lib.hid hs; have HD := Lib.hid hd; first
            | (have hbA : Below W6.heap.size W6 w7 := (Below.refl _ _).drew.trans hb; obtain ⟨⟨y0, y1, y2⟩, ha, hq⟩ := HF.out w7 hbA; have HAA := Lib.hid ha; have HQ6 := Lib.hid hq; clear hs hd hb hbA ha hq)
            | (have hbA : Below W6.heap.size W6 w7 := (((Below.refl W6.heap.size W6).alloc (Nat.le_refl _) (.cells #[.string ⟨#[122, 101, 114, 111]⟩, .string ⟨#[]⟩, .slice none 0 0, .string ⟨#[122, 101, 114, 111]⟩, .string ⟨#[]⟩, .slice none 0 0] 56)).drew).trans (hb.mono (by simp)); have HQP := Lib.hid (cells_below (heap_alloc_new W6 (.cells #[.string ⟨#[122, 101, 114, 111]⟩, .string ⟨#[]⟩, .slice none 0 0, .string ⟨#[122, 101, 114, 111]⟩, .string ⟨#[]⟩, .slice none 0 0] 56)) ((Below.refl _ _).drew.trans hb)); obtain ⟨⟨y0, y1, y2⟩, ha, hq⟩ := HF.out w7 hbA; have HAA := Lib.hid ha; have HQ6 := Lib.hid hq; clear hs hd hb hbA ha hq))
        | (go_at_call 53; first
            | (refine (sortSS_any A1 A2 _ 2 w7 HS.out HD.out (trep_two (k := tZ) (A := none) (c := 0) _ _ HQP.out (Array.getElem?_eq_some_iff.1 HQP.out).1 (TRep.leaf _ _ _ _ rfl))).mono ?_; rintro e w8 ⟨rfl, hb8⟩; have HA8 := Lib.hid (HAA.out.next hb8); have HQ8 := Lib.hid (cells_below HQ6.out hb8); clear hb8)
            | (refine (sortSS_any A1 A2 _ 2 _ ((HS.out.later ((Below.refl _ _).alloc (Nat.le_refl _) _)).mono (by simp)) ((HD.out.later ((Below.refl _ _).alloc (Nat.le_refl _) _)).mono (by simp)) (trep_two (k := tZ) (A := none) (c := 0) _ _ (heap_alloc_new w7 _) (by simp) (TRep.leaf _ _ _ _ rfl))).mono ?_; rintro e w8 ⟨rfl, hb8⟩; have HA8 := Lib.hid ((HAA.out.next ((Below.refl _ _).alloc (Nat.le_refl _) _)).next hb8); have HQ8 := Lib.hid (cells_below (cells_below HQ6.out ((Below.refl _ _).alloc (Nat.le_refl _) _)) hb8); clear hb8)))
      all_goals
        go_wp2_with fail
        go_meet
        exact ⟨rfl, rfl, HA8.out, HQ8.out⟩
    case rest =>
      obtain ⟨rfl, rfl, hA, hB⟩ := hcut
      clear HA6 HB6 HA3
      have HA := Lib.hid hA
      have HB := Lib.hid hB
      clear hA hB
      go_wp2_with fail
      refine (numbers_any _).mono ?_
      rintro e w9 ⟨⟨A1, A2, rfl, hs, hd⟩, hb9⟩
      have HS := Lib.hid hs
      have HD := Lib.hid hd
      have HA9 := Lib.hid (HA.out.next hb9)
      have HB9 := Lib.hid (cells_below HB.out hb9)
      clear hs hd hb9 HA HB
      go_wp2_with fail
      refine (sortSO_any A1 A2 _ 1 _ ((HS.out.later ((Below.refl _ _).alloc (Nat.le_refl _) _)).mono (by simp)) ((HD.out.later ((Below.refl _ _).alloc (Nat.le_refl _) _)).mono (by simp)) (trep_one (k := tO) (A := none) (c := 0) _ _ (heap_alloc_new w9 _) (by simp) (TRep.leaf _ _ _ _ rfl))).mono ?_
      rintro e w10 ⟨rfl, hb10⟩
      have HA10 := Lib.hid ((HA9.out.next ((Below.refl _ _).alloc (Nat.le_refl _) _)).next hb10)
      have HB10 := Lib.hid (cells_below (cells_below HB9.out ((Below.refl _ _).alloc (Nat.le_refl _) _)) hb10)
      clear hb10 HA9 HB9 HS HD
      go_wp2_with fail
      refine (numbers_any _).mono ?_
      rintro e w11 ⟨⟨A1', A2', rfl, hs, hd⟩, hb11⟩
      have HS := Lib.hid hs
      have HD := Lib.hid hd
      have HA11 := Lib.hid (HA10.out.next hb11)
      have HB11 := Lib.hid (cells_below HB10.out hb11)
      clear hs hd hb11 HA10 HB10
      go_wp2_with fail
      refine (txtN_any A1' A2' _ HS.out HD.out).mono ?_
      rintro e w12 ⟨rfl, hb12⟩
      have HA12 := Lib.hid (HA11.out.next hb12)
      have HB12 := Lib.hid (cells_below HB11.out hb12)
      clear hb12 HA11 HB11 HS HD
      go_wp2_with fail
      refine (parseS_any w12 (HP.out.below HA12.out.below HP.out.lt)).mono ?_
      rintro e w13 ⟨⟨A, c, rfl, hrep⟩, hb13⟩
      have HA13 := Lib.hid (HA12.out.next hb13)
      have HB13 := Lib.hid (cells_below HB12.out hb13)
      have HREP := Lib.hid hrep
      clear hb13 HA12 HB12 hrep
      have hbA : Below w13.heap.size w13 ((w13.alloc (.cells #[.string ⟨#[115]⟩, .string ⟨#[]⟩, .slice A 1 c] 56)).alloc (.cells #[.int .i64 0, .int .i64 0] 23)) := ((Below.refl _ _).alloc (Nat.le_refl _) _).alloc (by simp) _
      have HA14 := Lib.hid (HA13.out.next hbA)
      have HB14 := Lib.hid (cells_below HB13.out hbA)
      have HR14 := Lib.hid ((HREP.out.later hbA).mono hbA.size)
      have HY14 := Lib.hid ((Below.heap_alloc _ (.cells #[.int .i64 0, .int .i64 0] 23) _ (by simp)).trans (heap_alloc_new w13 (.cells #[.string ⟨#[115]⟩, .string ⟨#[]⟩, .slice A 1 c] 56)))
      clear hbA
      go_upto_region 10 with fail
      generalize ((w13.alloc (.cells #[.string ⟨#[115]⟩, .string ⟨#[]⟩, .slice A 1 c] 56)).alloc (.cells #[.int .i64 0, .int .i64 0] 23)) = W14 at HA14 HB14 HR14 HY14 ⊢
      obtain ⟨⟨u0, u1, u2⟩, _⟩ := blk3 HB14.out
      obtain ⟨⟨x0, x1, x2⟩, _⟩ := blk3 HA14.out.b1
      unfold tX bNat at x0 x1 x2
      dsimp only [Tm.nm_mk, Tm.st_mk, Tm.ks_mk, List.length_nil] at x0 x1 x2
      have hnat : ((⟨#[110, 97, 116]⟩ : ByteArray).toList == (⟨#[110, 97, 116]⟩ : ByteArray).toList) = true := beq_self_eq_true _
      go_wp2_with fail
      refine (sameX_any A6 none c6 0 _).mono ?_
      rintro e w15 ⟨rfl, hb15⟩
      have HA15 := Lib.hid (HA14.out.next hb15)
      have HR15 := Lib.hid ((HR14.out.later hb15).mono hb15.size)
      have HY15 := Lib.hid (cells_below HY14.out hb15)
      clear hb15 u0 u1 u2 x0 x1 x2
      obtain ⟨⟨u0, u1, u2⟩, _⟩ := blk3 HY15.out
      obtain ⟨⟨x0, x1, x2⟩, _⟩ := blk3 HA15.out.b2
      unfold tS at x0 x1 x2
      dsimp only [Tm.nm_mk, Tm.st_mk, Tm.ks_mk, List.length_cons, List.length_nil] at x0 x1 x2
      go_wp2_with fail
      refine (sameS_any A _ c 1 _ HR15.out HA15.out.rep).mono ?_
      rintro e w16 ⟨rfl, hb16⟩
      have HA16 := Lib.hid (HA15.out.next hb16)
      clear hb16 u0 u1 u2 x0 x1 x2
      obtain ⟨⟨x0, x1, x2⟩, _⟩ := blk3 HA16.out.b2
      unfold tS at x0 x1 x2
      dsimp only [Tm.nm_mk, Tm.st_mk, Tm.ks_mk, List.length_cons, List.length_nil] at x0 x1 x2
      go_wp2_with fail
      refine (sizeS_any _ 1 _ HA16.out.rep).mono ?_
      rintro e w17 ⟨rfl, hb17⟩
      have HA17 := Lib.hid (HA16.out.next hb17)
      clear hb17 x0 x1 x2
      obtain ⟨⟨x0, x1, x2⟩, _⟩ := blk3 HA17.out.b2
      unfold tS at x0 x1 x2
      dsimp only [Tm.nm_mk, Tm.st_mk, Tm.ks_mk, List.length_cons, List.length_nil] at x0 x1 x2
      go_wp2_with fail
      refine (depthS_any _ 1 _ HA17.out.rep).mono ?_
      rintro e w18 ⟨rfl, hb18⟩
      have HA18 := Lib.hid (HA17.out.next hb18)
      clear hb18 x0 x1 x2
      go_wp2_with fail
      go_ret
      exact ⟨rfl, HA18.out.below⟩
end Go.Proofs.YthbcfcbonmphfaaDoor
