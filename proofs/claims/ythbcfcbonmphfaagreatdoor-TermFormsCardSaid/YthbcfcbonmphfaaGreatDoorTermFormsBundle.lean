/- TermForms: whatever the signature and the term, the law answers true and leaves them as they were. -/
import Derived.Test.YthbcfcbonmphfaaGreatDoorTermWBundle
import Derived.StillTailTactics
import Derived.Deep.RegionWith
import Derived.Deep.RegionHeld3
import Derived.Test.YthbcfcbonmphfaaGreatDoorFormDBundle
import Derived.Test.YthbcfcbonmphfaaGreatDoorLawFrameBundle
import Derived.Test.YthbcfcbonmphfaaGreatDoorTermOsBundle
import Derived.Test.YthbcfcbonmphfaaGreatDoorTermQBundle
/- awake. -/
namespace Go.Proofs.YthbcfcbonmphfaaGreatDoor
open Go.RowKit Go.Shelf
set_option maxRecDepth 100000

/-- What awake keeps: its terms. -/
structure AW (w w' : World) : Prop where
  below : Below w.heap.size w w'
  b1 : w'.heap[w.heap.size]? = some (.cells (tcells tX none 0) 28 (0, 0))
  s2 : w'.heap[w.heap.size + 1]? = some (.cells (tcells tX none 0) 28 (0, 0))
  b2 : w'.heap[w.heap.size + 1 + 1]? = some (.cells (tcells tS (some ⟨w.heap.size + 1, 0, none⟩) 1) 28 (0, 0))
  b3 : w'.heap[w.heap.size + 1 + 1 + 1]? = some (.cells (tcells tZ none 0) 28 (0, 0))
theorem AW.next {w w1 w2 : World} (h : AW w w1) (hb : Below w1.heap.size w1 w2) : AW w w2 :=
  ⟨h.below.trans (hb.mono h.below.size), cells_below h.b1 hb, cells_below h.s2 hb, cells_below h.b2 hb, cells_below h.b3 hb⟩
theorem AW.drew {w w1 : World} (h : AW w w1) : AW w w1.drew := ⟨h.below.drew, h.b1, h.s2, h.b2, h.b3⟩
theorem AW.rep {w w1 : World} (h : AW w w1) : TRep w1.heap.size w1 tS (some ⟨w.heap.size + 1, 0, none⟩) :=
  trep_one _ _ h.s2 (Array.getElem?_eq_some_iff.1 h.s2).1 (TRep.leaf _ _ _ _ rfl)
theorem AW.start (w : World) : AW w ((((w.alloc (.cells (tcells tX none 0) 28)).alloc (.cells (tcells tX none 0) 28)).alloc (.cells (tcells tS (some ⟨w.heap.size + 1, 0, none⟩) 1) 28)).alloc (.cells (tcells tZ none 0) 28)) := by
  have h1 := heap_alloc_new w (.cells (tcells tX none 0) 28)
  have h2 := heap_alloc_new (w.alloc (.cells (tcells tX none 0) 28)) (.cells (tcells tX none 0) 28)
  have h3 := heap_alloc_new ((w.alloc (.cells (tcells tX none 0) 28)).alloc (.cells (tcells tX none 0) 28)) (.cells (tcells tS (some ⟨w.heap.size + 1, 0, none⟩) 1) 28)
  have h4 := heap_alloc_new (((w.alloc (.cells (tcells tX none 0) 28)).alloc (.cells (tcells tX none 0) 28)).alloc (.cells (tcells tS (some ⟨w.heap.size + 1, 0, none⟩) 1) 28)) (.cells (tcells tZ none 0) 28)
  simp only [World.size_alloc] at h2 h3 h4
  exact ⟨((((Below.refl _ _).alloc (Nat.le_refl _) _).alloc (by simp) _).alloc (by simp; omega) _).alloc (by simp; omega) _,
    (Below.heap_alloc _ _ _ (by simp; omega)).trans ((Below.heap_alloc _ _ _ (by simp; omega)).trans ((Below.heap_alloc _ _ _ (by simp)).trans h1)),
    (Below.heap_alloc _ _ _ (by simp)).trans ((Below.heap_alloc _ _ _ (by simp)).trans h2), (Below.heap_alloc _ _ _ (by simp)).trans h3, h4⟩

set_option maxHeartbeats 8000000 in
theorem awake02_any (w : World) (hp : Pairs w) : Calls Tryz.prog 4 #[] w fun e w' => e = .returned (.bool true) ∧ Below w.heap.size w w' := by
  have HP := Lib.hid hp
  have H0 : AW w ((((w.alloc (.cells #[.string ⟨#[88]⟩, .string ⟨#[110, 97, 116]⟩, .slice none 0 0] 28)).alloc (.cells #[.string ⟨#[88]⟩, .string ⟨#[110, 97, 116]⟩, .slice none 0 0] 28)).alloc (.cells #[.string ⟨#[115]⟩, .string ⟨#[]⟩, .slice (some ⟨w.heap.size + 1, 0, none⟩) 1 1] 28)).alloc (.cells #[.string ⟨#[122, 101, 114, 111]⟩, .string ⟨#[]⟩, .slice none 0 0] 28)) := AW.start w
  clear hp
  go_enter Tryz.func4, Tryz.ntmps4
  go_upto_region 4 with fail
  generalize ((((w.alloc (.cells #[.string ⟨#[88]⟩, .string ⟨#[110, 97, 116]⟩, .slice none 0 0] 28)).alloc (.cells #[.string ⟨#[88]⟩, .string ⟨#[110, 97, 116]⟩, .slice none 0 0] 28)).alloc (.cells #[.string ⟨#[115]⟩, .string ⟨#[]⟩, .slice (some ⟨w.heap.size + 1, 0, none⟩) 1 1] 28)).alloc (.cells #[.string ⟨#[122, 101, 114, 111]⟩, .string ⟨#[]⟩, .slice none 0 0] 28)) = W0 at H0 ⊢
  go_cut [4, 5] from 22 to 27 (fun a b wx => a = .string ⟨#[110, 97, 116]⟩ ∧ b = .int .i64 0 ∧ AW w wx)
  case first =>
    obtain ⟨⟨x0, x1, x2⟩, _⟩ := blk3 H0.b2
    have HA := Lib.hid H0
    clear H0
    unfold tS at x0 x1 x2
    dsimp only [Tm.nm_mk, Tm.st_mk, Tm.ks_mk, List.length_cons, List.length_nil] at x0 x1 x2
    go_region_with (first
      | (go_at_call 21; refine (numbers_any _).mono ?_; rintro e w1 ⟨⟨A1, A2, rfl, hs, hd⟩, hb⟩; have HS := Lib.hid hs; have HD := Lib.hid hd; have HA1 := Lib.hid (HA.out.next ((Below.refl _ _).drew.trans hb)); obtain ⟨⟨y0, y1, y2⟩, _⟩ := blk3 HA1.out.b2; unfold tS at y0 y1 y2; dsimp only [Tm.nm_mk, Tm.st_mk, Tm.ks_mk, List.length_cons, List.length_nil] at y0 y1 y2; clear hs hd hb)
      | (go_at_call 7; refine (sortS_any A1 A2 _ 1 _ HS.out HD.out HA1.out.rep).mono ?_; rintro e w2 ⟨rfl, hb2⟩; have HA2 := Lib.hid (HA1.out.next hb2); clear hb2))
    all_goals
      go_wp2_with fail
      go_meet
      exact ⟨rfl, rfl, HA2.out⟩
  case rest =>
    obtain ⟨rfl, rfl, hA⟩ := hcut
    clear H0
    have HA := Lib.hid hA
    have HA5 := Lib.hid (hA.next ((Below.refl _ _).alloc (Nat.le_refl _) (.cells #[.int .i64 0] 3)))
    obtain ⟨⟨x0, x1, x2⟩, _⟩ := blk3 hA.b2
    unfold tS at x0 x1 x2
    dsimp only [Tm.nm_mk, Tm.st_mk, Tm.ks_mk, List.length_cons, List.length_nil] at x0 x1 x2
    clear hA
    go_wp2_with fail
    refine (atS_any _ 1 wc.heap.size _ HA5.out.rep (by simp) (by simp)).mono ?_
    rintro e w3 ⟨⟨A6, c6, rfl⟩, hb3⟩
    have HA3 := Lib.hid (HA5.out.next hb3)
    have HA6 := Lib.hid (HA3.out.next ((Below.refl _ _).alloc (Nat.le_refl _) (.cells #[.string ⟨#[88]⟩, .string bNat, .slice A6 0 c6] 28)))
    have HB6 := Lib.hid (heap_alloc_new w3 (.cells #[.string ⟨#[88]⟩, .string bNat, .slice A6 0 c6] 28))
    clear x0 x1 x2 hb3 HA5 HA
    go_upto_region 6 with fail
    generalize hW6 : w3.alloc (.cells #[.string ⟨#[88]⟩, .string bNat, .slice A6 0 c6] 28) = W6 at HA6 HB6 ⊢
    clear hW6
    go_cut [8, 9] from 34 to 42 (fun a b wx => a = .string ⟨#[]⟩ ∧ b = .int .i64 3 ∧ AW w wx ∧ wx.heap[w3.heap.size]? = some (.cells #[.string ⟨#[88]⟩, .string bNat, .slice A6 0 c6] 28 (0, 0)))
    case first =>
      obtain ⟨⟨z0, z1, z2⟩, _⟩ := blk3 HA6.out.b3
      unfold tZ at z0 z1 z2
      dsimp only [Tm.nm_mk, Tm.st_mk, Tm.ks_mk, List.length_nil] at z0 z1 z2
      have hfact : ∀ W', Below W6.heap.size W6 W' → (W'.cell? ⟨w.heap.size + 1 + 1 + 1, 0, none⟩ = some (.string ⟨#[122, 101, 114, 111]⟩) ∧ W'.cell? ⟨w.heap.size + 1 + 1 + 1, 1, none⟩ = some (.string ⟨#[]⟩) ∧ W'.cell? ⟨w.heap.size + 1 + 1 + 1, 2, none⟩ = some (.slice none 0 0)) ∧ AW w W' ∧ W'.heap[w3.heap.size]? = some (.cells #[.string ⟨#[88]⟩, .string bNat, .slice A6 0 c6] 28 (0, 0)) := fun W' hb => by
        have ha := HA6.out.next hb
        obtain ⟨h, _⟩ := blk3 ha.b3
        exact ⟨h, ha, cells_below HB6.out hb⟩
      have HF := Lib.hid hfact
      clear hfact
      go_region_with (first
        | (go_at_call 21; refine (numbers_any _).mono ?_; rintro e w7 ⟨⟨A1, A2, rfl, hs, hd⟩, hb⟩; have HS := Lib.hid hs; have HD := Lib.hid hd; first
            | (have hbA : Below W6.heap.size W6 w7 := (Below.refl _ _).drew.trans hb; obtain ⟨⟨y0, y1, y2⟩, ha, hq⟩ := HF.out w7 hbA; have HAA := Lib.hid ha; have HQ6 := Lib.hid hq; clear hs hd hb hbA ha hq)
            | (have hbA : Below W6.heap.size W6 w7 := (((Below.refl W6.heap.size W6).alloc (Nat.le_refl _) (.cells #[.string ⟨#[122, 101, 114, 111]⟩, .string ⟨#[]⟩, .slice none 0 0, .string ⟨#[122, 101, 114, 111]⟩, .string ⟨#[]⟩, .slice none 0 0] 28)).drew).trans (hb.mono (by simp)); have HQP := Lib.hid (cells_below (heap_alloc_new W6 (.cells #[.string ⟨#[122, 101, 114, 111]⟩, .string ⟨#[]⟩, .slice none 0 0, .string ⟨#[122, 101, 114, 111]⟩, .string ⟨#[]⟩, .slice none 0 0] 28)) ((Below.refl _ _).drew.trans hb)); obtain ⟨⟨y0, y1, y2⟩, ha, hq⟩ := HF.out w7 hbA; have HAA := Lib.hid ha; have HQ6 := Lib.hid hq; clear hs hd hb hbA ha hq))
        | (go_at_call 7; first
            | (refine (sortSS_any A1 A2 _ 2 w7 HS.out HD.out (trep_two (k := tZ) (A := none) (c := 0) _ _ HQP.out (Array.getElem?_eq_some_iff.1 HQP.out).1 (TRep.leaf _ _ _ _ rfl))).mono ?_; rintro e w8 ⟨rfl, hb8⟩; have HA8 := Lib.hid (HAA.out.next hb8); have HQ8 := Lib.hid (cells_below HQ6.out hb8); clear hb8)
            | (refine (sortSS_any A1 A2 _ 2 _ ((HS.out.later ((Below.refl _ _).alloc (Nat.le_refl _) _)).mono (by simp)) ((HD.out.later ((Below.refl _ _).alloc (Nat.le_refl _) _)).mono (by simp)) (trep_two (k := tZ) (A := none) (c := 0) _ _ (heap_alloc_new w7 _) (by simp) (TRep.leaf _ _ _ _ rfl))).mono ?_; rintro e w8 ⟨rfl, hb8⟩; have HA8 := Lib.hid ((HAA.out.next ((Below.refl _ _).alloc (Nat.le_refl _) _)).next hb8); have HQ8 := Lib.hid (cells_below (cells_below HQ6.out ((Below.refl _ _).alloc (Nat.le_refl _) _)) hb8); clear hb8)))
      all_goals
        go_wp2_with fail
        go_meet
        exact ⟨rfl, rfl, HA8.out, HQ8.out⟩
    case rest =>
      obtain ⟨rfl, rfl, hA, hB⟩ := hcut
      clear HA6 HB6 HA3
      have HA := Lib.hid hA
      have HB := Lib.hid hB
      clear hA hB
      go_wp2_with fail
      refine (numbers_any _).mono ?_
      rintro e w9 ⟨⟨A1, A2, rfl, hs, hd⟩, hb9⟩
      have HS := Lib.hid hs
      have HD := Lib.hid hd
      have HA9 := Lib.hid (HA.out.next hb9)
      have HB9 := Lib.hid (cells_below HB.out hb9)
      clear hs hd hb9 HA HB
      go_wp2_with fail
      refine (sortSO_any A1 A2 _ 1 _ ((HS.out.later ((Below.refl _ _).alloc (Nat.le_refl _) _)).mono (by simp)) ((HD.out.later ((Below.refl _ _).alloc (Nat.le_refl _) _)).mono (by simp)) (trep_one (k := tO) (A := none) (c := 0) _ _ (heap_alloc_new w9 _) (by simp) (TRep.leaf _ _ _ _ rfl))).mono ?_
      rintro e w10 ⟨rfl, hb10⟩
      have HA10 := Lib.hid ((HA9.out.next ((Below.refl _ _).alloc (Nat.le_refl _) _)).next hb10)
      have HB10 := Lib.hid (cells_below (cells_below HB9.out ((Below.refl _ _).alloc (Nat.le_refl _) _)) hb10)
      clear hb10 HA9 HB9 HS HD
      go_wp2_with fail
      refine (numbers_any _).mono ?_
      rintro e w11 ⟨⟨A1', A2', rfl, hs, hd⟩, hb11⟩
      have HS := Lib.hid hs
      have HD := Lib.hid hd
      have HA11 := Lib.hid (HA10.out.next hb11)
      have HB11 := Lib.hid (cells_below HB10.out hb11)
      clear hs hd hb11 HA10 HB10
      go_wp2_with fail
      refine (txtN_any A1' A2' _ HS.out HD.out).mono ?_
      rintro e w12 ⟨rfl, hb12⟩
      have HA12 := Lib.hid (HA11.out.next hb12)
      have HB12 := Lib.hid (cells_below HB11.out hb12)
      clear hb12 HA11 HB11 HS HD
      go_wp2_with fail
      refine (parseS_any w12 (HP.out.below HA12.out.below HP.out.lt)).mono ?_
      rintro e w13 ⟨⟨A, c, rfl, hrep⟩, hb13⟩
      have HA13 := Lib.hid (HA12.out.next hb13)
      have HB13 := Lib.hid (cells_below HB12.out hb13)
      have HREP := Lib.hid hrep
      clear hb13 HA12 HB12 hrep
      have hbA : Below w13.heap.size w13 ((w13.alloc (.cells #[.string ⟨#[115]⟩, .string ⟨#[]⟩, .slice A 1 c] 28)).alloc (.cells #[.int .i64 0, .int .i64 0] 53)) := ((Below.refl _ _).alloc (Nat.le_refl _) _).alloc (by simp) _
      have HA14 := Lib.hid (HA13.out.next hbA)
      have HB14 := Lib.hid (cells_below HB13.out hbA)
      have HR14 := Lib.hid ((HREP.out.later hbA).mono hbA.size)
      have HY14 := Lib.hid ((Below.heap_alloc _ (.cells #[.int .i64 0, .int .i64 0] 53) _ (by simp)).trans (heap_alloc_new w13 (.cells #[.string ⟨#[115]⟩, .string ⟨#[]⟩, .slice A 1 c] 28)))
      clear hbA
      go_upto_region 10 with fail
      generalize ((w13.alloc (.cells #[.string ⟨#[115]⟩, .string ⟨#[]⟩, .slice A 1 c] 28)).alloc (.cells #[.int .i64 0, .int .i64 0] 53)) = W14 at HA14 HB14 HR14 HY14 ⊢
      obtain ⟨⟨u0, u1, u2⟩, _⟩ := blk3 HB14.out
      obtain ⟨⟨x0, x1, x2⟩, _⟩ := blk3 HA14.out.b1
      unfold tX bNat at x0 x1 x2
      dsimp only [Tm.nm_mk, Tm.st_mk, Tm.ks_mk, List.length_nil] at x0 x1 x2
      have hnat : ((⟨#[110, 97, 116]⟩ : ByteArray).toList == (⟨#[110, 97, 116]⟩ : ByteArray).toList) = true := beq_self_eq_true _
      go_wp2_with fail
      refine (sameX_any A6 none c6 0 _).mono ?_
      rintro e w15 ⟨rfl, hb15⟩
      have HA15 := Lib.hid (HA14.out.next hb15)
      have HR15 := Lib.hid ((HR14.out.later hb15).mono hb15.size)
      have HY15 := Lib.hid (cells_below HY14.out hb15)
      clear hb15 u0 u1 u2 x0 x1 x2
      obtain ⟨⟨u0, u1, u2⟩, _⟩ := blk3 HY15.out
      obtain ⟨⟨x0, x1, x2⟩, _⟩ := blk3 HA15.out.b2
      unfold tS at x0 x1 x2
      dsimp only [Tm.nm_mk, Tm.st_mk, Tm.ks_mk, List.length_cons, List.length_nil] at x0 x1 x2
      go_wp2_with fail
      refine (sameS_any A _ c 1 _ HR15.out HA15.out.rep).mono ?_
      rintro e w16 ⟨rfl, hb16⟩
      have HA16 := Lib.hid (HA15.out.next hb16)
      clear hb16 u0 u1 u2 x0 x1 x2
      obtain ⟨⟨x0, x1, x2⟩, _⟩ := blk3 HA16.out.b2
      unfold tS at x0 x1 x2
      dsimp only [Tm.nm_mk, Tm.st_mk, Tm.ks_mk, List.length_cons, List.length_nil] at x0 x1 x2
      go_wp2_with fail
      refine (sizeS_any _ 1 _ HA16.out.rep).mono ?_
      rintro e w17 ⟨rfl, hb17⟩
      have HA17 := Lib.hid (HA16.out.next hb17)
      clear hb17 x0 x1 x2
      obtain ⟨⟨x0, x1, x2⟩, _⟩ := blk3 HA17.out.b2
      unfold tS at x0 x1 x2
      dsimp only [Tm.nm_mk, Tm.st_mk, Tm.ks_mk, List.length_cons, List.length_nil] at x0 x1 x2
      go_wp2_with fail
      refine (depthS_any _ 1 _ HA17.out.rep).mono ?_
      rintro e w18 ⟨rfl, hb18⟩
      have HA18 := Lib.hid (HA17.out.next hb18)
      clear hb18 x0 x1 x2
      go_wp2_with fail
      go_ret
      exact ⟨rfl, HA18.out.below⟩
end Go.Proofs.YthbcfcbonmphfaaGreatDoor
namespace Go.Proofs.YthbcfcbonmphfaaGreatDoor
open Go.RowKit Go.Shelf
set_option maxRecDepth 100000

theorem bigOneF_any (a : Tm) (A : Option Addr) (ca : Nat) (w : World) (x : Nat) (h : w.heap[x]? = some (.cells #[.string a.nm, .string a.st, .slice A a.ks.length ca] 28 (0, 0))) (ha : TRep w.heap.size w a A) (hoa : okT maxLen a) :
    Calls Tryz.prog 6 #[.slice (some ⟨x, 0, none⟩) 1 1] w fun e w' => e = .returned (.bool (bigL [a])) ∧ Below w.heap.size w w' :=
  bigTerms_any ⟨#[]⟩ ⟨#[]⟩ [a] (some ⟨x, 0, none⟩) 1 w (trep_one _ _ h (Array.getElem?_eq_some_iff.1 h).1 ha)
    (.mk _ _ _ (Nat.zero_le _) (Nat.zero_le _) (by show 1 ≤ maxLen; unfold maxLen; omega) (fun k hk => by
      simp at hk
      rw [hk]; exact hoa)) (by simp)
/-- What the law's loads read. -/
abbrev cellsF (g : Sg) (A1 : Option Addr) (c1 : Nat) (A2 : Option Addr) (c2 : Nat) (t : Tm) (A : Option Addr) (c : Nat) (w W : World) : Prop :=
  (W.cell? ⟨w.heap.size, 0, none⟩ = some (.slice A1 g.sorts.length c1) ∧ W.cell? ⟨w.heap.size, 1, none⟩ = some (.slice A2 g.ops.length c2)) ∧ (W.cell? ⟨w.heap.size + 1, 0, none⟩ = some (.string t.nm) ∧ W.cell? ⟨w.heap.size + 1, 1, none⟩ = some (.string t.st) ∧ W.cell? ⟨w.heap.size + 1, 2, none⟩ = some (.slice A t.ks.length c))
theorem RB.cells {g : Sg} {A1 : Option Addr} {c1 : Nat} {A2 : Option Addr} {c2 : Nat} {t : Tm} {A : Option Addr} {c : Nat} {w W : World} (h : RB g A1 c1 A2 c2 t A c w W) : cellsF g A1 c1 A2 c2 t A c w W := ⟨(blk2 h.bs).1, (blk3 h.bt).1⟩
theorem FLv.drew {w : World} {v : Value} {l : List FF} (h : FLv w v l) : FLv w.drew v l := h.below (Below.refl _ _).drew

set_option maxHeartbeats 16000000 in
theorem termForms_any (g : Sg) (A1 : Option Addr) (c1 : Nat) (A2 : Option Addr) (c2 : Nat) (t : Tm) (A : Option Addr) (c : Nat) (w : World) (hp : Pairs w) (hs : SlS w.heap.size w A1 g.sorts) (hd : SlD w.heap.size w A2 g.ops) (hog : okG g) (hcs : g.sorts.length ≤ c1) (hcm : c1 ≤ maxLen) (hrt : TRep w.heap.size w t A) (hot : okT maxLen t) :
    Calls Tryz.prog 3 #[GV g A1 c1 A2 c2, TV t A c] w fun e w' => e = .returned (.bool true) ∧ Below w.heap.size w w' := by
  have H0 := Lib.hid (RB.start g A1 c1 A2 c2 t A c w)
  have HP := Lib.hid ((hp.alloc (.cells (gcells g A1 c1 A2 c2) 25)).alloc (.cells (tcells t A c) 28))
  have HOG := Lib.hid hog
  have HOT := Lib.hid hot
  have HCS := Lib.hid hcs
  have HCM := Lib.hid hcm
  have HQ := Lib.hid (fun (W : World) (h : RB g A1 c1 A2 c2 t A c w W) => (show (SlS W.heap.size W A1 g.sorts ∧ SlD W.heap.size W A2 g.ops) ∧ TRep W.heap.size W t A from ⟨⟨(hs.later h.below).mono h.below.size, (hd.later h.below).mono h.below.size⟩, (hrt.later h.below).mono h.below.size⟩))
  clear hp hs hd hog hcs hcm hrt hot
  unfold GV TV
  go_enter Tryz.func3, Tryz.ntmps3
  go_wp2_with fail
  refine (awake02_any _ HP.out).mono ?_
  rintro e w1 ⟨rfl, hb⟩
  have H1 := Lib.hid (H0.out.next hb)
  clear H0
  clear hb HP
  go_upto_region 3 with fail
  go_cut [19] from 13 (fun v wx => (v = .bool true ∨ (v = .bool false ∧ t.depth ≤ 80)) ∧ RB g A1 c1 A2 c2 t A c w wx)
  case first =>
    obtain ⟨⟨x0, x1⟩, y0, y1, y2⟩ := H1.out.cells
    have HC := Lib.hid (wide_any g A1 c1 A2 c2 w1 (HQ.out _ H1.out).1.1 (HQ.out _ H1.out).1.2 HOG.out)
    unfold GV at HC
    go_wp2_with fail
    refine HC.out.mono ?_
    rintro e w2 ⟨rfl, hb⟩
    have H2 := Lib.hid (H1.out.next hb)
    clear H1
    clear hb x0 x1 y0 y1 y2 HC
    cases hwg : wideB g
    rotate_left
    · clear hwg
      go_wp2_with fail
      go_meet
      exact ⟨.inl rfl, H2.out⟩
    clear hwg
    obtain ⟨⟨x0, x1⟩, y0, y1, y2⟩ := H2.out.cells
    have hbN : Below w2.heap.size w2 (w2.alloc (.cells #[.string t.nm, .string t.st, .slice A t.ks.length c] 28)) := (Below.refl _ _).alloc (Nat.le_refl _) _
    have H3 := Lib.hid (H2.out.next hbN)
    have HBIG := Lib.hid (bigOneF_any t A c _ w2.heap.size (heap_alloc_new w2 (.cells #[.string t.nm, .string t.st, .slice A t.ks.length c] 28)) (HQ.out _ H3.out).2 HOT.out)
    clear H2
    clear hbN
    go_wp2_with fail
    refine HBIG.out.mono ?_
    rintro e w3 ⟨rfl, hb⟩
    have H4 := Lib.hid (H3.out.next hb)
    clear H3
    clear hb x0 x1 y0 y1 y2 HBIG
    cases hbg : bigL [t]
    rotate_left
    · clear hbg
      go_wp2_with fail
      go_meet
      exact ⟨.inl rfl, H4.out⟩
    have hdp := (bigL_false hbg t (by simp)).2
    clear hbg
    go_wp2_with fail
    go_meet
    exact ⟨.inr ⟨rfl, hdp⟩, H4.out⟩
  case rest =>
    obtain ⟨hc, hz⟩ := hcut
    have H5 := Lib.hid hz
    clear hz H1
    rcases hc with rfl | ⟨rfl, hdp⟩
    · go_wp2_with fail
      go_ret
      exact ⟨rfl, H5.out.below⟩
    have hdp2 : t.depth ≤ 140737488355326 := by omega
    have HCV1 := Lib.hid (fun (W : World) (h : RB g A1 c1 A2 c2 t A c w W) => validSignature_any g A1 c1 A2 c2 W (HQ.out _ h).1.1 (HQ.out _ h).1.2 HOG.out)
    have HCV2 := Lib.hid (fun (W : World) (h : RB g A1 c1 A2 c2 t A c w W) => refValidSignature_any g A1 c1 A2 c2 W (HQ.out _ h).1.1 (HQ.out _ h).1.2 HOG.out HCS.out HCM.out)
    have HCV3 := Lib.hid (fun (W : World) (h : RB g A1 c1 A2 c2 t A c w W) => valid_any2 g A1 c1 A2 c2 t A c W (HQ.out _ h).1.1 (HQ.out _ h).1.2 HOG.out (HQ.out _ h).2 HOT.out hdp2)
    have HCV4 := Lib.hid (fun (W : World) (h : RB g A1 c1 A2 c2 t A c w W) => refValid_any2 g A1 c1 A2 c2 t A c W (HQ.out _ h).1.1 (HQ.out _ h).1.2 HOG.out HCS.out HCM.out (HQ.out _ h).2 HOT.out)
    have HCZ := Lib.hid (fun (W : World) (h : RB g A1 c1 A2 c2 t A c w W) => size_any t A c W (HQ.out _ h).2 HOT.out hdp2)
    have HCD := Lib.hid (fun (W : World) (h : RB g A1 c1 A2 c2 t A c w W) => depth_any t A c W (HQ.out _ h).2 HOT.out hdp2)
    have HC := Lib.hid (Sort_any g A1 c1 A2 c2 t A c wc (HQ.out _ H5.out).1.1 (HQ.out _ H5.out).1.2 HOG.out (HQ.out _ H5.out).2 HOT.out hdp2)
    unfold GV at HCV1 HCV2
    unfold GV TV at HC HCV3 HCV4
    unfold TV at HCZ HCD
    obtain ⟨⟨x0, x1⟩, y0, y1, y2⟩ := H5.out.cells
    go_wp2_with fail
    refine HC.out.mono ?_
    rintro e w11 ⟨rfl, hb⟩
    have H6 := Lib.hid (H5.out.next hb)
    clear H5
    clear hb x0 x1 y0 y1 y2 HC
    have HC := Lib.hid (refSort_any g A1 c1 A2 c2 t A c w11 (HQ.out _ H6.out).1.1 (HQ.out _ H6.out).1.2 HOG.out HCS.out HCM.out (HQ.out _ H6.out).2 HOT.out)
    unfold GV TV at HC
    obtain ⟨⟨x0, x1⟩, y0, y1, y2⟩ := H6.out.cells
    go_wp2_with fail
    refine HC.out.mono ?_
    rintro e w12 ⟨rfl, hb⟩
    have H7 := Lib.hid (H6.out.next hb)
    clear H6
    clear hb x0 x1 y0 y1 y2 HC
    generalize hs1 : (sortRes g t).1 = sr1
    generalize hs2 : (sortRes g t).2 = sr2
    clear hs1 hs2
    go_upto_region 7 with fail
    go_cut [55] from 32 (fun v wx => v = .bool false ∧ RB g A1 c1 A2 c2 t A c w wx)
    case first =>
      have HS1 := Lib.hid (show cellsF g A1 c1 A2 c2 t A c w w12.drew ∧ RB g A1 c1 A2 c2 t A c w w12.drew from ⟨H7.out.drew.cells, H7.out.drew⟩)
      go_region_held3 (fun W => ((W.cell? ⟨w.heap.size, 0, none⟩ = some (.slice A1 g.sorts.length c1) ∧ W.cell? ⟨w.heap.size, 1, none⟩ = some (.slice A2 g.ops.length c2)) ∧ (W.cell? ⟨w.heap.size + 1, 0, none⟩ = some (.string t.nm) ∧ W.cell? ⟨w.heap.size + 1, 1, none⟩ = some (.string t.st) ∧ W.cell? ⟨w.heap.size + 1, 2, none⟩ = some (.slice A t.ks.length c))) ∧ RB g A1 c1 A2 c2 t A c w W)
        (first | exact HS1.out | assumption | (have hr := And.right (by assumption); exact ⟨(RB.next hr hbx).cells, RB.next hr hbx⟩))
        (first
          | (go_at_call 9; refine (HCV1.out _ (And.right (by assumption))).mono ?_; rintro e wx ⟨rfl, hbx⟩)
          | (go_at_call 10; refine (HCV2.out _ (And.right (by assumption))).mono ?_; rintro e wx ⟨rfl, hbx⟩)
          | (go_at_call 11; refine (HCV3.out _ (And.right (by assumption))).mono ?_; rintro e wx ⟨rfl, hbx⟩)
          | (go_at_call 12; refine (HCV4.out _ (And.right (by assumption))).mono ?_; rintro e wx ⟨rfl, hbx⟩))
      go_wp2_with fail
      go_meet
      exact ⟨rfl, And.right (by assumption)⟩
    case rest =>
      obtain ⟨rfl, hz⟩ := hcut
      have H8 := Lib.hid hz
      clear hz H7 HCV1 HCV2 HCV3 HCV4
      obtain ⟨⟨x0, x1⟩, y0, y1, y2⟩ := H8.out.cells
      have HC := Lib.hid (vars_any2 t A c wc (HQ.out _ H8.out).2 HOT.out hdp2)
      unfold TV at HC
      cases hf : formed t
      · have HF := Lib.hid hf
        have hzs : sizeR t = 0 := by unfold sizeR; rw [hf]; rfl
        have hzd : depthR t = 0 := by unfold depthR; rw [hf]; rfl
        rw [hzs] at HCZ
        rw [hzd] at HCD
        clear hf hzs hzd
        go_wp2_with fail
        refine HC.out.mono ?_
        rintro e w21 ⟨⟨v, he, hfl⟩, hb⟩
        rw [HF.out] at he hfl
        simp only [Bool.false_eq_true, if_false] at he hfl
        subst he
        obtain ⟨A', c', rfl, _, _, _⟩ := hfl
        have H9 := Lib.hid (H8.out.next hb)
        clear H8
        clear hb x0 x1 y0 y1 y2 HC
        obtain ⟨⟨x0, x1⟩, y0, y1, y2⟩ := H9.out.cells
        have HC := Lib.hid (formed_any t A c w21.heap.size w21 (HQ.out _ H9.out).2 (Nat.le_refl _) HOT.out)
        rw [HF.out] at HC
        unfold TV at HC
        go_wp2_with fail
        refine HC.out.mono ?_
        rintro e w22 ⟨rfl, hb⟩
        have H10 := Lib.hid (H9.out.next hb)
        clear H9
        clear hb x0 x1 y0 y1 y2 HC
        obtain ⟨⟨x0, x1⟩, y0, y1, y2⟩ := H10.out.cells
        go_wp2_with fail
        refine (HCZ.out _ H10.out).mono ?_
        rintro e w23 ⟨rfl, hb⟩
        have H11 := Lib.hid (H10.out.next hb)
        clear H10
        clear hb x0 x1 y0 y1 y2
        obtain ⟨⟨x0, x1⟩, y0, y1, y2⟩ := H11.out.cells
        go_wp2_with fail
        refine (HCD.out _ H11.out).mono ?_
        rintro e w24 ⟨rfl, hb⟩
        have H12 := Lib.hid (H11.out.next hb)
        clear H11
        clear hb x0 x1 y0 y1 y2
        go_wp2_with fail
        go_ret
        exact ⟨rfl, H12.out.below⟩
      · have HF := Lib.hid hf
        have hzs : sizeR t = t.size := by unfold sizeR; rw [hf]; rfl
        have hzd : depthR t = t.depth := by unfold depthR; rw [hf]; rfl
        rw [hzs] at HCZ
        rw [hzd] at HCD
        have hsize : t.size ≤ 1000 := fitsL_size (by unfold formed at hf; simp at hf; exact hf.1.1)
        have HCRV := Lib.hid (fun (W : World) (h : RB g A1 c1 A2 c2 t A c w W) => refVars_any t A c W.heap.size W (HQ.out _ h).2 (Nat.le_refl _) HOT.out HF.out)
        have HCRS := Lib.hid (fun (W : World) (h : RB g A1 c1 A2 c2 t A c w W) => refSize_any t A c W.heap.size W (HQ.out _ h).2 (Nat.le_refl _) HOT.out (by omega))
        have HCRD := Lib.hid (fun (W : World) (h : RB g A1 c1 A2 c2 t A c w W) => refDepth_any t A c W.heap.size W (HQ.out _ h).2 (Nat.le_refl _) HOT.out (by omega))
        have hvl : (varsT t []).1.length ≤ 1000000 := by have := varsT_len t []; simp at this; omega
        have HCE := Lib.hid (fun (v v' : Value) (W : World) (h1 : FLv W v (varsT t []).1) (h2 : FLv W v' (varsT t []).1) => equalFB_any v v' (varsT t []).1 W h1 h2 hvl)
        unfold TV at HCRV HCRS HCRD
        generalize t.size = tsz at HCZ HCRS
        generalize t.depth = tdp at HCD HCRD
        clear hf hzs hzd hsize hvl hdp hdp2
        go_wp2_with fail
        refine HC.out.mono ?_
        rintro e w21 ⟨⟨v, he, hfl⟩, hb⟩
        rw [HF.out] at he hfl
        simp only [if_true] at he hfl
        subst he
        have HFL := Lib.hid hfl
        have H9 := Lib.hid (H8.out.next hb)
        clear H8
        clear hb hfl x0 x1 y0 y1 y2 HC
        obtain ⟨⟨x0, x1⟩, y0, y1, y2⟩ := H9.out.cells
        have HC := Lib.hid (formed_any t A c w21.heap.size w21 (HQ.out _ H9.out).2 (Nat.le_refl _) HOT.out)
        rw [HF.out] at HC
        unfold TV at HC
        go_wp2_with fail
        refine HC.out.mono ?_
        rintro e w22 ⟨rfl, hb⟩
        have H10 := Lib.hid (H9.out.next hb)
        have HFL2 := Lib.hid (HFL.out.below hb)
        clear H9 HFL
        clear hb x0 x1 y0 y1 y2 HC
        go_upto_region 12 with fail
        have HS1 := Lib.hid (show cellsF g A1 c1 A2 c2 t A c w w22.drew ∧ RB g A1 c1 A2 c2 t A c w w22.drew ∧ FLv w22.drew v (varsT t []).1 from ⟨H10.out.drew.cells, H10.out.drew, HFL2.out.drew⟩)
        go_region_held3 (fun W => ((W.cell? ⟨w.heap.size, 0, none⟩ = some (.slice A1 g.sorts.length c1) ∧ W.cell? ⟨w.heap.size, 1, none⟩ = some (.slice A2 g.ops.length c2)) ∧ (W.cell? ⟨w.heap.size + 1, 0, none⟩ = some (.string t.nm) ∧ W.cell? ⟨w.heap.size + 1, 1, none⟩ = some (.string t.st) ∧ W.cell? ⟨w.heap.size + 1, 2, none⟩ = some (.slice A t.ks.length c))) ∧ RB g A1 c1 A2 c2 t A c w W ∧ FLv W v (varsT t []).1)
          (first | exact HS1.out | assumption | (have hr := And.right (by assumption); exact ⟨(RB.next hr.1 hbx).cells, RB.next hr.1 hbx, hr.2.below hbx⟩))
          (first
            | (go_at_call 18; refine (HCRV.out _ (And.left (And.right (by assumption)))).mono ?_; rintro e wx ⟨⟨v', rfl, hf'⟩, hbx⟩)
            | (go_at_call 17; refine (HCE.out _ _ _ (And.right (And.right (by assumption))) (by assumption)).mono ?_; rintro e wx ⟨rfl, hbx⟩)
            | (go_at_call 15; refine (HCZ.out _ (And.left (And.right (by assumption)))).mono ?_; rintro e wx ⟨rfl, hbx⟩)
            | (go_at_call 19; refine (HCRS.out _ (And.left (And.right (by assumption)))).mono ?_; rintro e wx ⟨rfl, hbx⟩)
            | (go_at_call 16; refine (HCD.out _ (And.left (And.right (by assumption)))).mono ?_; rintro e wx ⟨rfl, hbx⟩)
            | (go_at_call 20; refine (HCRD.out _ (And.left (And.right (by assumption)))).mono ?_; rintro e wx ⟨rfl, hbx⟩))
        go_wp2_with fail
        go_ret
        exact ⟨rfl, (And.left (And.right (by assumption)) : RB g A1 c1 A2 c2 t A c w _).below⟩
end Go.Proofs.YthbcfcbonmphfaaGreatDoor

/- The row and the card. -/
namespace Go.Proofs.YthbcfcbonmphfaaGreatDoor
set_option maxRecDepth 100000
open Go.ChangeMaps (open_string)
open Go.ChangeShapes Go.WideShapes Go.ChangeAt Go.WideMaps Go.WideElems Go.RowKit Go.Deep

set_option maxRecDepth 100000 in
theorem termForms_lifted (os : Os) (started : os.Started) (H : Type) (enc : TypeId × Value → H) :
    ReturnsInHanded {} Tryz.checked os 3 .any (fun w args => (Rows.termFormsSpec.pre enc Tryz.prog Tryz.f3 [] false w args ∧ laidMetH Tryz.prog Rows.termFormsRow.laid w) ∧ sizedMet enc Tryz.prog Tryz.f3 (OpenSpec.ofChange Rows.termFormsSpec) false w args)
      (Rows.termFormsSpec.post enc Tryz.prog Tryz.f3 false true false false) := by
  refine returnsInHanded_of_change_and (C := Tryz.checked) (X := fun w _ => laidMetH Tryz.prog Rows.termFormsRow.laid w) (fun _ _ _ hh h => h.of_heap hh) Tryz.own started (by kernel_rfl) Tryz.func3
    (ChangeSpec.witness_shaped (enc := enc) (C := Tryz.checked) (os := os) (X := fun w _ => laidMetH Tryz.prog Rows.termFormsRow.laid w) false (World.doorLaid Tryz.prog 400 os) #[.agg #[.slice none 0 0, .slice none 0 0], .agg #[.string ⟨#[]⟩, .string ⟨#[]⟩, .slice none 0 0]] 8 rfl (World.shaped_of_RefB (by kernel_rfl) (by kernel_rfl)) (by kernel_rfl) (by kernel_rfl) (by kernel_rfl) (door_met os _)) ?_
  intro W base args ds gs before hval0 hW _ _ hL _
  have hval : ∀ (j : Nat) t v, Tryz.f3.params[j]? = some t → args[j]? = some v → Value.okWide Tryz.prog W .any base t v := hval0
  have hW' := hW
  obtain ⟨p, q, hA0, hV, rfl, hfz, hnd⟩ := hW
  have hA : DataW.TrodAll enc Tryz.prog W 0 (fun _ => true) true Tryz.f3.params.toList args.toList ds p := hA0
  rw [Tryz.params3] at hA hval
  obtain ⟨v0, v1, d0, d1, p0, p1, rfl, rfl, rfl, h0, h1⟩ := trodAll_two hA
  obtain ⟨g, A1, c1, A2, c2, rfl, hog, hs1, hd1, hcs, hcm, hcap⟩ := open_sig2 (hval 0 25 v0 rfl rfl) h0
  obtain ⟨t, A, c, rfl, hot, hrt⟩ := open_term (hval 1 28 v1 rfl rfl) h1
  refine (termForms_any g A1 c1 A2 c2 t A c W (pairs_of_laid hL) hs1 hd1 hog hcs hcm hrt hot).mono fun e W' ⟨he, hb⟩ => ?_
  subst he
  exact ⟨_, rfl, law_post (tb := 4) Tryz.laidOut (by rw [Tryz.params3]; intro t ht; simp at ht; rcases ht with rfl | rfl <;> exact ⟨by kernel_rfl, of_decide_eq_true (by kernel_rfl)⟩) Tryz.underlying4 (by kernel_rfl) rfl (by simp [Rows.termFormsSpec]) hW' hb⟩

theorem termForms_holds : Rows.TermFormsSaid :=
  OpenClaim.holds_of_wide 3 Tryz.f3 rfl rfl rfl rfl rfl rfl rfl ⟨rfl, rfl, rfl, rfl, rfl⟩ rfl rfl rfl rfl rfl (by kernel_rfl) Tryz.func3 (by kernel_rfl)
    (of_decide_eq_true (by kernel_rfl)) (by unfold Func.isWrapper; first | (rw [if_pos (by decide +kernel)]; kernel_rfl) | (rw [if_neg (by decide +kernel)]; exact ⟨rfl, rfl⟩))
    (fun os started H enc _ => termForms_lifted os started H enc)

/-- The tied card. -/
theorem termForms_card : Rows.TermFormsCardSaid :=
  Claim7.holds_tied_plain_at .later [] [.data] true (true, Rows.termFormsCard.stood.harness.2) false
    termForms_holds (fun _ h => by cases h) (by kernel_rfl) (fun _ h => by cases h) termForms_row_tie rfl ⟨rfl, rfl⟩ (by kernel_rfl) rfl
    (fun f fn hf hfn => by
      obtain rfl : f = 3 := Option.some.inj ((show Tryz.prog.funcNamed Rows.termFormsRow.func = some 3 by kernel_rfl).symm.trans hf) |>.symm
      obtain rfl : fn = Tryz.f3 := (Option.some.inj (Tryz.func3.symm.trans hfn)).symm
      exact ⟨by kernel_rfl, fun j t ht => by
        rw [Tryz.params3] at ht
        have h3 : t ∈ ([25, 28] : List TypeId) := by
          have := Array.mem_of_getElem? ht
          simpa using this
        simp only [List.mem_cons, List.not_mem_nil, or_false] at h3
        rcases h3 with rfl | rfl
        · exact (show Tryz.prog.wantsStandIn 25 = false by kernel_rfl)
        · exact (show Tryz.prog.wantsStandIn 28 = false by kernel_rfl)⟩)
    (by kernel_rfl)
#print axioms termForms_card
end Go.Proofs.YthbcfcbonmphfaaGreatDoor
