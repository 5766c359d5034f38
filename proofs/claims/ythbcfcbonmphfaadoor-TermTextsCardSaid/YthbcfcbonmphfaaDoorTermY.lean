/- awake. -/
import Derived.Test.YthbcfcbonmphfaaDoorTermW
namespace Go.Proofs.YthbcfcbonmphfaaDoor
open Go.RowKit Go.Shelf
set_option maxRecDepth 100000

/-- What awake keeps: its terms. -/
structure AW (w w' : World) : Prop where
  below : Below w.heap.size w w'
  b1 : w'.heap[w.heap.size]? = some (.cells (tcells tX none 0) 56 (0, 0))
  s2 : w'.heap[w.heap.size + 1]? = some (.cells (tcells tX none 0) 56 (0, 0))
  b2 : w'.heap[w.heap.size + 1 + 1]? = some (.cells (tcells tS (some ⟨w.heap.size + 1, 0, none⟩) 1) 56 (0, 0))
  b3 : w'.heap[w.heap.size + 1 + 1 + 1]? = some (.cells (tcells tZ none 0) 56 (0, 0))
theorem AW.next {w w1 w2 : World} (h : AW w w1) (hb : Below w1.heap.size w1 w2) : AW w w2 :=
  ⟨h.below.trans (hb.mono h.below.size), cells_below h.b1 hb, cells_below h.s2 hb, cells_below h.b2 hb, cells_below h.b3 hb⟩
theorem AW.drew {w w1 : World} (h : AW w w1) : AW w w1.drew := ⟨h.below.drew, h.b1, h.s2, h.b2, h.b3⟩
theorem AW.rep {w w1 : World} (h : AW w w1) : TRep w1.heap.size w1 tS (some ⟨w.heap.size + 1, 0, none⟩) :=
  trep_one _ _ h.s2 (Array.getElem?_eq_some_iff.1 h.s2).1 (TRep.leaf _ _ _ _ rfl)
theorem AW.start (w : World) : AW w ((((w.alloc (.cells (tcells tX none 0) 56)).alloc (.cells (tcells tX none 0) 56)).alloc (.cells (tcells tS (some ⟨w.heap.size + 1, 0, none⟩) 1) 56)).alloc (.cells (tcells tZ none 0) 56)) := by
  have h1 := heap_alloc_new w (.cells (tcells tX none 0) 56)
  have h2 := heap_alloc_new (w.alloc (.cells (tcells tX none 0) 56)) (.cells (tcells tX none 0) 56)
  have h3 := heap_alloc_new ((w.alloc (.cells (tcells tX none 0) 56)).alloc (.cells (tcells tX none 0) 56)) (.cells (tcells tS (some ⟨w.heap.size + 1, 0, none⟩) 1) 56)
  have h4 := heap_alloc_new (((w.alloc (.cells (tcells tX none 0) 56)).alloc (.cells (tcells tX none 0) 56)).alloc (.cells (tcells tS (some ⟨w.heap.size + 1, 0, none⟩) 1) 56)) (.cells (tcells tZ none 0) 56)
  simp only [World.size_alloc] at h2 h3 h4
  exact ⟨((((Below.refl _ _).alloc (Nat.le_refl _) _).alloc (by simp) _).alloc (by simp; omega) _).alloc (by simp; omega) _,
    (Below.heap_alloc _ _ _ (by simp; omega)).trans ((Below.heap_alloc _ _ _ (by simp; omega)).trans ((Below.heap_alloc _ _ _ (by simp)).trans h1)),
    (Below.heap_alloc _ _ _ (by simp)).trans ((Below.heap_alloc _ _ _ (by simp)).trans h2), (Below.heap_alloc _ _ _ (by simp)).trans h3, h4⟩

set_option maxHeartbeats 8000000 in
theorem awake02_any (w : World) (hp : Pairs w) : Calls Tryd.prog 30 #[] w fun e w' => e = .returned (.bool true) ∧ Below w.heap.size w w' := by
  have HP := Lib.hid hp
  have H0 : AW w ((((w.alloc (.cells #[.string ⟨#[88]⟩, .string ⟨#[110, 97, 116]⟩, .slice none 0 0] 56)).alloc (.cells #[.string ⟨#[88]⟩, .string ⟨#[110, 97, 116]⟩, .slice none 0 0] 56)).alloc (.cells #[.string ⟨#[115]⟩, .string ⟨#[]⟩, .slice (some ⟨w.heap.size + 1, 0, none⟩) 1 1] 56)).alloc (.cells #[.string ⟨#[122, 101, 114, 111]⟩, .string ⟨#[]⟩, .slice none 0 0] 56)) := AW.start w
  clear hp
  go_enter Tryd.func30, Tryd.ntmps30
  go_upto_region 4 with fail
  generalize ((((w.alloc (.cells #[.string ⟨#[88]⟩, .string ⟨#[110, 97, 116]⟩, .slice none 0 0] 56)).alloc (.cells #[.string ⟨#[88]⟩, .string ⟨#[110, 97, 116]⟩, .slice none 0 0] 56)).alloc (.cells #[.string ⟨#[115]⟩, .string ⟨#[]⟩, .slice (some ⟨w.heap.size + 1, 0, none⟩) 1 1] 56)).alloc (.cells #[.string ⟨#[122, 101, 114, 111]⟩, .string ⟨#[]⟩, .slice none 0 0] 56)) = W0 at H0 ⊢
  go_cut [4, 5] from 22 to 27 (fun a b wx => a = .string ⟨#[110, 97, 116]⟩ ∧ b = .int .i64 0 ∧ AW w wx)
  case first =>
    obtain ⟨⟨x0, x1, x2⟩, _⟩ := blk3 H0.b2
    have HA := Lib.hid H0
    clear H0
    unfold tS at x0 x1 x2
    dsimp only [Tm.nm_mk, Tm.st_mk, Tm.ks_mk, List.length_cons, List.length_nil] at x0 x1 x2
    go_region_with (first
      | (go_at_call 72; refine (numbers_any _).mono ?_; rintro e w1 ⟨⟨A1, A2, rfl, hs, hd⟩, hb⟩; have HS := Lib.hid hs; have HD := Lib.hid hd; have HA1 := Lib.hid (HA.out.next ((Below.refl _ _).drew.trans hb)); obtain ⟨⟨y0, y1, y2⟩, _⟩ := blk3 HA1.out.b2; unfold tS at y0 y1 y2; dsimp only [Tm.nm_mk, Tm.st_mk, Tm.ks_mk, List.length_cons, List.length_nil] at y0 y1 y2; clear hs hd hb)
      | (go_at_call 53; refine (sortS_any A1 A2 _ 1 _ HS.out HD.out HA1.out.rep).mono ?_; rintro e w2 ⟨rfl, hb2⟩; have HA2 := Lib.hid (HA1.out.next hb2); clear hb2))
    all_goals
      go_wp2_with fail
      go_meet
      exact ⟨rfl, rfl, HA2.out⟩
  case rest =>
    obtain ⟨rfl, rfl, hA⟩ := hcut
    clear H0
    have HA := Lib.hid hA
    have HA5 := Lib.hid (hA.next ((Below.refl _ _).alloc (Nat.le_refl _) (.cells #[.int .i64 0] 3)))
    obtain ⟨⟨x0, x1, x2⟩, _⟩ := blk3 hA.b2
    unfold tS at x0 x1 x2
    dsimp only [Tm.nm_mk, Tm.st_mk, Tm.ks_mk, List.length_cons, List.length_nil] at x0 x1 x2
    clear hA
    go_wp2_with fail
    refine (atS_any _ 1 wc.heap.size _ HA5.out.rep (by simp) (by simp)).mono ?_
    rintro e w3 ⟨⟨A6, c6, rfl⟩, hb3⟩
    have HA3 := Lib.hid (HA5.out.next hb3)
    have HA6 := Lib.hid (HA3.out.next ((Below.refl _ _).alloc (Nat.le_refl _) (.cells #[.string ⟨#[88]⟩, .string bNat, .slice A6 0 c6] 56)))
    have HB6 := Lib.hid (heap_alloc_new w3 (.cells #[.string ⟨#[88]⟩, .string bNat, .slice A6 0 c6] 56))
    clear x0 x1 x2 hb3 HA5 HA
    go_upto_region 6 with fail
    generalize hW6 : w3.alloc (.cells #[.string ⟨#[88]⟩, .string bNat, .slice A6 0 c6] 56) = W6 at HA6 HB6 ⊢
    clear hW6
    go_cut [8, 9] from 34 to 42 (fun a b wx => a = .string ⟨#[]⟩ ∧ b = .int .i64 3 ∧ AW w wx ∧ wx.heap[w3.heap.size]? = some (.cells #[.string ⟨#[88]⟩, .string bNat, .slice A6 0 c6] 56 (0, 0)))
    case first =>
      obtain ⟨⟨z0, z1, z2⟩, _⟩ := blk3 HA6.out.b3
      unfold tZ at z0 z1 z2
      dsimp only [Tm.nm_mk, Tm.st_mk, Tm.ks_mk, List.length_nil] at z0 z1 z2
      have hfact : ∀ W', Below W6.heap.size W6 W' → (W'.cell? ⟨w.heap.size + 1 + 1 + 1, 0, none⟩ = some (.string ⟨#[122, 101, 114, 111]⟩) ∧ W'.cell? ⟨w.heap.size + 1 + 1 + 1, 1, none⟩ = some (.string ⟨#[]⟩) ∧ W'.cell? ⟨w.heap.size + 1 + 1 + 1, 2, none⟩ = some (.slice none 0 0)) ∧ AW w W' ∧ W'.heap[w3.heap.size]? = some (.cells #[.string ⟨#[88]⟩, .string bNat, .slice A6 0 c6] 56 (0, 0)) := fun W' hb => by
        have ha := HA6.out.next hb
        obtain ⟨h, _⟩ := blk3 ha.b3
        exact ⟨h, ha, cells_below HB6.out hb⟩
      have HF := Lib.hid hfact
      clear hfact
      go_region_with (first
        | (go_at_call 72; refine (numbers_any _).mono ?_; rintro e w7 ⟨⟨A1, A2, rfl, hs, hd⟩, hb⟩; have HS := Lib.hid hs; have HD := Lib.hid hd; first
            | (have hbA : Below W6.heap.size W6 w7 := (Below.refl _ _).drew.trans hb; obtain ⟨⟨y0, y1, y2⟩, ha, hq⟩ := HF.out w7 hbA; have HAA := Lib.hid ha; have HQ6 := Lib.hid hq; clear hs hd hb hbA ha hq)
            | (have hbA : Below W6.heap.size W6 w7 := (((Below.refl W6.heap.size W6).alloc (Nat.le_refl _) (.cells #[.string ⟨#[122, 101, 114, 111]⟩, .string ⟨#[]⟩, .slice none 0 0, .string ⟨#[122, 101, 114, 111]⟩, .string ⟨#[]⟩, .slice none 0 0] 56)).drew).trans (hb.mono (by simp)); have HQP := Lib.hid (cells_below (heap_alloc_new W6 (.cells #[.string ⟨#[122, 101, 114, 111]⟩, .string ⟨#[]⟩, .slice none 0 0, .string ⟨#[122, 101, 114, 111]⟩, .string ⟨#[]⟩, .slice none 0 0] 56)) ((Below.refl _ _).drew.trans hb)); obtain ⟨⟨y0, y1, y2⟩, ha, hq⟩ := HF.out w7 hbA; have HAA := Lib.hid ha; have HQ6 := Lib.hid hq; clear hs hd hb hbA ha hq))
        | (go_at_call 53; first
            | (refine (sortSS_any A1 A2 _ 2 w7 HS.out HD.out (trep_two (k := tZ) (A := none) (c := 0) _ _ HQP.out (Array.getElem?_eq_some_iff.1 HQP.out).1 (TRep.leaf _ _ _ _ rfl))).mono ?_; rintro e w8 ⟨rfl, hb8⟩; have HA8 := Lib.hid (HAA.out.next hb8); have HQ8 := Lib.hid (cells_below HQ6.out hb8); clear hb8)
            | (refine (sortSS_any A1 A2 _ 2 _ ((HS.out.later ((Below.refl _ _).alloc (Nat.le_refl _) _)).mono (by simp)) ((HD.out.later ((Below.refl _ _).alloc (Nat.le_refl _) _)).mono (by simp)) (trep_two (k := tZ) (A := none) (c := 0) _ _ (heap_alloc_new w7 _) (by simp) (TRep.leaf _ _ _ _ rfl))).mono ?_; rintro e w8 ⟨rfl, hb8⟩; have HA8 := Lib.hid ((HAA.out.next ((Below.refl _ _).alloc (Nat.le_refl _) _)).next hb8); have HQ8 := Lib.hid (cells_below (cells_below HQ6.out ((Below.refl _ _).alloc (Nat.le_refl _) _)) hb8); clear hb8)))
      all_goals
        go_wp2_with fail
        go_meet
        exact ⟨rfl, rfl, HA8.out, HQ8.out⟩
    case rest =>
      obtain ⟨rfl, rfl, hA, hB⟩ := hcut
      clear HA6 HB6 HA3
      have HA := Lib.hid hA
      have HB := Lib.hid hB
      clear hA hB
      go_wp2_with fail
      refine (numbers_any _).mono ?_
      rintro e w9 ⟨⟨A1, A2, rfl, hs, hd⟩, hb9⟩
      have HS := Lib.hid hs
      have HD := Lib.hid hd
      have HA9 := Lib.hid (HA.out.next hb9)
      have HB9 := Lib.hid (cells_below HB.out hb9)
      clear hs hd hb9 HA HB
      go_wp2_with fail
      refine (sortSO_any A1 A2 _ 1 _ ((HS.out.later ((Below.refl _ _).alloc (Nat.le_refl _) _)).mono (by simp)) ((HD.out.later ((Below.refl _ _).alloc (Nat.le_refl _) _)).mono (by simp)) (trep_one (k := tO) (A := none) (c := 0) _ _ (heap_alloc_new w9 _) (by simp) (TRep.leaf _ _ _ _ rfl))).mono ?_
      rintro e w10 ⟨rfl, hb10⟩
      have HA10 := Lib.hid ((HA9.out.next ((Below.refl _ _).alloc (Nat.le_refl _) _)).next hb10)
      have HB10 := Lib.hid (cells_below (cells_below HB9.out ((Below.refl _ _).alloc (Nat.le_refl _) _)) hb10)
      clear hb10 HA9 HB9 HS HD
      go_wp2_with fail
      refine (numbers_any _).mono ?_
      rintro e w11 ⟨⟨A1', A2', rfl, hs, hd⟩, hb11⟩
      have HS := Lib.hid hs
      have HD := Lib.hid hd
      have HA11 := Lib.hid (HA10.out.next hb11)
      have HB11 := Lib.hid (cells_below HB10.out hb11)
      clear hs hd hb11 HA10 HB10
      go_wp2_with fail
      refine (txtN_any A1' A2' _ HS.out HD.out).mono ?_
      rintro e w12 ⟨rfl, hb12⟩
      have HA12 := Lib.hid (HA11.out.next hb12)
      have HB12 := Lib.hid (cells_below HB11.out hb12)
      clear hb12 HA11 HB11 HS HD
      go_wp2_with fail
      refine (parseS_any w12 (HP.out.below HA12.out.below HP.out.lt)).mono ?_
      rintro e w13 ⟨⟨A, c, rfl, hrep⟩, hb13⟩
      have HA13 := Lib.hid (HA12.out.next hb13)
      have HB13 := Lib.hid (cells_below HB12.out hb13)
      have HREP := Lib.hid hrep
      clear hb13 HA12 HB12 hrep
      have hbA : Below w13.heap.size w13 ((w13.alloc (.cells #[.string ⟨#[115]⟩, .string ⟨#[]⟩, .slice A 1 c] 56)).alloc (.cells #[.int .i64 0, .int .i64 0] 23)) := ((Below.refl _ _).alloc (Nat.le_refl _) _).alloc (by simp) _
      have HA14 := Lib.hid (HA13.out.next hbA)
      have HB14 := Lib.hid (cells_below HB13.out hbA)
      have HR14 := Lib.hid ((HREP.out.later hbA).mono hbA.size)
      have HY14 := Lib.hid ((Below.heap_alloc _ (.cells #[.int .i64 0, .int .i64 0] 23) _ (by simp)).trans (heap_alloc_new w13 (.cells #[.string ⟨#[115]⟩, .string ⟨#[]⟩, .slice A 1 c] 56)))
      clear hbA
      go_upto_region 10 with fail
      generalize ((w13.alloc (.cells #[.string ⟨#[115]⟩, .string ⟨#[]⟩, .slice A 1 c] 56)).alloc (.cells #[.int .i64 0, .int .i64 0] 23)) = W14 at HA14 HB14 HR14 HY14 ⊢
      obtain ⟨⟨u0, u1, u2⟩, _⟩ := blk3 HB14.out
      obtain ⟨⟨x0, x1, x2⟩, _⟩ := blk3 HA14.out.b1
      unfold tX bNat at x0 x1 x2
      dsimp only [Tm.nm_mk, Tm.st_mk, Tm.ks_mk, List.length_nil] at x0 x1 x2
      have hnat : ((⟨#[110, 97, 116]⟩ : ByteArray).toList == (⟨#[110, 97, 116]⟩ : ByteArray).toList) = true := beq_self_eq_true _
      go_wp2_with fail
      refine (sameX_any A6 none c6 0 _).mono ?_
      rintro e w15 ⟨rfl, hb15⟩
      have HA15 := Lib.hid (HA14.out.next hb15)
      have HR15 := Lib.hid ((HR14.out.later hb15).mono hb15.size)
      have HY15 := Lib.hid (cells_below HY14.out hb15)
      clear hb15 u0 u1 u2 x0 x1 x2
      obtain ⟨⟨u0, u1, u2⟩, _⟩ := blk3 HY15.out
      obtain ⟨⟨x0, x1, x2⟩, _⟩ := blk3 HA15.out.b2
      unfold tS at x0 x1 x2
      dsimp only [Tm.nm_mk, Tm.st_mk, Tm.ks_mk, List.length_cons, List.length_nil] at x0 x1 x2
      go_wp2_with fail
      refine (sameS_any A _ c 1 _ HR15.out HA15.out.rep).mono ?_
      rintro e w16 ⟨rfl, hb16⟩
      have HA16 := Lib.hid (HA15.out.next hb16)
      clear hb16 u0 u1 u2 x0 x1 x2
      obtain ⟨⟨x0, x1, x2⟩, _⟩ := blk3 HA16.out.b2
      unfold tS at x0 x1 x2
      dsimp only [Tm.nm_mk, Tm.st_mk, Tm.ks_mk, List.length_cons, List.length_nil] at x0 x1 x2
      go_wp2_with fail
      refine (sizeS_any _ 1 _ HA16.out.rep).mono ?_
      rintro e w17 ⟨rfl, hb17⟩
      have HA17 := Lib.hid (HA16.out.next hb17)
      clear hb17 x0 x1 x2
      obtain ⟨⟨x0, x1, x2⟩, _⟩ := blk3 HA17.out.b2
      unfold tS at x0 x1 x2
      dsimp only [Tm.nm_mk, Tm.st_mk, Tm.ks_mk, List.length_cons, List.length_nil] at x0 x1 x2
      go_wp2_with fail
      refine (depthS_any _ 1 _ HA17.out.rep).mono ?_
      rintro e w18 ⟨rfl, hb18⟩
      have HA18 := Lib.hid (HA17.out.next hb18)
      clear hb18 x0 x1 x2
      go_wp2_with fail
      go_ret
      exact ⟨rfl, HA18.out.below⟩
end Go.Proofs.YthbcfcbonmphfaaDoor
