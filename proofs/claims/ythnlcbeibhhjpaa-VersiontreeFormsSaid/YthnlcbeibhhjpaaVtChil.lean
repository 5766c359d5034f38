/- The reference's Children. -/
import Derived.Test.YthnlcbeibhhjpaaVtZ
namespace Go.Proofs.Ythnlcbeibhhjpaa
open Go.RowKit
set_option maxRecDepth 100000
set_option maxHeartbeats 8000000 in
theorem refChildren_any (A : Option Addr) (cap n k : Nat) (P : List Int) (w : World) (h : Tr w A cap n P) (hv : VP P) :
    Calls Try.prog 20 #[.agg #[.slice A n cap], .int .i64 (k : Int)] w fun e w' => (∃ A' cp, e = .returned (.slice A' (chI P n k).length cp) ∧ ORow (w.heap.size + 1) w' A' cp (chI P n k)) ∧ Below w.heap.size w w' := by
  obtain ⟨w1, hw1⟩ : ∃ w1, w1 = w.alloc (.cells #[.slice A n cap] 24) := ⟨_, rfl⟩
  have HB1 : Hid (Below w.heap.size w w1) := Lib.hid (by rw [hw1]; exact (Below.refl _ _).alloc (Nat.le_refl _) _)
  have HX1 : Hid (w1.heap[w.heap.size]? = some (.cells #[.slice A n cap] 24 (0, 0))) := Lib.hid (by rw [hw1]; exact bdNew w _)
  have hz1 : w1.heap.size = w.heap.size + 1 := by rw [hw1]; simp
  have HZ1 := Lib.hid hz1
  have hlt1 : w.heap.size < w1.heap.size := by omega
  have HW1 := Lib.hid hw1
  have H := Lib.hid h
  have HV := Lib.hid hv
  have hnl : n ≤ 1000 := by have := hv.le; rw [h.len] at this; exact this
  obtain ⟨i1, hi1, hy0, hy1, hy2⟩ := info_parts Try.infoInt
  clear h hv hw1 hz1
  go_enter Try.func20, Try.ntmps20
  go_wp2_with fail
  rw [← HW1.out]
  go_loopw [5, 6] (fun s5 s6 wr => ∃ (i c cp : Nat) (A5 : Option Addr), i ≤ n ∧ s6 = .int .i64 i ∧ c = (chI P i k).length ∧ s5 = .slice A5 c cp ∧ wr.ownsRow w1.heap.size 3 1 (.slice A5 c cp) c ((chI P i k).map (Value.int .i64)) ∧ Below w1.heap.size w1 wr) (fun _ s6 _ => n - (intOf s6).toNat)
  case atStart => exact ⟨0, 0, 0, none, by omega, rfl, rfl, rfl, World.ownsRow_nil _ _ _ _, Below.refl _ _⟩
  case round =>
    obtain ⟨i, c, cp, A5, hi, rfl, hc, rfl, how, hb⟩ := hrel
    have HOW := Lib.hid how
    have HB := Lib.hid hb
    have HC := Lib.hid hc
    have hsz := hb.size
    have hcl : c ≤ 1000 := by rw [hc]; have := chI_len P i k; omega
    have hb0 := (hb.block w.heap.size (by omega)).trans HX1.out
    obtain ⟨c0, f0⟩ := bk1 hb0
    by_cases hlt : i < n
    · have hltI : (i : Int) < (n : Int) := by omega
      have hi0 : (0 : Int) ≤ (i : Int) := by omega
      obtain ⟨x, b, off, hx, hA, hbl, y0⟩ := (H.out.below (HB1.out.trans (hb.mono (by omega)))).get hlt
      subst hA
      have hbw : b < w.heap.size := by
        obtain ⟨b2, off2, g1, g2, _⟩ := H.out.at'.get hx
        injection g1 with g1
        injection g1 with g3 g4
        omega
      have hroot : i = 0 → x = -1 := fun e => by
        subst e
        have := HV.out.root
        rw [hx] at this
        exact Option.some.inj this
      have HNX := Lib.hid (chI_next P i k)
      by_cases hxk : x = (k : Int)
      · subst hxk
        have hipos : 0 < i := by
          rcases Nat.eq_zero_or_pos i with h0 | h0
          · have := hroot h0; omega
          · exact h0
        have HNX2 : Hid (chI P (i + 1) k = chI P i k ++ [(i : Int)]) := Lib.hid (by rw [HNX.out, if_pos ⟨hipos, hx⟩])
        clear how hb hc hb0 hx hroot
        go_wp2_with (at_builtin; refine wpList_append_lies _ rfl (.tmp 21) (.tmp 23) 22 rfl w1.heap.size 3 i1 _ 1 8 Try.underlying22 hi1 hy0 hy1 hy2 rfl (by decide) (.slice A5 c cp) c ((chI P i k).map (Value.int .i64)) rfl (HOW.out.alloc _) ⟨wr.heap.size, 0, none⟩ 1 1 [.int .i64 (i : Int)] rfl rfl (World.news_of_block (cs := #[.int .i64 (i : Int)]) (t := 3) (fr := (0, 0)) (heap_alloc_new wr _)) (by simp [Value.oneCell']) (by omega) (by unfold maxLen; omega) (by omega) (by simp; omega) (wr.heap.size + 1) (by simp) ?_)
        intro g2 cap2 W6 hown6 hgrow6 hat6 hlt6
        have hb6 : Below w1.heap.size w1 W6 := (HB.out.alloc hsz _).grown hgrow6 (by simp; omega) (fun k' e => by have := (HOW.out.lt k' e).1; omega)
        have HB6 := Lib.hid hb6
        have HO6 : Hid (W6.ownsRow w1.heap.size 3 1 (.slice (some ⟨g2, 0, none⟩) (c + 1) cap2) (c + 1) ((chI P (i + 1) k).map (Value.int .i64))) := Lib.hid (by rw [HNX2.out]; simpa using hown6)
        clear hown6 hgrow6 hat6 hlt6 hb6 c0 f0 y0
        go_wp2_with fail
        go_roundw
        case rel => exact ⟨i + 1, c + 1, cap2, some ⟨g2, 0, none⟩, by omega, by go_num, by rw [HNX2.out, List.length_append, ← HC.out]; rfl, rfl, HO6.out, HB6.out⟩
        case measure => simp [intOf]; omega
      · have hne : (x == (k : Int)) = false := by simpa using hxk
        have HNX2 : Hid (chI P (i + 1) k = chI P i k) := Lib.hid (by rw [HNX.out, if_neg (fun h => by have h2 := h.2; rw [hx] at h2; exact hxk (Option.some.inj h2)), List.append_nil])
        clear how hb hc hb0 hx hroot hxk
        go_wp2_with fail
        go_roundw
        case rel => exact ⟨i + 1, c, cp, A5, by omega, by go_num, by rw [HNX2.out]; exact HC.out, rfl, by rw [HNX2.out]; exact HOW.out, HB.out⟩
        case measure => simp [intOf]; omega
    · obtain rfl : i = n := by omega
      clear how hb hc hb0
      go_wp2_with fail
      go_ret
      refine ⟨⟨A5, cp, by rw [← HC.out]; rfl, ?_⟩, HB1.out.trans (HB.out.mono (by omega))⟩
      unfold ORow
      rw [← HC.out, ← HZ1.out]
      exact HOW.out
/-- The tour of what is below a version, with fuel enough. -/
theorem eulF_fuel {P : List Int} (hv : VP P) (n : Nat) : ∀ (f f' k : Nat), n - k < f → n - k < f' → k < n → eulF P n f k = eulF P n f' k := fun f => by
  induction f with
  | zero => intro f' k h; omega
  | succ f ih =>
    intro f' k h h' hk
    obtain ⟨g, rfl⟩ : ∃ g, f' = g + 1 := ⟨f' - 1, by omega⟩
    have : ∀ l : List Int, (∀ c ∈ l, c ∈ chI P n k) → l.flatMap (fun c => eulF P n f c.toNat) = l.flatMap (fun c => eulF P n g c.toNat) := fun l => by
      induction l with
      | nil => intro _; rfl
      | cons c l ihl =>
        intro hc
        rw [List.flatMap_cons, List.flatMap_cons, ihl (fun d hd => hc d (by simp [hd]))]
        obtain ⟨t, rfl, h1, h2⟩ := chI_mem hv (hc c (by simp))
        rw [Int.toNat_natCast, ih g t (by omega) (by omega) h2]
    show (k : Int) :: (_ ++ [(k : Int)]) = (k : Int) :: (_ ++ [(k : Int)])
    rw [this _ (fun c h => h)]
/-- What a stack still says: its last element first. -/
def remS (P : List Int) (n : Nat) (S : List Int) : List Int := S.reverse.flatMap fun x => if x < 0 then [-1 - x] else eulF P n (n + 1) x.toNat
theorem remS_snoc (P : List Int) (n : Nat) (S : List Int) (x : Int) : remS P n (S ++ [x]) = (if x < 0 then [-1 - x] else eulF P n (n + 1) x.toNat) ++ remS P n S := by
  unfold remS
  rw [List.reverse_append, List.reverse_singleton, List.singleton_append, List.flatMap_cons]
/-- A version's tour opened: itself, its children's, itself. -/
theorem eulF_open {P : List Int} (hv : VP P) {n : Nat} (_hn : P.length = n) {k : Nat} (hk : k < n) : eulF P n (n + 1) k = (k : Int) :: ((chI P n k).flatMap (fun c => eulF P n (n + 1) c.toNat) ++ [(k : Int)]) := by
  rw [eulF_fuel hv n (n + 1) (n + 1 + 1) k (by omega) (by omega) hk]
  rfl
theorem remS_app (P : List Int) (n : Nat) (S : List Int) : ∀ l : List Int, (∀ c ∈ l, 0 ≤ c) → remS P n (S ++ l) = l.reverse.flatMap (fun c => eulF P n (n + 1) c.toNat) ++ remS P n S := fun l hl => by
  unfold remS
  rw [List.reverse_append, List.flatMap_append]
  congr 1
  have : ∀ m : List Int, (∀ c ∈ m, 0 ≤ c) → (m.flatMap fun x => if x < 0 then [-1 - x] else eulF P n (n + 1) x.toNat) = m.flatMap (fun c => eulF P n (n + 1) c.toNat) := fun m => by
    induction m with
    | nil => intro _; rfl
    | cons c m ih =>
      intro hm
      rw [List.flatMap_cons, List.flatMap_cons, ih (fun d hd => hm d (by simp [hd])), if_neg (by have := hm c (by simp); omega)]
  exact this _ (fun c hc => hl c (by simpa using hc))
theorem remS_pos {P : List Int} {n : Nat} (S : List Int) (_hS : ∀ x ∈ S, x < (n : Int)) : S.length ≤ (remS P n S).length := by
  unfold remS
  have : ∀ l : List Int, l.length ≤ (l.flatMap fun x => if x < 0 then [-1 - x] else eulF P n (n + 1) x.toNat).length := fun l => by
    induction l with
    | nil => simp
    | cons c l ih =>
      rw [List.flatMap_cons, List.length_append, List.length_cons]
      have : 1 ≤ (if c < 0 then [-1 - c] else eulF P n (n + 1) c.toNat).length := by
        split
        · simp
        · rw [eulF_len]; omega
      omega
  have := this S.reverse
  rwa [List.length_reverse] at this
/-- A row without its last element. -/
theorem row_short {W : World} {B g n cap : Nat} {xs : List Value} (h : W.ownsRow B 3 1 (.slice (some ⟨g, 0, none⟩) (n + 1) cap) (n + 1) xs) : W.ownsRow B 3 1 (.slice (some ⟨g, 0, none⟩) n cap) n (xs.take n) := by
  obtain ⟨h1, h2⟩ := h
  refine ⟨by rw [List.length_take]; omega, ?_⟩
  rcases h2 with ⟨hv, h0⟩ | ⟨g', cp, cur, hv, hb, hh, h3, h4, h5, h6⟩
  · omega
  · injection hv with e1 e2 e3
    subst e3
    refine Or.inr ⟨g', cap, cur, by rw [e1], hb, hh, by omega, h4, h5, ?_⟩
    rw [← h6, List.take_take]
    congr 1
    omega
/-- The two rows of the tour's walk: what stands on the stack, what is out. -/
structure StE (B : Nat) (As Ao : Option Addr) (cs co : Nat) (S O : List Int) (W : World) : Prop where
  rs : ORow B W As cs S
  ro : ORow B W Ao co O
  ne : ∀ g, As = some g → ∀ g', Ao = some g' → g.block ≠ g'.block
theorem oblk {A : Option Addr} {n c : Nat} : (Value.slice A n c).ownBlock = A.map (·.block) := by cases A <;> rfl
theorem StE.below {B : Nat} {As Ao : Option Addr} {cs co : Nat} {S O : List Int} {W W' : World} (h : StE B As Ao cs co S O W) (hb : Below W.heap.size W W') : StE B As Ao cs co S O W' := ⟨h.rs.below hb, h.ro.below hb, h.ne⟩
theorem StE.pushS {B g2 cap2 : Nat} {As Ao : Option Addr} {cs co : Nat} {S O : List Int} {W W6 : World} {o : Obj} {x : Int} (h : StE B As Ao cs co S O W) (hg : (W.alloc o).grownBy W6 (Value.slice As S.length cs).ownBlock)
    (hown : W6.ownsRow B 3 1 (.slice (some ⟨g2, 0, none⟩) (S.length + 1) cap2) (S.length + 1) ((S ++ [x]).map (Value.int .i64))) (hat : (Value.slice As S.length cs).ownBlock = some g2 ∨ W.heap.size ≤ g2) : StE B (some ⟨g2, 0, none⟩) Ao cap2 co (S ++ [x]) O W6 := by
  have hl : (S ++ [x]).length = S.length + 1 := by simp
  refine ⟨by unfold ORow; rw [hl]; exact hown, ?_, ?_⟩
  · refine World.ownsRow.kept (World.ownsRow.alloc h.ro o) hg ?_
    rw [oblk, oblk]
    cases Ao with
    | none => left; rfl
    | some a =>
      right
      cases As with
      | none => simp
      | some s => simp; exact fun e => h.ne s rfl a rfl e.symm
  · intro g hg' g' hg''
    injection hg' with hg'
    subst hg'
    subst hg''
    show g2 ≠ g'.block
    rcases hat with h1 | h1
    · rw [oblk] at h1
      obtain ⟨s, hs, h2⟩ := Option.map_eq_some_iff.1 h1
      have := h.ne s hs g' rfl
      omega
    · have := (World.ownsRow.lt h.ro g'.block (by rw [oblk]; rfl)).2
      omega
theorem StE.pushO {B g2 cap2 : Nat} {As Ao : Option Addr} {cs co : Nat} {S O : List Int} {W W6 : World} {o : Obj} {x : Int} (h : StE B As Ao cs co S O W) (hg : (W.alloc o).grownBy W6 (Value.slice Ao O.length co).ownBlock)
    (hown : W6.ownsRow B 3 1 (.slice (some ⟨g2, 0, none⟩) (O.length + 1) cap2) (O.length + 1) ((O ++ [x]).map (Value.int .i64))) (hat : (Value.slice Ao O.length co).ownBlock = some g2 ∨ W.heap.size ≤ g2) : StE B As (some ⟨g2, 0, none⟩) cs cap2 S (O ++ [x]) W6 := by
  have h' : StE B Ao As co cs O S W := ⟨h.ro, h.rs, fun g hg g' hg' e => h.ne g' hg' g hg e.symm⟩
  have h1 := h'.pushS hg hown hat
  exact ⟨h1.ro, h1.rs, fun g hg g' hg' e => h1.ne g' hg' g hg e.symm⟩
theorem StE.pop {B g cap n : Nat} {Ao : Option Addr} {co : Nat} {S O : List Int} {W : World} (h : StE B (some ⟨g, 0, none⟩) Ao cap co S O W) (hn : S.length = n + 1) : StE B (some ⟨g, 0, none⟩) Ao cap co (S.take n) O W := by
  refine ⟨?_, h.ro, h.ne⟩
  have h1 := h.rs
  unfold ORow at h1 ⊢
  rw [hn] at h1
  have h2 := row_short h1
  rw [List.length_take, hn, show min n (n + 1) = n by omega, List.map_take]
  exact h2
end Go.Proofs.Ythnlcbeibhhjpaa
