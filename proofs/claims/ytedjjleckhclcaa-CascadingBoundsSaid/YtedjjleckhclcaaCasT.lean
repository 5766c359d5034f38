/- Walks: the reference's Bound; facts of the third law. -/
import Derived.Test.YtedjjleckhclcaaCasR
namespace Go.Proofs.Ytedjjleckhclcaa
open Go.RowKit
set_option maxRecDepth 100000

theorem rlM_head {M : List (List Int)} (h : 0 < M.length) : (rlM M)[0]? = some (hdk (lsts M)) := by
  cases M with
  | nil => simp at h
  | cons c r => rfl
set_option maxHeartbeats 4000000 in
theorem rbound_any (A : Option Addr) (cp : Nat) (M : List (List Int)) (w : World) (h0 : 0 < M.length) (h32 : M.length ≤ 32) (hl : ∀ c ∈ M, c.length ≤ 1000) (hA : RowsAt (· < w.heap.size) w A M) :
    Calls Try.prog 21 #[.slice A M.length cp] w fun e w' => (∃ K : Nat, e = .returned (.int .i64 ((K + (M.length - 1) : Nat) : Int)) ∧ (hdk (lsts M)).length < 2 ^ K) ∧ Below w.heap.size w w' := by
  obtain ⟨m, hmm⟩ : ∃ m, M.length = m := ⟨_, rfl⟩
  have HM := Lib.hid hmm
  have HLI := Lib.hid (HM.out ▸ rlists_any A cp M w h32 hl hA : Calls Try.prog 14 #[.slice A m cp] w fun e w' => ∃ A', e = .returned (.slice A' m m) ∧ RowsAt (fun b => w.heap.size ≤ b ∧ b < w'.heap.size) w' A' (rlM M) ∧ Below w.heap.size w w')
  have hN := lsts_len_drop hl 0
  rw [List.drop_zero] at hN
  have HH := Lib.hid (rlM_head h0)
  rw [hmm] at h0 h32 ⊢
  clear hA hl hmm
  go_enter Try.func21, Try.ntmps21
  go_wp2_with fail
  refine HLI.out.mono ?_
  clear HLI
  rintro e w1 ⟨A', rfl, hr, hb⟩
  obtain ⟨b, off, hAe, _, hcc⟩ := hr (by rw [rlM_len, HM.out]; exact h0)
  subst hAe
  obtain ⟨B1, d1, r0, _, _, _⟩ := hcc 0 _ HH.out
  rw [Nat.add_zero] at r0
  obtain ⟨n, hn⟩ : ∃ n, (hdk (lsts M)).length = n := ⟨_, rfl⟩
  have HNN := Lib.hid hn
  rw [hn] at hN r0
  clear hn
  have HB := Lib.hid hb
  have h0I : (0 : Int) < (m : Int) := by omega
  clear hcc hr hb HH
  go_wp2_with fail
  go_loopw [4, 5] (fun u v wr => ∃ k p : Nat, k ≤ p ∧ u = .int .i64 k ∧ v = .int .i64 p ∧ p = 2 ^ k ∧ 0 < p ∧ p ≤ 2 * n + 1 ∧ w1 = wr) (fun _ v _ => 2 * n + 2 - (intOf v).toNat)
  case atStart => exact ⟨0, 1, by omega, rfl, rfl, rfl, by omega, by omega, rfl⟩
  case round =>
    obtain ⟨k, p, hkp, rfl, rfl, hp, hp0, hpn, rfl⟩ := hrel
    have HP := Lib.hid hp
    clear hp
    by_cases hlt : p < n + 1
    · have hltI : (p : Int) < (n : Int) + 1 := by omega
      have HP2 : Hid (p * 2 = 2 ^ (k + 1)) := Lib.hid (by rw [HP.out, Nat.pow_succ])
      go_wp2_with fail
      go_roundw
      case rel => exact ⟨k + 1, p * 2, by omega, by go_num, by go_num, HP2.out, by omega, by omega, by trivial⟩
      case measure => simp [intOf]; omega
    · have hltI : ¬ (p : Int) < (n : Int) + 1 := by omega
      have HK : Hid ((hdk (lsts M)).length < 2 ^ k) := Lib.hid (by rw [← HP.out, HNN.out]; omega)
      go_wp2_with fail
      go_ret
      exact ⟨⟨k, retI (by omega), HK.out⟩, HB.out⟩

theorem rk_mono (L : List Int) {a b : Int} (h : a ≤ b) : rk L a ≤ rk L b := by
  unfold rk
  exact List.countP_mono_left fun x _ hx => by simp at hx ⊢; omega
theorem idxI_rk {L : List Int} (hs : srt L) {j : Nat} {x : Int} (hj : L[j]? = some x) : idxI L x = rk L x := by
  have hlt : rk L x ≤ j := by
    rcases Nat.lt_or_ge j (rk L x) with h | h
    · exact absurd ((rk_get hs x hj).2 h) (by omega)
    · exact h
  have hjl := (List.getElem?_eq_some_iff.1 hj).1
  have hk : L[rk L x]? = some L[rk L x] := List.getElem?_eq_getElem (by omega)
  have h1 : ¬ L[rk L x] < x := fun h => by have := (rk_get hs x hk).1 h; omega
  have h2 := srt_get hs hlt hk hj
  have e : L[rk L x] = x := by omega
  rw [e] at hk
  refine idxI_hit hk fun i u hi hu => ?_
  have := (rk_get hs x hu).2 hi
  simp; omega

/-- What the third law keeps. -/
structure BInv (w : World) (x g n1 : Nat) (M : List (List Int)) (AR BR : Option Addr) (lo hi : Int) (W : World) : Prop where
  ix : ∃ d : Nat, IX x g n1 (lsts M) d W
  n : n1 ≤ W.heap.size
  a : IntsAt (fun b => n1 ≤ b ∧ b < W.heap.size) W AR (ranks M lo)
  b : IntsAt (fun b => n1 ≤ b ∧ b < W.heap.size) W BR (ranks M hi)
  bel : Below w.heap.size w W
theorem ints_but {x n1 : Nat} {W V : World} {A : Option Addr} {L : List Int} (h : IntsAt (fun b => n1 ≤ b ∧ b < W.heap.size) W A L) (hx : x < n1) (hb : But x W V) : IntsAt (fun b => n1 ≤ b ∧ b < V.heap.size) V A L :=
  (h.keep fun b o hp => World.cell?_of_block (hb.block b hp.2 (fun e => by injection e with e; omega))).more fun b hp => ⟨hp.1, Nat.lt_of_lt_of_le hp.2 hb.size⟩
theorem IX.drewN {x g n1 : Nat} {L : List (List CE)} {c : Int} {W : World} (h : IX x g n1 L c W) (q : Nat) : IX x g n1 L c (W.drewN q) := ⟨h.box, h.lists, h.gx, h.gn, h.xn⟩
theorem BInv.drewN {w W : World} {x g n1 : Nat} {M : List (List Int)} {AR BR : Option Addr} {lo hi : Int} (h : BInv w x g n1 M AR BR lo hi W) (q : Nat) : BInv w x g n1 M AR BR lo hi (W.drewN q) := by
  obtain ⟨d, hd⟩ := h.ix
  exact ⟨⟨d, hd.drewN q⟩, h.n, h.a, h.b, below_drewN h.bel q⟩
theorem BInv.search {w W W' : World} {x g n1 : Nat} {M : List (List Int)} {AR BR : Option Addr} {lo hi key : Int} {e : Ending} (h : BInv w x g n1 M AR BR lo hi W) (hw : w.heap.size ≤ x) (hx : x < n1) (hp : SearchPost W x g n1 M key e W') :
    ∃ rb : Nat, e = .returned (.tuple #[.slice (some ⟨rb, 0, none⟩) M.length M.length, .int .i64 0]) ∧ BInv w x g n1 M AR BR lo hi W' ∧ IntsAt (fun b => n1 ≤ b ∧ b < W'.heap.size) W' (some ⟨rb, 0, none⟩) (ranks M key) := by
  obtain ⟨rb, d, he, hr, hix, _, hbut⟩ := hp
  exact ⟨rb, he, ⟨⟨d, hix⟩, Nat.le_trans h.n hbut.size, ints_but h.a hx hbut, ints_but h.b hx hbut, h.bel.grown hbut h.bel.size (fun k e => by cases e; exact hw)⟩, hr.more fun b hb => ⟨Nat.le_trans h.n hb.1, hb.2⟩⟩
end Go.Proofs.Ytedjjleckhclcaa
