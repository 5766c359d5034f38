/- The frame of a law that answers true and leaves its arguments alone: for any program and any number of arguments. -/
import Derived.Maps.RangeWalk
import Derived.Test.YthbcfcbonmphfaaGreatDoorFormDBundle
import Derived.Shelf.SlSortCmp.WholeK
import Derived.Shelf.SlSortCmp.NoneTotal
import Derived.Test.YthbcfcbonmphfaaGreatDoorTermJBundle
import Derived.Laws.EntriesVeiled
import Derived.Test.YthbcfcbonmphfaaGreatDoorTermDBundle
import Derived.IntWalk
import Derived.Test.YthbcfcbonmphfaaGreatDoorTermFmBundle
import Derived.ProofKit
import Derived.Below
import Derived.ChangeSame
import Derived.WideKeyArgs
/- The variables of a term out of a map: plain facts; the step of a range over a map of strings. -/
namespace Go.Proofs.YthbcfcbonmphfaaGreatDoor
open Go.RowKit Go.Shelf
set_option maxRecDepth 100000

theorem bcmp_self (a : ByteArray) : bcmp a a ≠ -1 := by rw [bcmp_zero.2 rfl]; decide
/-- Two lists that ascend and have the same members are one. -/
theorem srt_ext : ∀ (a b : List FF), Srt a → Srt b → (∀ x, x ∈ a ↔ x ∈ b) → a = b
  | [], [], _, _, _ => rfl
  | [], y :: b, _, _, h => by have := (h y).2 (by simp); cases this
  | x :: a, [], _, _, h => by have := (h x).1 (by simp); cases this
  | x :: a, y :: b, ha, hb, h => by
    obtain ⟨h1, h2⟩ := List.pairwise_cons.1 ha
    obtain ⟨h3, h4⟩ := List.pairwise_cons.1 hb
    have hxy : x = y := by
      rcases List.mem_cons.1 ((h x).1 (by simp)) with e | e
      · exact e
      · rcases List.mem_cons.1 ((h y).2 (by simp)) with e' | e'
        · exact e'.symm
        · exact absurd (bcmp_lt_trans (h1 y e') (h3 x e)) (bcmp_self _)
    subst hxy
    congr 1
    refine srt_ext a b h2 h4 fun z => ⟨fun hz => ?_, fun hz => ?_⟩
    · rcases List.mem_cons.1 ((h z).1 (List.mem_cons_of_mem _ hz)) with e | e
      · rw [e] at hz; exact absurd (h1 x hz) (bcmp_self _)
      · exact e
    · rcases List.mem_cons.1 ((h z).2 (List.mem_cons_of_mem _ hz)) with e | e
      · rw [e] at hz; exact absurd (h3 x hz) (bcmp_self _)
      · exact e
theorem vm_is {l : List (Nat × Tm)} (ha : agreeL l = true) {x : Nat × Tm} (hx : x ∈ l) (hv : isV x.2 = true) : vm l x.2.nm.data.toList = some (.string x.2.st) := by
  cases h : vm l x.2.nm.data.toList with
  | none => exact absurd rfl (vm_none l _ h x hx hv)
  | some v =>
    obtain ⟨y, hy, hvy, hs, rfl⟩ := vm_some l _ v h
    have e : x.2.nm = y.2.nm := toList_inj hs
    rw [(agreeL_iff l).1 ha y hy x hx hvy hv e.symm]

/-- What has been read of a map of strings, and what is left. -/
def RL (f : List UInt8 → Option Value) (l : List FF) (left : Lit → Bool) : Prop :=
  (∀ g, g ∈ l → f g.1.data.toList = some (.string g.2) ∧ left (.string g.1.data.toList) = false) ∧ (l.map Prod.fst).Nodup ∧ ∀ s v, f s = some v → left (.string s) = true ∨ ∃ g, g ∈ l ∧ g.1.data.toList = s
theorem RL.start {f : List UInt8 → Option Value} {left : Lit → Bool} (h : ∀ s v, f s = some v → left (.string s) = true) : RL f [] left :=
  ⟨(fun g (hg : g ∈ []) => absurd hg (by simp)), List.nodup_nil, fun s v hs => .inl (h s v hs)⟩
theorem RL.next {f : List UInt8 → Option Value} {l : List FF} {left : Lit → Bool} (h : RL f l left) {x st : ByteArray} (hf : f x.data.toList = some (.string st)) (hl : left (.string x.data.toList) = true) :
    RL f (l ++ [(x, st)]) (fun z => left z && !z.sameKey (.string x.data.toList)) := by
  obtain ⟨h1, h2, h3⟩ := h
  refine ⟨fun g hg => ?_, ?_, fun s v hs => ?_⟩
  · rcases List.mem_append.1 hg with hg | hg
    · exact ⟨(h1 g hg).1, by show (left (.string g.1.data.toList) && _) = false; rw [(h1 g hg).2]; rfl⟩
    · rw [List.mem_singleton] at hg
      subst hg
      exact ⟨hf, by simp [Lit.sameKey]⟩
  · rw [List.map_append, List.nodup_append]
    refine ⟨h2, by simp, fun a ha b hb e => ?_⟩
    rw [List.mem_map] at ha
    obtain ⟨g, hg, rfl⟩ := ha
    simp at hb
    rw [hb] at e
    have := (h1 g hg).2
    rw [e, hl] at this
    cases this
  · by_cases he : s = x.data.toList
    · exact .inr ⟨(x, st), by simp, he.symm⟩
    · rcases h3 s v hs with h | ⟨g, hg, e⟩
      · left
        show (left (.string s) && !(Lit.string s).sameKey (.string x.data.toList)) = true
        rw [h]
        simp [Lit.sameKey, he]
      · exact .inr ⟨g, by simp [hg], e⟩
/-- All that there is has been read: the members are the variables. -/
theorem RL.mem {t : Tm} {l : List FF} {left : Lit → Bool} (h : RL (vm (t.pre 1)) l left) (hl : ∀ kl, left kl = false) (ha : agreeL (t.pre 1) = true) (ho : okV t) (g : FF) : g ∈ l ↔ g ∈ vof t := by
  obtain ⟨h1, _, h3⟩ := h
  rw [vof_pre t 1 ho g]
  refine ⟨fun hg => ?_, fun ⟨x, hx, hv, e⟩ => ?_⟩
  · obtain ⟨x, hx, hv, e1, e2⟩ := vm_some _ _ _ (h1 g hg).1
    injection e2 with e2
    exact ⟨x, hx, hv, Prod.ext (toList_inj e1) e2⟩
  · have hm := vm_is ha hx hv
    rcases h3 _ _ hm with h | ⟨g', hg', e'⟩
    · rw [hl] at h; cases h
    · have h5 := (h1 g' hg').1
      rw [e', hm] at h5
      injection h5 with h5
      injection h5 with h5
      have : g' = g := by rw [e]; exact Prod.ext (toList_inj e') h5.symm
      rw [← this]; exact hg'
theorem formed_agree {t : Tm} (h : formed t = true) : agreeL (t.pre 1) = true := by
  unfold formed at h
  simp only [Bool.and_eq_true] at h
  exact h.2
/-- A permutation of what has been read that ascends is what the reference says. -/
theorem vars_is {t : Tm} (hf : formed t = true) {l : List FF} {left : Lit → Bool} (h : RL (vm (t.pre 1)) l left) (hl : ∀ kl, left kl = false) {m : List FF} (hs : Srt m) (hm : ∀ g, g ∈ m ↔ g ∈ l) : m = (varsT t []).1 := by
  have ho := formed_okV hf
  have ha := formed_agree hf
  have h1 := varsT_ok t [] List.Pairwise.nil
  have h2 : (varsT t []).2 = true := by rw [vars_agree ho]; exact ha
  obtain ⟨h3, h4⟩ := h1.2 h2
  refine srt_ext m _ hs h3 fun g => ?_
  rw [hm, h.mem hl ha ho, h4]
  simp
theorem keyStr_inv {key : Value} {kl : Lit} (h : keyOf Tryz.prog 9 key = some kl) : ∃ s : ByteArray, key = .string s ∧ kl = .string s.data.toList ∧ s.size ≤ maxLen := by
  have hk := Tryz.underlying9
  cases key <;> simp [keyOf, hk, mapKey] at h
  obtain ⟨h1, rfl⟩ := h
  refine ⟨_, rfl, rfl, ?_⟩
  simpa [Lit.wf] using h1

section
variable {ops : Array Oper} {rest : List Oper} {o : Oper} {a : Act} {Q : Exit → Act → World → Prop}
/-- The step of a range over a map of strings that the call has made. -/
theorem wpList_next_sm (w : World) (hg : o.guard = none) (it : Operand) (hop : o.op = Op.next it false) (b r n : Nat) (D : DataW Value) (f : List UInt8 → Option Value) (hD : ∀ s, Maps.has D (.string s) = (f s).isSome ∧ ∀ v, f s = some v → ∀ zd, D.atKey (.string s) zd = .held v)
    (hS : ∀ s v, f s = some v → ∃ st : ByteArray, v = .string st) (left : Lit → Bool) (cnt : Nat) (hit : a.eval it = .pointer (some ⟨r, 0, none⟩)) (h : w.ranges Tryz.prog 9 Rv b r n D left cnt)
    (hDone : cnt = 0 → (∀ kl, left kl = false) → wpList Tryz.prog ops Q rest (a.put o.dst (.tuple #[.bool false])) w)
    (hMore : ∀ (x st : ByteArray) (w' : World) (cnt' : Nat), x.size ≤ maxLen → f x.data.toList = some (.string st) → left (.string x.data.toList) = true → w'.ranges Tryz.prog 9 Rv b r n D (fun z => left z && !z.sameKey (.string x.data.toList)) cnt' → cnt' < cnt →
      w.grownBy w' (some r) → w'.heap.size = w.heap.size → (Instr.entry (.pointer (some ⟨r, 0, none⟩))).run Tryz.prog w' = .ok (.tuple #[.string x, .string st]) w' → wpList Tryz.prog ops Q rest (a.put o.dst (.tuple #[.bool true, .string x, .string st])) w') :
    wpList Tryz.prog ops Q (o :: rest) a w := by
  refine wpList_next_ranges w hg it hop 9 (Maps.string_keyed Tryz.underlying9) Rv (fun s : ByteArray => .string s) (fun v : Value => v)
    (fun key kl hkey => by obtain ⟨s, e, _⟩ := keyStr_inv hkey; exact ⟨s, e⟩) (fun v y _ => ⟨v, rfl⟩) b r n D left cnt hit h hDone ?_
  intro x c kl y w' cnt' hkey hlk hv hat hrg hlt hgr hsz hen
  obtain ⟨s, e, rfl, hs⟩ := keyStr_inv hkey
  injection e with e
  subst e
  unfold Rv at hv
  injection hv with hv
  subst hv
  obtain ⟨g1, g2⟩ := hD x.data.toList
  cases hf : f x.data.toList with
  | none =>
    rw [hf] at g1
    have e1 := hat (.held (.bool true))
    have e2 := hat (.held (.bool false))
    rw [Maps.atKey_of_not_has g1] at e1 e2
    rw [← e2] at e1
    injection e1 with e1
    injection e1 with e1
    cases e1
  | some u =>
    have e1 := (g2 u hf (.held u)).symm.trans (hat (.held u))
    injection e1 with e1
    subst e1
    obtain ⟨st, rfl⟩ := hS _ _ hf
    exact hMore x st w' cnt' hs hf hlk hrg hlt hgr hsz hen
end
end Go.Proofs.YthbcfcbonmphfaaGreatDoor
/- slices.SortFunc on fields. -/
namespace Go.Proofs.YthbcfcbonmphfaaGreatDoor
open Go.RowKit Go.Shelf
open Go.Sort (SWO grow alloc_eq_grow grow_grow HoldsK size_flatK get_flatK heap_grow_old putRowK putRow mapBlock size_putRow PermIn SortedIn)
set_option maxRecDepth 100000

def Tryz.laysSf_ren : Go.Shelf.Ren := ⟨fun | 6 => 44 | 15 => 72 | 14 => 71 | 28 => 100 | 29 => 101 | 20 => 92 | 21 => 93 | 22 => 94 | 23 => 95 | 24 => 96 | 25 => 97 | 26 => 98 | 27 => 99 | 46 => 112 | 47 => 113 | 48 => 114 | 49 => 115 | 50 => 116 | 57 => 119 | n => n, fun | 22 => 38 | 24 => 45 | 25 => 85 | 3 => 3 | 39 => 122 | 0 => 0 | 53 => 149 | 55 => 151 | 4 => 4 | 46 => 142 | 45 => 141 | 50 => 146 | 5 => 5 | 9 => 9 | 66 => 160 | 70 => 164 | 76 => 169 | 77 => 170 | n => n, fun | n => n⟩
theorem Tryz.laysSf : Go.Proofs.SlLaysF0.n6 Tryz.prog Tryz.laysSf_ren := {
  mixed := by kernel_rfl
  f6 := ⟨Tryz.f44.name, by decide, Tryz.func44.trans (congrArg some (by kernel_rfl))⟩
  f14 := ⟨Tryz.f71.name, by decide, Tryz.func71.trans (congrArg some (by kernel_rfl))⟩
  f15 := Tryz.func72.trans (congrArg some (by kernel_rfl))
  f20 := ⟨Tryz.f92.name, by decide, Tryz.func92.trans (congrArg some (by kernel_rfl))⟩
  f21 := ⟨Tryz.f93.name, by decide, Tryz.func93.trans (congrArg some (by kernel_rfl))⟩
  f22 := ⟨Tryz.f94.name, by decide, Tryz.func94.trans (congrArg some (by kernel_rfl))⟩
  f23 := ⟨Tryz.f95.name, by decide, Tryz.func95.trans (congrArg some (by kernel_rfl))⟩
  f24 := ⟨Tryz.f96.name, by decide, Tryz.func96.trans (congrArg some (by kernel_rfl))⟩
  f25 := ⟨Tryz.f97.name, by decide, Tryz.func97.trans (congrArg some (by kernel_rfl))⟩
  f26 := ⟨Tryz.f98.name, by decide, Tryz.func98.trans (congrArg some (by kernel_rfl))⟩
  f27 := ⟨Tryz.f99.name, by decide, Tryz.func99.trans (congrArg some (by kernel_rfl))⟩
  f28 := Tryz.func100.trans (congrArg some (by kernel_rfl))
  f29 := Tryz.func101.trans (congrArg some (by kernel_rfl))
  f46 := ⟨Tryz.f112.name, by decide, Tryz.func112.trans (congrArg some (by kernel_rfl))⟩
  f47 := Tryz.func113.trans (congrArg some (by kernel_rfl))
  f48 := Tryz.func114.trans (congrArg some (by kernel_rfl))
  f49 := ⟨Tryz.f115.name, by decide, Tryz.func115.trans (congrArg some (by kernel_rfl))⟩
  f50 := ⟨Tryz.f116.name, by decide, Tryz.func116.trans (congrArg some (by kernel_rfl))⟩
  f57 := ⟨Tryz.f119.name, by decide, Tryz.func119.trans (congrArg some (by kernel_rfl))⟩
  t0 := Tryz.underlying0
  a0 := Tryz.isAgg0
  z0 := Tryz.sizeOf0
  v0 := Tryz.zeroValue0
  t3 := Tryz.underlying3
  a3 := Tryz.isAgg3
  z3 := Tryz.sizeOf3
  v3 := Tryz.zeroValue3
  t4 := Tryz.underlying4
  a4 := Tryz.isAgg4
  z4 := Tryz.sizeOf4
  v4 := Tryz.zeroValue4
  t5 := Tryz.underlying5
  a5 := Tryz.isAgg5
  z5 := Tryz.sizeOf5
  v5 := Tryz.zeroValue5
  t9 := Tryz.underlying9
  a9 := Tryz.isAgg9
  z9 := Tryz.sizeOf9
  v9 := Tryz.zeroValue9
  t22 := Tryz.underlying38
  a22 := Tryz.isAgg38
  z22 := Tryz.sizeOf38
  v22 := Tryz.zeroValue38
  t25 := Tryz.underlying85
  a25 := Tryz.isAgg85
  z25 := Tryz.sizeOf85
  v25 := Tryz.zeroValue85
  t39 := Tryz.underlying122
  a39 := Tryz.isAgg122
  z39 := Tryz.sizeOf122
  v39 := Tryz.zeroValue122
  t45 := Tryz.underlying141
  a45 := Tryz.isAgg141
  z45 := Tryz.sizeOf141
  v45 := Tryz.zeroValue141
  t46 := Tryz.underlying142
  a46 := Tryz.isAgg142
  z46 := Tryz.sizeOf142
  v46 := Tryz.zeroValue142
  t50 := Tryz.underlying146
  a50 := Tryz.isAgg146
  z50 := Tryz.sizeOf146
  v50 := Tryz.zeroValue146
  t53 := Tryz.underlying149
  a53 := Tryz.isAgg149
  z53 := Tryz.sizeOf149
  v53 := Tryz.zeroValue149
  t55 := Tryz.underlying151
  a55 := Tryz.isAgg151
  z55 := Tryz.sizeOf151
  v55 := Tryz.zeroValue151
  t66 := Tryz.underlying160
  a66 := Tryz.isAgg160
  z66 := Tryz.sizeOf160
  v66 := Tryz.zeroValue160
  t70 := Tryz.underlying164
  a70 := Tryz.isAgg164
  z70 := Tryz.sizeOf164
  v70 := Tryz.zeroValue164
  t76 := Tryz.underlying169
  a76 := Tryz.isAgg169
  z76 := Tryz.sizeOf169
  v76 := Tryz.zeroValue169
  t77 := Tryz.underlying170
  a77 := Tryz.isAgg170
  z77 := Tryz.sizeOf170
  v77 := Tryz.zeroValue170 }

/-- The comparison that Vars hands on. -/
def cfF (x y : FF) : Int := bcmp x.1 y.1
theorem swoF : SWO (ltOf cfF) where
  irrefl x := by unfold ltOf cfF; exact decide_eq_false (by rw [bcmp_zero.2 rfl]; omega)
  trans x y z h1 h2 := by
    unfold ltOf cfF at *
    have a := of_decide_eq_true h1
    have b := of_decide_eq_true h2
    have h := (bcmp_trans x.1 y.1 z.1).1 (by omega) (by omega)
    refine decide_eq_true ?_
    by_cases hz : bcmp x.1 z.1 = 0
    · have := (h.2 hz).1; omega
    · omega
  ntrans x y z h1 h2 := by
    unfold ltOf cfF at *
    have a := of_decide_eq_false h1
    have b := of_decide_eq_false h2
    have h := (bcmp_trans z.1 y.1 x.1).1 (by rw [bcmp_swap]; omega) (by rw [bcmp_swap]; omega)
    refine decide_eq_false ?_
    rw [bcmp_swap] at h
    omega

set_option maxHeartbeats 1000000 in
theorem lessF_any (x y : FF) (W : World) : Calls Tryz.prog 45 #[.agg #[.string x.1, .string x.2], .agg #[.string y.1, .string y.2]] W fun e w' => e = .returned (.int .i64 (cfF x y)) ∧ ∃ q os', w' = grow (W.drewN q) os' := by
  have hcon := fun W' => strCompare_any x.1 y.1 W'
  unfold cfF
  generalize bcmp x.1 y.1 = r at hcon ⊢
  have HC := Lib.hid hcon
  clear hcon
  go_enter Tryz.func45, Tryz.ntmps45
  go_wp2_with (go_at_call 46; refine (HC.out _).mono ?_; rintro e w' ⟨rfl, rfl⟩)
  go_ret
  exact ⟨rfl, 0, _, by rw [alloc_eq_grow, alloc_eq_grow, grow_grow]; rfl⟩
theorem fC_one (x : FF) : ∀ v ∈ fC x, v.oneCell' = true := by
  intro v hv
  simp [fC] at hv
  rcases hv with rfl | rfl <;> rfl

/-- The row holds what the list says. -/
theorem holds_own {w : World} {base g cap : Nat} {l : List FF} (h : w.ownsRow base 45 2 (.slice (some ⟨g, 0, none⟩) l.length cap) l.length (fcs l)) : HoldsK fC 2 w g 0 l.toArray ∧ g < w.heap.size ∧ base ≤ g ∧ l.length ≤ cap ∧ cap ≤ maxLen := by
  have hlt := h.lt g rfl
  rcases h.2 with ⟨h0, _⟩ | ⟨g', cap', cur, hv, _, hh, hn, hc, hsz, htk⟩
  · cases h0
  · injection hv with e1 _ e3
    injection e1 with e1
    injection e1 with e1 _ _
    subst e1 e3
    refine ⟨fun j hj => ?_, hlt.2, hlt.1, hn, hc⟩
    have hz : l.toArray.size = l.length := by simp
    rw [size_flatK, hz] at hj
    rw [get_flatK _ _ _ _ (by rw [hz]; exact hj)]
    have hi : j / 2 < l.length := by omega
    obtain ⟨x, hx⟩ : ∃ x, l[j / 2]? = some x := ⟨l[j / 2]'hi, List.getElem?_eq_getElem _⟩
    have e : l.toArray[j / 2]! = x := by
      rw [getElem!_pos l.toArray (j / 2) (by simpa using hi)]
      simpa using (List.getElem?_eq_some_iff.1 hx).2
    rw [e]
    refine ⟨?_, by simp [World.frozen?, hh]⟩
    obtain ⟨f0, f1⟩ := fcs_at l (j / 2) x hx
    have hc := h.cellAt j (by omega)
    rw [Nat.zero_add]
    rcases Nat.mod_two_eq_zero_or_one j with hm | hm
    · rw [hm]
      have ej : j / 2 * 2 = j := by omega
      rw [ej] at f0
      exact hc.trans f0
    · rw [hm]
      have ej : j / 2 * 2 + 1 = j := by omega
      rw [ej] at f1
      exact hc.trans f1
theorem below_sort {B g n : Nat} {w : World} {d : Array FF} {os : Array Obj} (hg : g < w.heap.size) (hB : B ≤ g) : Below B w (sortWorldK fC 2 w g 0 n d os) := by
  refine ⟨rfl, rfl, rfl, size_sortWorldK_c _ _ _ _ _ _ _ _, fun k hk => ?_⟩
  unfold sortWorldK
  rw [heap_grow_old _ _ (by unfold putRowK; rw [size_putRow]; show k < w.heap.size; omega)]
  unfold putRowK putRow mapBlock
  show (w.heap.modify g _)[k]? = _
  rw [Array.getElem?_modify, if_neg (by omega)]
/-- What the sorted row is. -/
theorem sorted_list {l : List FF} {d' : Array FF} (hp : PermIn 0 l.toArray.size l.toArray d') (hs : SortedIn (ltOf cfF) 0 l.toArray.size d') (hn : (l.map Prod.fst).Nodup) : d'.toList.length = l.length ∧ Srt d'.toList ∧ ∀ x, x ∈ d'.toList ↔ x ∈ l := by
  obtain ⟨h1, _, h3⟩ := hp
  have hz : l.toArray.size = l.length := by simp
  rw [hz] at h1 h3
  have e1 : (d'.extract 0 l.length).toList = d'.toList := by rw [← h1]; simp
  have e2 : (l.toArray.extract 0 l.length).toList = l := by simp
  rw [e1, e2] at h3
  refine ⟨h3.length_eq, ?_, fun x => h3.mem_iff⟩
  have hn' : (d'.toList.map Prod.fst).Nodup := (h3.map Prod.fst).nodup_iff.2 hn
  have hne : d'.toList.Pairwise (fun a b => a.1 ≠ b.1) := List.pairwise_map.1 hn'
  refine List.pairwise_iff_getElem.2 fun i j hi hj hij => ?_
  have h4 := List.pairwise_iff_getElem.1 hne i j hi hj hij
  have hi' : i < d'.size := by simpa using hi
  have hj' : j < d'.size := by simpa using hj
  have h5 := hs i j (Nat.zero_le _) hij (by rw [hz]; omega)
  rw [getElem!_pos d' i hi', getElem!_pos d' j hj'] at h5
  unfold ltOf cfF at h5
  have h6 := of_decide_eq_false h5
  simp only [Array.getElem_toList] at h4 ⊢
  have hz : bcmp d'[i].1 d'[j].1 ≠ 0 := fun e => h4 (bcmp_zero.1 e)
  rw [bcmp_swap] at h6
  rcases bcmp_vals d'[i].1 d'[j].1 with h | h | h <;> omega
theorem sort_any (l : List FF) (v : Value) (base : Nat) (w : World) (hown : w.ownsRow base 45 2 v l.length (fcs l)) (hn : (l.map Prod.fst).Nodup) (hl : l.length ≤ 1000000) :
    Calls Tryz.prog 44 #[v, .func (.func 45) #[] #[]] w fun e w' => e = .returned (.tuple #[]) ∧ Below base w w' ∧ ∃ m, Srt m ∧ (∀ x, x ∈ m ↔ x ∈ l) ∧ FLv w' v m := by
  rcases hown.2 with ⟨rfl, h0⟩ | ⟨g, cap, cur, rfl, _, _, _, _⟩
  · have e : l = [] := List.eq_nil_of_length_eq_zero h0
    subst e
    refine (AnyF.slices_SortFunc_none Tryz.laysSf none 0 (.func (.func 45) #[] #[]) w).mono ?_
    rintro e w' ⟨rfl, rfl⟩
    exact ⟨rfl, Below.refl _ _, [], List.Pairwise.nil, fun x => Iff.rfl, none, 0, rfl, by simp, by simp [maxLen], fun h => absurd h (by simp)⟩
  · obtain ⟨hH, hlt, hb, hc, hcm⟩ := holds_own hown
    have eg : ∀ args w, (callFunc 45 args).run Tryz.prog w = .ok (.enter 45 args) w := enters_of Tryz.func45 (by kernel_rfl) rfl
    have hcon := AnyQ.slices_SortFunc Tryz.laysSf 2 Tryz.isAgg45 Tryz.sizeOf45 fC (fun _ => rfl) fC_one cfF swoF 45 #[] g 0 cap l.toArray w eg (fun _ _ _ _ x y => lessF_any x y _) hH hlt (by simp; omega)
    have hz : l.toArray.size = l.length := by simp
    rw [hz] at hcon
    refine Calls.mono (P := Tryz.prog) hcon ?_
    rintro e w' ⟨rfl, d', n, os, hp, hs, rfl⟩
    obtain ⟨h1, h2, h3⟩ := sorted_list (by rw [hz]; exact hp) (by rw [hz]; exact hs) hn
    refine ⟨rfl, below_sort hlt hb, d'.toList, h2, h3, some ⟨g, 0, none⟩, cap, by rw [h1], by omega, hcm, fun _ => ⟨g, 0, rfl, Nat.lt_of_lt_of_le hlt (size_sortWorldK_c _ _ _ _ _ _ _ _), fun i x hx => ?_⟩⟩
    have hsz : d'.size = l.toArray.size := by rw [hz, ← h1]; simp
    have hK := holdsK_sortWorldK_c fC 2 w g 0 l.toArray d' n os hH hlt hsz
    have hi : i < d'.size := by have := (List.getElem?_eq_some_iff.1 hx).1; simpa using this
    have e : d'[i]! = x := by
      rw [getElem!_pos d' i hi]
      have := (List.getElem?_eq_some_iff.1 hx).2
      simpa using this
    have c0 := (hK.cell hi (show 0 < 2 by omega)).1
    have c1 := (hK.cell hi (show 1 < 2 by omega)).1
    rw [e] at c0 c1
    exact ⟨c0, c1⟩
end Go.Proofs.YthbcfcbonmphfaaGreatDoor
/- Vars; the reference's Vars; slices.Equal on fields. -/
namespace Go.Proofs.YthbcfcbonmphfaaGreatDoor
open Go.RowKit Go.Shelf
set_option maxRecDepth 100000

theorem rng_own {w : World} {b r n : Nat} {D : DataW Value} {left : Lit → Bool} {cnt base k size : Nat} {e : TypeId} {v : Value} {xs : List Value} (h : w.ranges Tryz.prog 9 Rv b r n D left cnt) (ho : w.ownsRow base e size v k xs) : some b ≠ v.ownBlock ∧ some r ≠ v.ownBlock := by
  obtain ⟨es, clock, since, seen, c0, hb, _, _, _, hr, _⟩ := h
  rcases ho.2 with ⟨rfl, _⟩ | ⟨g, cap, cur, rfl, _, hh, _⟩
  · exact ⟨(fun e => by cases e), fun e => by cases e⟩
  · refine ⟨fun e => ?_, fun e => ?_⟩
    · injection e with e
      rw [show b = g from e, hh] at hb
      cases hb
    · injection e with e
      rw [show r = g from e, hh] at hr
      cases hr
theorem own_not {w : World} {base k size : Nat} {e : TypeId} {v : Value} {xs : List Value} {r : Nat} (h : some r ≠ v.ownBlock) : v.ownBlock = none ∨ v.ownBlock ≠ some r := .inr (fun e => h e.symm)

/-- What the loop over the map keeps. -/
structure MV (t : Tm) (A : Option Addr) (c : Nat) (b r n base : Nat) (D : DataW Value) (w : World) (l : List FF) (left : Lit → Bool) (cnt : Nat) (v : Value) (wr : World) : Prop where
  rng : wr.ranges Tryz.prog 9 Rv b r n D left cnt
  own : wr.ownsRow base 45 2 v l.length (fcs l)
  rl : RL (vm (t.pre 1)) l left
  below : Below w.heap.size w wr
  cnt : l.length + cnt ≤ n
  base : base ≤ wr.heap.size

def VrPost (t : Tm) (w : World) (e : Ending) (w' : World) : Prop :=
  (∃ v, e = .returned (.tuple #[v, .int .i64 (if formed t then 0 else 1)]) ∧ FLv w' v (if formed t then (varsT t []).1 else [])) ∧ Below w.heap.size w w'
theorem flv_nil (w : World) : FLv w (.slice none 0 0) [] := ⟨none, 0, rfl, by simp, by simp [maxLen], fun h => absurd h (by simp)⟩
theorem vm_str (l : List (Nat × Tm)) : ∀ s v, vm l s = some v → ∃ st : ByteArray, v = .string st := fun s v h => by
  obtain ⟨x, _, _, _, e⟩ := vm_some l s v h
  exact ⟨_, e⟩

set_option maxHeartbeats 8000000 in
theorem vars_any2 (t : Tm) (A : Option Addr) (c : Nat) (w : World) (hrep : TRep w.heap.size w t A) (hok : okT maxLen t) (hdp : t.depth ≤ 140737488355326) :
    Calls Tryz.prog 13 #[TV t A c] w (VrPost t w) := by
  have hbx := heap_alloc_new w (.cells (tcells t A c) 28)
  have HBX := Lib.hid hbx
  have HB0 := Lib.hid ((Below.refl w.heap.size w).alloc (Nat.le_refl _) (.cells (tcells t A c) 28))
  have HREP := Lib.hid hrep
  have HOK := Lib.hid hok
  obtain ⟨⟨x0, x1, x2⟩, _⟩ := blk3 hbx
  have HC := Lib.hid (wellFormed_any t A c (w.alloc (.cells (tcells t A c) 28)) ((hrep.later HB0.out).mono HB0.out.size) hok hdp)
  clear hbx hrep hok
  unfold TV
  unfold TV at HC
  go_enter Tryz.func13, Tryz.ntmps13
  go_wp2_with fail
  refine HC.out.mono ?_
  rintro e w1 ⟨rfl, hb1⟩
  have HB1 := Lib.hid (HB0.out.trans (hb1.mono HB0.out.size))
  have HBX1 := Lib.hid (cells_below HBX.out hb1)
  clear hb1 HC x0 x1 x2 HBX HB0
  obtain ⟨⟨x0, x1, x2⟩, _⟩ := blk3 HBX1.out
  cases hf : formed t
  · have HF := Lib.hid hf
    clear hf
    go_wp2_with fail
    go_ret2
    exact ⟨⟨.slice none 0 0, by rw [HF.out]; rfl, by rw [HF.out]; exact flv_nil _⟩, HB1.out⟩
  have HF := Lib.hid hf
  have hsize : t.size ≤ 1000 := fitsL_size (by unfold formed at hf; simp at hf; exact hf.1.1)
  have ha := formed_agree hf
  have HC := Lib.hid (varSorts_any t A c w1 ((HREP.out.later HB1.out).mono HB1.out.size) HOK.out hdp (by omega))
  rw [ha] at HC
  clear hf ha
  unfold TV at HC
  go_wp2_with fail
  refine HC.out.mono ?_
  rintro e w2 ⟨⟨m, rfl, hm⟩, hb2⟩
  obtain ⟨b, rfl, hbl, hsm⟩ := hm (by trivial)
  obtain ⟨D, hown, hD⟩ := hsm
  have HB2 := Lib.hid (HB1.out.trans (hb2.mono HB1.out.size))
  have HOWN := Lib.hid hown
  have HD := Lib.hid hD
  have hdn := hown.size_le
  have hblt := hown.lt
  have hw2 := HB2.out.size
  obtain ⟨i0, hi, hz0, hz1, hz2⟩ := info_parts Tryz.infoField
  clear hb2 HC x0 x1 x2 HBX1 HB1 hm hown hD
  go_wp2_with (first
    | (at_len; refine wpList_len_own _ rfl _ _ rfl 9 9 Tryz.underlying80 Rv b t.size D rfl HOWN.out ?_)
    | (at_make; refine wpList_make_own _ rfl _ _ 38 rfl w2.heap.size 45 i0 (.agg #[.string ⟨#[]⟩, .string ⟨#[]⟩]) 2 Tryz.underlying38 hi hz0 hz1 .i64 .i64 _ (Maps.size D) rfl rfl rfl (by rw [hz2]; omega) (by unfold maxLen; omega) (Nat.le_refl _) ?_))
  intro w3 ho3 hg3
  have HO3 := Lib.hid ho3
  have HG3 := Lib.hid hg3
  have HOWN3 := Lib.hid (HOWN.out.kept hg3 (by simp))
  have hs3 := hg3.size
  have HB3 := Lib.hid (HB2.out.grown hg3 hw2 (fun k e => by cases e))
  clear ho3 hg3 HOWN
  go_wp2_with (at_range; refine wpList_range_own _ rfl _ 80 rfl 9 9 (Maps.string_keyed Tryz.underlying9) Tryz.underlying80 Rv b t.size D rfl HOWN3.out ?_)
  intro w4 hrg4 hg4 hs4
  have HI4 : Hid (MV t A c b w3.heap.size t.size w2.heap.size D w [] (Maps.has D) (Maps.size D) (.slice (some ⟨w2.heap.size, 0, none⟩) 0 (Maps.size D)) w4) := Lib.hid
    ⟨hrg4, HO3.out.kept hg4 (.inr (by simp [Value.ownBlock])), RL.start (fun s v hs => by rw [(HD.out s).1, hs]; rfl), HB3.out.grown hg4 (by omega) (fun k e => by cases e), by simpa using hdn, by omega⟩
  have hwr : w.heap.size ≤ w3.heap.size := by omega
  have hbr : w.heap.size ≤ w2.heap.size := hw2
  clear hrg4 hg4 hs4 HO3 HG3 HOWN3 HB3 HB2
  go_wp2_with fail
  try go_frame
  go_loopw [6] (fun v wr => ∃ (l : List FF) (left : Lit → Bool) (cnt : Nat), MV t A c b w3.heap.size t.size w2.heap.size D w l left cnt v wr) (fun _ wr => wr.rangeLeft b w3.heap.size)
  case atStart => exact ⟨_, _, _, HI4.out⟩
  case round =>
    clear HI4
    obtain ⟨l, left, cnt, hinv⟩ := hrel
    have HV := Lib.hid hinv
    have hcn := hinv.cnt
    have hbs := hinv.base
    clear hinv
    go_wp2_with (at_next; refine wpList_next_sm _ rfl _ rfl b w3.heap.size t.size D (vm (t.pre 1)) HD.out (vm_str _) left cnt rfl HV.out.rng ?_ ?_)
    · intro hc0 hl0
      have HL0 := Lib.hid hl0
      have HS := Lib.hid (sort_any l u6 w2.heap.size _ HV.out.own HV.out.rl.2.1 (by omega))
      clear hl0
      go_wp2_with fail
      refine HS.out.mono ?_
      rintro e w5 ⟨rfl, hb5, m, hms, hmm, hfl⟩
      have HM : Hid (m = (varsT t []).1) := Lib.hid (vars_is HF.out HV.out.rl HL0.out hms hmm)
      have HFL := Lib.hid hfl
      have HB5 := Lib.hid (HV.out.below.trans (hb5.mono hbr))
      clear hb5 hms hmm hfl HS
      go_wp2_with fail
      go_ret2
      exact ⟨⟨_, by rw [HF.out]; rfl, by rw [HF.out, if_pos rfl, ← HM.out]; exact HFL.out⟩, HB5.out⟩
    · intro x st w5 cnt5 hxs hvx hlx hrg5 hlt5 hg5 hs5 hen5
      have hne := rng_own HV.out.rng HV.out.own
      have HRG5 := Lib.hid hrg5
      have HO5 := Lib.hid (HV.out.own.kept hg5 (.inr (fun e => hne.2 e.symm)))
      have HRL5 := Lib.hid (HV.out.rl.next hvx hlx)
      have HB5 := Lib.hid (HV.out.below.grown hg5 (by omega) (fun k e => by injection e with e; omega))
      have hs5a := Nat.le_of_eq hs5
      have hs5b := Nat.le_of_eq hs5.symm
      clear hxs hvx hlx hrg5 hg5 hne hs5
      go_wp2_with (at_builtin; refine wpList_append_own _ rfl (.tmp 27) (.tmp 31) 38 rfl w2.heap.size 45 i0 _ 2 32 Tryz.underlying38 hi hz0 hz1 hz2 rfl (by decide) _ l.length (fcs l) rfl (HO5.out.alloc _) ⟨w5.heap.size, 0, none⟩ 1 1 [.string x, .string st] rfl rfl ?c1 ?c2 (by unfold maxLen; omega) (by omega) ?c5 ?_)
      case c1 =>
        intro j u hu
        have hcell := blk2 (heap_alloc_new w5 (.cells #[.string x, .string st] 45))
        match j, hu with
        | 0, hu => injection hu with hu; subst hu; exact hcell.1.1
        | 1, hu => injection hu with hu; subst hu; exact hcell.1.2
      case c2 =>
        intro u hu
        simp at hu
        rcases hu with rfl | rfl <;> rfl
      case c5 => simp; omega
      intro v' w6 ho6 hg6 _
      have HO6 := Lib.hid ho6
      have HG6 := Lib.hid hg6
      clear ho6 hg6
      go_wp2_with fail
      go_roundw
      case rel =>
        have hne := rng_own (HRG5.out.alloc (.cells #[.string x, .string st] 45)) (HO5.out.alloc (.cells #[.string x, .string st] 45))
        refine ⟨l ++ [(x, st)], _, cnt5, (HRG5.out.alloc _).kept HG6.out hne.1 hne.2, ?_, HRL5.out, ?_, ?_, ?_⟩
        · rw [List.length_append, fcs_append]
          exact HO6.out
        · refine (HB5.out.alloc (by omega) _).grown HG6.out (by simp; omega) (fun k e => ?_)
          have := (HO5.out.lt k e).1
          omega
        · simp; omega
        · have := HG6.out.size
          simp at this
          omega
      case measure =>
        have hne := rng_own (HRG5.out.alloc (.cells #[.string x, .string st] 45)) (HO5.out.alloc (.cells #[.string x, .string st] 45))
        rw [((HRG5.out.alloc _).kept HG6.out hne.1 hne.2).left_eq, HV.out.rng.left_eq]
        exact hlt5

theorem refVars_any (t : Tm) (A : Option Addr) (c n₀ : Nat) (w : World) (hrep : TRep n₀ w t A) (hn : n₀ ≤ w.heap.size) (hok : okT maxLen t) (hf : formed t = true) :
    Calls Tryz.prog 18 #[TV t A c] w fun e w' => (∃ v, e = .returned v ∧ FLv w' v (varsT t []).1) ∧ Below w.heap.size w w' := by
  have hbx := heap_alloc_new w (.cells (tcells t A c) 28)
  have HB0 := Lib.hid ((Below.refl w.heap.size w).alloc (Nat.le_refl _) (.cells (tcells t A c) 28))
  obtain ⟨⟨x0, x1, x2⟩, _⟩ := blk3 hbx
  have hsize : t.size ≤ 1000 := fitsL_size (by unfold formed at hf; simp at hf; exact hf.1.1)
  have h2 : (varsT t []).2 = true := by rw [vars_agree (formed_okV hf)]; exact formed_agree hf
  have HC := Lib.hid (vars_any t A c n₀ [] (.slice none 0 0) (w.alloc (.cells (tcells t A c) 28)) (hrep.later (HB0.out.mono hn)) (by have := HB0.out.size; omega) hok (flv_nil _) (by simp; omega))
  have H2 := Lib.hid h2
  clear hbx hrep hok hf h2
  unfold TV
  unfold TV at HC
  go_enter Tryz.func18, Tryz.ntmps18
  go_wp2_with fail
  refine HC.out.mono ?_
  rintro e w1 ⟨⟨v1, rfl, hf1⟩, hb1⟩
  have HB1 := Lib.hid (HB0.out.trans (hb1.mono HB0.out.size))
  have HF1 := Lib.hid (hf1 H2.out)
  clear hb1 hf1 HC x0 x1 x2
  go_wp2_with fail
  go_ret
  exact ⟨⟨v1, rfl, HF1.out⟩, HB1.out⟩

set_option maxHeartbeats 1000000 in
theorem equalF_any (v v' : Value) (l : List FF) (w : World) (h1 : FLv w v l) (h2 : FLv w v' l) (hl : l.length ≤ 1000000) :
    Calls Tryz.prog 17 #[v, v'] w fun e w' => e = .returned (.bool true) ∧ ∃ q, w' = w.drewN q := by
  obtain ⟨A1, c1, rfl, _, _, h3⟩ := h1
  obtain ⟨A2, c2, rfl, _, _, h4⟩ := h2
  have H1 := Lib.hid h3
  have H2 := Lib.hid h4
  clear h3 h4
  go_enter Tryz.func17, Tryz.ntmps17
  go_wp2_with fail
  go_loopw [13] (fun i wr => ∃ k q : Nat, k ≤ l.length ∧ i = .int .i64 k ∧ wr = w.drewN q) (fun i _ => l.length - (intOf i).toNat)
  case atStart => exact ⟨0, 0, by omega, rfl, rfl⟩
  case round =>
    obtain ⟨k, q, hk, rfl, rfl⟩ := hrel
    by_cases hlt : k < l.length
    · obtain ⟨x, hx⟩ : ∃ x, l[k]? = some x := ⟨l[k]'hlt, List.getElem?_eq_getElem _⟩
      obtain ⟨b, off, rfl, hbl, hc⟩ := H1.out (by omega)
      obtain ⟨b', off', rfl, hbl', hc'⟩ := H2.out (by omega)
      obtain ⟨y0, y1⟩ := hc k x hx
      obtain ⟨z0, z1⟩ := hc' k x hx
      have hI : (k : Int) < (l.length : Int) := by omega
      clear hc hc' hx
      go_wp2_with fail
      go_quiet (fail)
      go_wp2_with fail
      go_roundw
      case rel => exact ⟨k + 1, _, by omega, by go_num, rfl⟩
      case measure => simp [intOf]; omega
    · have hI : ¬ (k : Int) < (l.length : Int) := by omega
      go_wp2_with fail
      go_ret
      exact ⟨rfl, _, rfl⟩
theorem equalFB_any (v v' : Value) (l : List FF) (w : World) (h1 : FLv w v l) (h2 : FLv w v' l) (hl : l.length ≤ 1000000) :
    Calls Tryz.prog 17 #[v, v'] w fun e w' => e = .returned (.bool true) ∧ Below w.heap.size w w' :=
  (equalF_any v v' l w h1 h2 hl).mono fun e w' ⟨he, q, hq⟩ => ⟨he, by rw [hq]; exact below_drewN (Below.refl _ _) q⟩
end Go.Proofs.YthbcfcbonmphfaaGreatDoor
/- The reference's Size, Depth. -/
namespace Go.Proofs.YthbcfcbonmphfaaGreatDoor
open Go.RowKit Go.Shelf
set_option maxRecDepth 100000

theorem sizes_next {L : List Tm} {k : Nat} {x : Tm} (hx : L[k]? = some x) : sizes (L.take (k + 1)) = sizes (L.take k) + x.size := by
  rw [List.take_add_one, hx, sizes_append]; simp [sizes]
theorem depths_snoc : ∀ (L : List Tm) (x : Tm), depths (L ++ [x]) = max (depths L) x.depth
  | [], x => by simp [depths]
  | y :: L, x => by simp [depths, depths_snoc L x, Nat.max_assoc]
theorem depths_next {L : List Tm} {k : Nat} {x : Tm} (hx : L[k]? = some x) : depths (L.take (k + 1)) = max (depths (L.take k)) x.depth := by
  rw [List.take_add_one, hx]; exact depths_snoc _ _
theorem depths_append : ∀ (a b : List Tm), depths (a ++ b) = max (depths a) (depths b)
  | [], b => by simp [depths]
  | x :: a, b => by simp [depths, depths_append a b, Nat.max_assoc]
theorem depths_split (L : List Tm) (k : Nat) : depths L = max (depths (L.take k)) (depths (L.drop k)) := by
  rw [← depths_append, List.take_append_drop]
/-- The box of a term. -/
def SzInv (t : Tm) (A : Option Addr) (c : Nat) (w wr : World) : Prop := wr.heap[w.heap.size]? = some (.cells (tcells t A c) 28 (0, 0)) ∧ Below w.heap.size w wr
theorem SzInv.next {t : Tm} {A : Option Addr} {c : Nat} {w wr w' : World} (h : SzInv t A c w wr) (hb : Below wr.heap.size wr w') : SzInv t A c w w' := ⟨cells_below h.1 hb, h.2.trans (hb.mono h.2.size)⟩

set_option maxHeartbeats 4000000 in
theorem refSize_any (t : Tm) : ∀ (A : Option Addr) (c n₀ : Nat) (w : World), TRep n₀ w t A → n₀ ≤ w.heap.size → okT maxLen t → t.size ≤ 100000 →
    Calls Tryz.prog 19 #[TV t A c] w fun e w' => e = .returned (.int .i64 (t.size : Nat)) ∧ Below w.heap.size w w' := by
  induction t using Tm.ind with
  | h nm st ks ih =>
    intro A c n₀ w hrep hn hok hsz
    rw [Tm.size] at hsz
    have hlk := hok.len
    dsimp only [Tm.nm_mk, Tm.st_mk, Tm.ks_mk] at hlk
    unfold maxLen at hlk
    have HIH := Lib.hid ih
    have HOK := Lib.hid hok
    have HREP := Lib.hid hrep
    have hbx := heap_alloc_new w (.cells #[.string nm, .string st, .slice A ks.length c] 28)
    have H0 : Hid (SzInv (.mk nm st ks) A c w (w.alloc (.cells #[.string nm, .string st, .slice A ks.length c] 28))) := Lib.hid ⟨hbx, (Below.refl w.heap.size w).alloc (Nat.le_refl _) _⟩
    obtain ⟨⟨x0, x1, x2⟩, _⟩ := blk3 hbx
    clear ih hok hrep hbx
    unfold TV
    dsimp only [Tm.nm_mk, Tm.st_mk, Tm.ks_mk]
    go_enter Tryz.func19, Tryz.ntmps19
    go_wp2_with fail
    clear x0 x1 x2
    go_loopw [4, 3] (fun y z wr => ∃ (k : Nat) (m : Int), y = .int .i64 k ∧ z = .int .i64 m ∧ k ≤ ks.length ∧ SzInv (.mk nm st ks) A c w wr ∧ m = 1 + ((sizes (ks.take k) : Nat) : Int)) (fun y _ _ => ks.length - (intOf y).toNat)
    case atStart => exact ⟨0, 1, rfl, rfl, Nat.zero_le _, H0.out, by simp [sizes]⟩
    case round =>
      clear H0
      obtain ⟨k, m, rfl, rfl, hk, hi, hm⟩ := hrel
      obtain ⟨⟨x0, x1, x2⟩, _⟩ := blk3 hi.1
      dsimp only [Tm.nm_mk, Tm.st_mk, Tm.ks_mk] at x0 x1 x2
      have HI := Lib.hid hi
      have hws := hi.2.size
      have htk := sizes_take ks k
      have hm1 : 1 ≤ m := by omega
      have hm2 : m ≤ 100000 := by omega
      have HM := Lib.hid hm
      clear hi hm
      by_cases hlt : k < ks.length
      · obtain ⟨x, hx⟩ : ∃ x, ks[k]? = some x := ⟨ks[k]'hlt, List.getElem?_eq_getElem _⟩
        have hmem : x ∈ ks := List.mem_of_getElem? hx
        obtain ⟨tb, tq, A', c', rfl, htb, u0, u1, u2, hrx⟩ := HREP.out.kid (i := k) hx
        have hbn := HI.out.2.mono hn
        replace u0 := (hbn.cell (p := ⟨tb, _, none⟩) htb).trans u0
        replace u1 := (hbn.cell (p := ⟨tb, _, none⟩) htb).trans u1
        replace u2 := (hbn.cell (p := ⟨tb, _, none⟩) htb).trans u2
        have hsx := (sizes_get ks k x hx).1
        have HNX := Lib.hid (sizes_next hx)
        have HC := Lib.hid (HIH.out x hmem A' c' n₀ wr (hrx.later hbn) (by omega) (HOK.out.kid hmem) (by omega))
        have hI : (k : Int) < (ks.length : Int) := by omega
        clear hx hrx hbn hmem
        unfold TV at HC
        go_wp2_with fail
        refine HC.out.mono ?_
        rintro e w5 ⟨rfl, hb5⟩
        have HB5 := Lib.hid hb5
        clear hb5 HC x0 x1 x2 u0 u1 u2
        go_wp2_with fail
        go_roundw
        case rel => exact ⟨k + 1, m + ((x.size : Nat) : Int), by go_num, rfl, by omega, HI.out.next HB5.out, by rw [HNX.out, HM.out]; omega⟩
        case measure => simp [intOf]; omega
      · have hI : ¬ (k : Int) < (ks.length : Int) := by omega
        have HK : Hid (ks.take k = ks) := Lib.hid (List.take_of_length_le (by omega))
        go_wp2_with fail
        go_ret
        exact ⟨ret_int (by rw [HM.out, HK.out, Tm.size]; omega), HI.out.2⟩

set_option maxHeartbeats 4000000 in
theorem refDepth_any (t : Tm) : ∀ (A : Option Addr) (c n₀ : Nat) (w : World), TRep n₀ w t A → n₀ ≤ w.heap.size → okT maxLen t → t.depth ≤ 100000 →
    Calls Tryz.prog 20 #[TV t A c] w fun e w' => e = .returned (.int .i64 (t.depth : Nat)) ∧ Below w.heap.size w w' := by
  induction t using Tm.ind with
  | h nm st ks ih =>
    intro A c n₀ w hrep hn hok hsz
    rw [Tm.depth] at hsz
    have hlk := hok.len
    dsimp only [Tm.nm_mk, Tm.st_mk, Tm.ks_mk] at hlk
    unfold maxLen at hlk
    have HIH := Lib.hid ih
    have HOK := Lib.hid hok
    have HREP := Lib.hid hrep
    have hbx := heap_alloc_new w (.cells #[.string nm, .string st, .slice A ks.length c] 28)
    have H0 : Hid (SzInv (.mk nm st ks) A c w (w.alloc (.cells #[.string nm, .string st, .slice A ks.length c] 28))) := Lib.hid ⟨hbx, (Below.refl w.heap.size w).alloc (Nat.le_refl _) _⟩
    obtain ⟨⟨x0, x1, x2⟩, _⟩ := blk3 hbx
    clear ih hok hrep hbx
    unfold TV
    dsimp only [Tm.nm_mk, Tm.st_mk, Tm.ks_mk]
    go_enter Tryz.func20, Tryz.ntmps20
    go_wp2_with fail
    clear x0 x1 x2
    go_loopw [4, 3] (fun y z wr => ∃ (k : Nat) (m : Int), y = .int .i64 k ∧ z = .int .i64 m ∧ k ≤ ks.length ∧ SzInv (.mk nm st ks) A c w wr ∧ m = ((depths (ks.take k) : Nat) : Int)) (fun y _ _ => ks.length - (intOf y).toNat)
    case atStart => exact ⟨0, 0, rfl, rfl, Nat.zero_le _, H0.out, by simp [depths]⟩
    case round =>
      clear H0
      obtain ⟨k, m, rfl, rfl, hk, hi, hm⟩ := hrel
      obtain ⟨⟨x0, x1, x2⟩, _⟩ := blk3 hi.1
      dsimp only [Tm.nm_mk, Tm.st_mk, Tm.ks_mk] at x0 x1 x2
      have HI := Lib.hid hi
      have hws := hi.2.size
      have htk : depths (ks.take k) ≤ depths ks := by
        have h1 := depths_split ks k
        omega
      have hm1 : 0 ≤ m := by omega
      have hm2 : m ≤ 100000 := by omega
      have HM := Lib.hid hm
      clear hi hm
      by_cases hlt : k < ks.length
      · obtain ⟨x, hx⟩ : ∃ x, ks[k]? = some x := ⟨ks[k]'hlt, List.getElem?_eq_getElem _⟩
        have hmem : x ∈ ks := List.mem_of_getElem? hx
        obtain ⟨tb, tq, A', c', rfl, htb, u0, u1, u2, hrx⟩ := HREP.out.kid (i := k) hx
        have hbn := HI.out.2.mono hn
        replace u0 := (hbn.cell (p := ⟨tb, _, none⟩) htb).trans u0
        replace u1 := (hbn.cell (p := ⟨tb, _, none⟩) htb).trans u1
        replace u2 := (hbn.cell (p := ⟨tb, _, none⟩) htb).trans u2
        have hsx := (sizes_get ks k x hx).2
        have HNX := Lib.hid (depths_next hx)
        have HC := Lib.hid (HIH.out x hmem A' c' n₀ wr (hrx.later hbn) (by omega) (HOK.out.kid hmem) (by omega))
        have hI : (k : Int) < (ks.length : Int) := by omega
        clear hx hrx hbn hmem
        unfold TV at HC
        go_wp2_with fail
        refine HC.out.mono ?_
        rintro e w5 ⟨rfl, hb5⟩
        have HB5 := Lib.hid hb5
        clear hb5 HC x0 x1 x2 u0 u1 u2
        by_cases hgt : m < ((x.depth : Nat) : Int)
        · have hG : decide (m < ((x.depth : Nat) : Int)) = true := decide_eq_true hgt
          go_wp2_with fail
          go_roundw
          case rel => exact ⟨k + 1, ((x.depth : Nat) : Int), by go_num, rfl, by omega, HI.out.next HB5.out, by rw [HNX.out]; have := HM.out; omega⟩
          case measure => simp [intOf]; omega
        · have hG : decide (m < ((x.depth : Nat) : Int)) = false := decide_eq_false hgt
          go_wp2_with fail
          go_roundw
          case rel => exact ⟨k + 1, m, by go_num, rfl, by omega, HI.out.next HB5.out, by rw [HNX.out]; have := HM.out; omega⟩
          case measure => simp [intOf]; omega
      · have hI : ¬ (k : Int) < (ks.length : Int) := by omega
        have HK : Hid (ks.take k = ks) := Lib.hid (List.take_of_length_le (by omega))
        go_wp2_with fail
        go_ret
        exact ⟨ret_int (by rw [HM.out, HK.out, Tm.depth]; omega), HI.out.2⟩
end Go.Proofs.YthbcfcbonmphfaaGreatDoor
namespace Go.Proofs.YthbcfcbonmphfaaGreatDoor
open Go.RowKit Go.WideShapes Go.ChangeShapes

section
variable {H : Type} {enc : TypeId × Value → H} {P : Program}
/-- The arguments read again behind a call that left what was there. -/
theorem trodAll_below (hl : laidOutB P = true) {W W' : World} (hb : Below W.heap.size W W') {sp : Nat → Bool} : ∀ {ts : List TypeId} {vs : List Value} {ds : List (DataW H)} {ps : List MemPlace},
    (∀ t ∈ ts, P.readableRec t = true ∧ t < P.types.size) → DataW.TrodAll enc P W 0 (fun _ => true) true ts vs ds ps → (∀ x ∈ ps, x.block < W.heap.size) → (∀ x ∈ ps, sp x.block = true) → DataW.TrodAll enc P W' 0 sp true ts vs ds ps
  | [], [], [], _, _, h, _, _ => h
  | [], _ :: _, _, _, _, h, _, _ => h.elim
  | [], [], _ :: _, _, _, h, _, _ => h.elim
  | _ :: _, [], _, _, _, h, _, _ => h.elim
  | _ :: _, _ :: _, [], _, _, h, _, _ => h.elim
  | t :: ts, v :: vs, d :: ds, ps, hr, h, hlt, hsp => by
    obtain ⟨p, q, h1, h2, rfl⟩ := h
    have ht := hr t (List.mem_cons_self ..)
    exact ⟨p, q, WideElems.Trod_stays hl ht.1 ht.2 h1 (fun x hx => hb.same (hlt x (List.mem_append_left _ hx))) (fun x hx => hsp x (List.mem_append_left _ hx)),
      trodAll_below hl hb (fun t ht => hr t (List.mem_cons_of_mem _ ht)) h2 (fun x hx => hlt x (List.mem_append_right _ hx)) (fun x hx => hsp x (List.mem_append_right _ hx)), rfl⟩

theorem law_post {f : Func} {s : ChangeSpec} {apart fresh handsOn : Bool} {W W' : World} {args : Array Value} {ds gs : List (DataW H)} {before : List MemPlace} {tb : TypeId}
    (hl : laidOutB P = true) (hr : ∀ t ∈ f.params.toList, P.readableRec t = true ∧ t < P.types.size) (hb4 : P.underlying tb = some .bool) (hres : f.resultTypes = #[tb]) (hvars : s.vars = [])
    (hs : s.fn H (ds ++ []) = { results := [.lit (.bool true)], args := ds })
    (hW : DataW.Whole enc P f.params.toList s.vars apart W args.toList ds gs before) (hb : Below W.heap.size W W') : s.post enc P f apart fresh handsOn false W args (.bool true) W' := by
  have hlt : ∀ p ∈ before, p.block < W.heap.size := fun p hp => hW.lt p hp
  obtain ⟨p, q, hA, hV, rfl, hz, hn⟩ := id hW
  rw [hvars] at hV
  obtain ⟨rfl, rfl⟩ : gs = [] ∧ q = [] := by
    cases gs with
    | nil => exact ⟨rfl, hV⟩
    | cons g r => exact absurd hV (by intro h; cases h)
  rw [List.append_nil] at hlt
  have hold : ∀ x ∈ p, (fun b => decide (b < W.heap.size)) x.block = true := fun x hx => by simpa using hlt x hx
  refine ⟨ds, [], p ++ [], [], p, [], hW, ?_, ?_, ?_, World.keptBut_mono (fun x hx => ⟨hx, ?_⟩) (hb.frame (· ∈ p ++ [])), fun h => by cases h⟩
  · rw [hs, hres]
    exact trodAll_mk1 (shut_bool hb4 true)
  · rw [hs]
    exact trodAll_below hl hb hr hA hlt hold
  · rw [hs, hvars]; rfl
  · rw [List.append_nil] at hx
    exact Or.inr (by simpa using hx)
end
end Go.Proofs.YthbcfcbonmphfaaGreatDoor
