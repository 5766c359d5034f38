/- The plain functions that say what the package term and its reference compute: no program text. -/
import Derived.Test.YthbcfcbonmphfaaDoorLexS
import Derived.Lib.Bytealg
namespace Go.Proofs.YthbcfcbonmphfaaDoor

/-- A term. -/
inductive Tm where
  | mk (nm st : ByteArray) (ks : List Tm)
namespace Tm
def nm : Tm → ByteArray | mk a _ _ => a
def st : Tm → ByteArray | mk _ a _ => a
def ks : Tm → List Tm | mk _ _ a => a
@[simp] theorem nm_mk (a b : ByteArray) (l : List Tm) : (mk a b l).nm = a := rfl
@[simp] theorem st_mk (a b : ByteArray) (l : List Tm) : (mk a b l).st = b := rfl
@[simp] theorem ks_mk (a b : ByteArray) (l : List Tm) : (mk a b l).ks = l := rfl
theorem eta (t : Tm) : t = mk t.nm t.st t.ks := by cases t; rfl
theorem ind {P : Tm → Prop} (h : ∀ nm st ks, (∀ k, k ∈ ks → P k) → P (.mk nm st ks)) : ∀ t, P t
  | .mk nm st ks => h nm st ks (fun k _ => ind h k)
termination_by t => SizeOf.sizeOf t
decreasing_by
  have := List.sizeOf_lt_of_mem ‹_›
  simp
  omega
end Tm

mutual
def Tm.size : Tm → Nat
  | .mk _ _ ks => 1 + sizes ks
def sizes : List Tm → Nat
  | [] => 0
  | k :: ks => k.size + sizes ks
end
mutual
def Tm.depth : Tm → Nat
  | .mk _ _ ks => depths ks + 1
def depths : List Tm → Nat
  | [] => 0
  | k :: ks => max k.depth (depths ks)
end
mutual
/-- The nodes in preorder, each with its depth. -/
def Tm.pre : Nat → Tm → List (Nat × Tm)
  | d, .mk nm st ks => (d, .mk nm st ks) :: pres (d + 1) ks
def pres : Nat → List Tm → List (Nat × Tm)
  | _, [] => []
  | d, k :: ks => k.pre d ++ pres d ks
end
theorem pres_append : ∀ (d : Nat) (a b : List Tm), pres d (a ++ b) = pres d a ++ pres d b
  | _, [], _ => by simp [pres]
  | d, x :: a, b => by simp [pres, pres_append d a b]
theorem sizes_append : ∀ (a b : List Tm), sizes (a ++ b) = sizes a + sizes b
  | [], _ => by simp [sizes]
  | x :: a, b => by simp [sizes, sizes_append a b]; omega
theorem sizes_take (ks : List Tm) (k : Nat) : sizes (ks.take k) ≤ sizes ks := by
  have := sizes_append (ks.take k) (ks.drop k)
  rw [List.take_append_drop] at this
  omega
theorem pres_at (ks : List Tm) (i : Nat) (k : Tm) (h : ks[i]? = some k) (d : Nat) : pres d ks = pres d (ks.take i) ++ (k.pre d ++ pres d (ks.drop (i + 1))) := by
  obtain ⟨hlt, e⟩ := List.getElem?_eq_some_iff.1 h
  conv => lhs; rw [← List.take_append_drop i ks, pres_append, List.drop_eq_getElem_cons hlt, e, pres]
mutual
theorem Tm.pre_length : ∀ (t : Tm) (d : Nat), (t.pre d).length = t.size
  | .mk _ _ ks, d => by simp [Tm.pre, Tm.size, pres_length ks (d + 1)]; omega
theorem pres_length : ∀ (ks : List Tm) (d : Nat), (pres d ks).length = sizes ks
  | [], _ => rfl
  | k :: ks, d => by simp [pres, sizes, Tm.pre_length k d, pres_length ks d]
end
mutual
/-- The greatest depth. -/
theorem Tm.pre_depth : ∀ (t : Tm) (d : Nat), ∀ x ∈ t.pre d, x.1 + 1 ≤ d + t.depth ∧ d ≤ x.1
  | .mk nm st ks, d, x, hx => by
    simp only [Tm.pre, List.mem_cons] at hx
    rcases hx with rfl | hx
    · simp [Tm.depth]
    · have := pres_depth ks (d + 1) x hx
      simp [Tm.depth]; omega
theorem pres_depth : ∀ (ks : List Tm) (d : Nat), ∀ x ∈ pres d ks, x.1 + 1 ≤ d + depths ks ∧ d ≤ x.1
  | [], _, x, hx => by simp [pres] at hx
  | k :: ks, d, x, hx => by
    simp only [pres, List.mem_append] at hx
    simp only [depths]
    rcases hx with hx | hx
    · have := Tm.pre_depth k d x hx; omega
    · have := pres_depth ks d x hx; omega
end
mutual
theorem Tm.pre_deepest : ∀ (t : Tm) (d : Nat), ∃ x ∈ t.pre d, x.1 + 1 = d + t.depth
  | .mk nm st ks, d => by
    simp only [Tm.pre, Tm.depth]
    by_cases h : ks = []
    · subst h; exact ⟨_, List.mem_cons_self .., by simp [depths]⟩
    · obtain ⟨x, hx, he⟩ := pres_deepest ks (d + 1) h
      exact ⟨x, List.mem_cons_of_mem _ hx, by omega⟩
theorem pres_deepest : ∀ (ks : List Tm) (d : Nat), ks ≠ [] → ∃ x ∈ pres d ks, x.1 + 1 = d + depths ks
  | [], _, h => absurd rfl h
  | k :: ks, d, _ => by
    simp only [pres, depths, List.mem_append]
    obtain ⟨x, hx, he⟩ := Tm.pre_deepest k d
    by_cases h : ks = []
    · subst h; exact ⟨x, .inl hx, by simp [depths]; omega⟩
    · obtain ⟨y, hy, he'⟩ := pres_deepest ks d h
      rcases Nat.le_total k.depth (depths ks) with hl | hl
      · exact ⟨y, .inr hy, by rw [Nat.max_eq_right hl]; exact he'⟩
      · exact ⟨x, .inl hx, by rw [Nat.max_eq_left hl]; exact he⟩
end
mutual
theorem Tm.size_pos : ∀ t : Tm, 1 ≤ t.size
  | .mk _ _ _ => by simp [Tm.size]
end
mutual
theorem Tm.depth_le : ∀ t : Tm, 1 ≤ t.depth ∧ t.depth ≤ t.size
  | .mk _ _ ks => by have := depths_le ks; simp [Tm.depth, Tm.size]; omega
theorem depths_le : ∀ ks : List Tm, depths ks ≤ sizes ks
  | [] => Nat.le_refl _
  | k :: ks => by have := Tm.depth_le k; have := depths_le ks; simp [depths, sizes]; omega
end
theorem sizes_get : ∀ (ks : List Tm) (i : Nat) (k : Tm), ks[i]? = some k → k.size ≤ sizes ks ∧ k.depth ≤ depths ks
  | [], _, _, h => by simp at h
  | x :: ks, 0, k, h => by
    have e : x = k := by simpa using h
    subst e
    simp [sizes, depths]; omega
  | x :: ks, i + 1, k, h => by
    have := sizes_get ks i k (by simpa using h)
    simp [sizes, depths]; omega
theorem len_sizes : ∀ ks : List Tm, ks.length ≤ sizes ks
  | [] => Nat.le_refl _
  | k :: ks => by have := len_sizes ks; have := Tm.size_pos k; simp [sizes]; omega

/-- All names and lists are of lengths that a string or a slice may have. -/
inductive okT (m : Nat) : Tm → Prop
  | mk (nm st : ByteArray) (ks : List Tm) (h1 : nm.size ≤ m) (h2 : st.size ≤ m) (h3 : ks.length ≤ m) (h4 : ∀ k, k ∈ ks → okT m k) : okT m (.mk nm st ks)
theorem okT.nm {m : Nat} {t : Tm} (h : okT m t) : t.nm.size ≤ m := by cases h; assumption
theorem okT.st {m : Nat} {t : Tm} (h : okT m t) : t.st.size ≤ m := by cases h; assumption
theorem okT.len {m : Nat} {t : Tm} (h : okT m t) : t.ks.length ≤ m := by cases h; assumption
theorem okT.kid {m : Nat} {t k : Tm} (h : okT m t) (hk : k ∈ t.ks) : okT m k := by
  cases h with
  | mk _ _ _ _ _ _ h4 => exact h4 k hk
theorem okT.mono {m m' : Nat} (hm : m ≤ m') {t : Tm} (h : okT m t) : okT m' t := by
  induction h with
  | mk nm st ks h1 h2 h3 _ ih => exact .mk nm st ks (by omega) (by omega) (by omega) ih
mutual
theorem okT.pre {m : Nat} : ∀ (t : Tm) (d : Nat), okT m t → ∀ x ∈ t.pre d, okT m x.2
  | .mk nm st ks, d, h, x, hx => by
    simp only [Tm.pre, List.mem_cons] at hx
    rcases hx with rfl | hx
    · exact h
    · exact okT.pres ks (d + 1) (fun k hk => h.kid hk) x hx
theorem okT.pres {m : Nat} : ∀ (ks : List Tm) (d : Nat), (∀ k ∈ ks, okT m k) → ∀ x ∈ pres d ks, okT m x.2
  | [], _, _, x, hx => by simp [Go.Proofs.YthbcfcbonmphfaaDoor.pres] at hx
  | k :: ks, d, h, x, hx => by
    simp only [Go.Proofs.YthbcfcbonmphfaaDoor.pres, List.mem_append] at hx
    rcases hx with hx | hx
    · exact okT.pre k d (h k (by simp)) x hx
    · exact okT.pres ks d (fun k hk => h k (by simp [hk])) x hx
end

/-- The greatest depth among some nodes. -/
def maxd (l : List (Nat × Tm)) : Nat := l.foldl (fun m x => max m x.1) 0
theorem maxd_snoc (l : List (Nat × Tm)) (x : Nat × Tm) : maxd (l ++ [x]) = max (maxd l) x.1 := by unfold maxd; rw [List.foldl_append]; rfl
theorem maxd_is (l : List (Nat × Tm)) (m : Nat) (h : ∀ x, x ∈ l → x.1 ≤ m) (h' : ∃ x, x ∈ l ∧ x.1 = m) : maxd l = m := by
  have key : ∀ (l : List (Nat × Tm)) (a : Nat), (∀ x, x ∈ l → x.1 ≤ m) → a ≤ m → (a = m ∨ ∃ x, x ∈ l ∧ x.1 = m) → l.foldl (fun m x => max m x.1) a = m := by
    intro l
    induction l with
    | nil => intro a _ _ h; rcases h with h | ⟨x, hx, _⟩
             · exact h
             · cases hx
    | cons y l ih =>
      intro a h1 h2 h3
      rw [List.foldl_cons]
      refine ih _ (fun x hx => h1 x (by simp [hx])) (by have := h1 y (by simp); omega) ?_
      rcases h3 with h3 | ⟨x, hx, e⟩
      · left; have := h1 y (by simp); omega
      · rcases List.mem_cons.1 hx with rfl | hx
        · left; omega
        · exact .inr ⟨x, hx, e⟩
  exact key l 0 h (Nat.zero_le _) (.inr h')
theorem maxd_pre (t : Tm) : maxd (t.pre 1) = t.depth :=
  maxd_is _ _ (fun x hx => by have := (Tm.pre_depth t 1 x hx).1; omega) (by
    obtain ⟨x, hx, e⟩ := Tm.pre_deepest t 1
    exact ⟨x, hx, by omega⟩)

/-! ### what the functions of term say -/
def isV (t : Tm) : Bool := !t.st.toList.isEmpty
def namedT (t : Tm) : Bool := if isV t && (!isName t.st.toList || decide (0 < t.ks.length)) then false else isName t.nm.toList
def fitX (x : Nat × Tm) : Bool := decide (x.1 ≤ 60) && decide (x.2.ks.length ≤ 6)
def fitsL (l : List (Nat × Tm)) : Bool := decide (l.length ≤ 1000) && l.all fitX
def agreeL (l : List (Nat × Tm)) : Bool := l.all fun x => l.all fun y => !(isV x.2 && isV y.2 && decide (x.2.nm = y.2.nm)) || decide (x.2.st = y.2.st)
theorem agreeL_iff (l : List (Nat × Tm)) : agreeL l = true ↔ ∀ x ∈ l, ∀ y ∈ l, isV x.2 = true → isV y.2 = true → x.2.nm = y.2.nm → x.2.st = y.2.st := by
  unfold agreeL
  simp only [List.all_eq_true]
  refine ⟨fun h x hx y hy h1 h2 h3 => ?_, fun h x hx y hy => ?_⟩
  · have := h x hx y hy
    simpa [h1, h2, h3] using this
  · have := h x hx y hy
    cases h1 : isV x.2 <;> cases h2 : isV y.2 <;> simp
    by_cases h3 : x.2.nm = y.2.nm
    · right; exact this h1 h2 h3
    · left; exact h3
theorem agreeL_bad {l p : List (Nat × Tm)} (hp : ∀ x, x ∈ p → x ∈ l) {x y : Nat × Tm} (hx : x ∈ p) (hy : y ∈ p) (h1 : isV x.2 = true) (h2 : isV y.2 = true) (h3 : x.2.nm = y.2.nm) (h4 : x.2.st ≠ y.2.st) : agreeL l = false := by
  rw [Bool.eq_false_iff]
  intro h
  exact h4 ((agreeL_iff l).1 h x (hp x hx) y (hp y hy) h1 h2 h3)
def formed (t : Tm) : Bool := fitsL (t.pre 1) && (t.pre 1).all (fun x => namedT x.2) && agreeL (t.pre 1)

/-- The order of terms, as term.compare has it. -/
def bcmp (a b : ByteArray) : Int := Lib.compareBytes a.data.toList b.data.toList
def ncmp (a b : Nat) : Int := if a < b then -1 else if b < a then 1 else 0
mutual
def tcmp : Tm → Tm → Int
  | .mk n s ks, b =>
    if !s.toList.isEmpty && isV b then (if bcmp n b.nm ≠ 0 then bcmp n b.nm else bcmp s b.st)
    else if !s.toList.isEmpty then -1
    else if isV b then 1
    else if bcmp n b.nm ≠ 0 then bcmp n b.nm
    else if ncmp ks.length b.ks.length ≠ 0 then ncmp ks.length b.ks.length
    else tcmps ks b.ks
def tcmps : List Tm → List Tm → Int
  | [], _ => 0
  | _ :: _, [] => 0
  | k :: ks, l :: ls => if tcmp k l ≠ 0 then tcmp k l else tcmps ks ls
end
/-- The order of terms, as the reference has it. -/
def border (a b : ByteArray) : Int := if Go.Op.bytesLess a.toList b.toList then -1 else if Go.Op.bytesLess b.toList a.toList then 1 else 0
mutual
def rcmp : Tm → Tm → Int
  | .mk n s ks, b =>
    if (!s.toList.isEmpty) ≠ isV b then (if !s.toList.isEmpty then -1 else 1)
    else if bcmp n b.nm ≠ 0 then bcmp n b.nm
    else if bcmp s b.st ≠ 0 then bcmp s b.st
    else if ncmp ks.length b.ks.length ≠ 0 then ncmp ks.length b.ks.length
    else rcmps ks b.ks
def rcmps : List Tm → List Tm → Int
  | [], _ => 0
  | _ :: _, [] => 0
  | k :: ks, l :: ls => if rcmp k l ≠ 0 then rcmp k l else rcmps ks ls
end
end Go.Proofs.YthbcfcbonmphfaaDoor
