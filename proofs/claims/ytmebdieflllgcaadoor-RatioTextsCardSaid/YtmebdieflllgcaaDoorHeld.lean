/- What a law keeps across its calls: blocks that are known whole, and what lay there before. -/
import Derived.Test.YtmebdieflllgcaaDoorBase
namespace Go.Proofs.YtmebdieflllgcaaDoor
open Go.RowKit

/-- Below w's blocks nothing has turned, and the listed blocks are known. -/
structure Hd (w w' : World) (l : List (Nat × Obj)) : Prop where
  below : Below w.heap.size w w'
  all : ∀ x ∈ l, w'.heap[x.1]? = some x.2
section
variable {w w1 w2 : World} {l : List (Nat × Obj)} {b : Nat} {o : Obj}
theorem Hd.nil (w : World) : Hd w w [] := ⟨Below.refl _ _, fun _ h => by cases h⟩
theorem Hd.on (h : Hd w w1 l) (hb : Below w1.heap.size w1 w2) : Hd w w2 l := ⟨h.below.trans (hb.mono h.below.size), fun x hx => bdAt (h.all x hx) hb⟩
theorem Hd.add (h : Hd w w1 l) (o : Obj) : Hd w (w1.alloc o) ((w1.heap.size, o) :: l) :=
  ⟨h.below.alloc h.below.size o, fun x hx => by
    rcases List.mem_cons.1 hx with rfl | hx
    · exact bdNew w1 o
    · exact bdOld (h.all x hx)⟩
theorem Hd.dr (h : Hd w w1 l) : Hd w w1.drew l := ⟨h.below.drew, h.all⟩
theorem Hd.dN (h : Hd w w1 l) (k : Nat) : Hd w (w1.drewN k) l := ⟨bdN h.below k, h.all⟩
theorem Hd.h0 {x0 : Nat × Obj} (h : Hd w w1 (x0 :: l)) : w1.heap[x0.1]? = some x0.2 := h.all _ (.head _)
theorem Hd.tl {x0 : Nat × Obj} (h : Hd w w1 (x0 :: l)) : Hd w w1 l := ⟨h.below, fun x hx => h.all x (.tail _ hx)⟩
end
end Go.Proofs.YtmebdieflllgcaaDoor
