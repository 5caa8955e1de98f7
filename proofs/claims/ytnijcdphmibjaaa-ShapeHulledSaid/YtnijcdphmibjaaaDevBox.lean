/- Parameters that are points lie in new blocks: what is known of them. -/
import Derived.Test.YtnijcdphmibjaaaDevLeaf
namespace Go.Proofs.Ytnijcdphmibjaaa
open Go.RowKit

/-- A point's box. -/
abbrev bx (x y : Int) : Obj := .cells #[.int .i64 x, .int .i64 y] 33

def Boxed2 (w W : World) (ax ay bx by' : Int) : Prop :=
  PtAt W w.heap.size ax ay ∧ PtAt W (w.heap.size + 1) bx by' ∧ Below w.heap.size w W ∧ W.heap.size = w.heap.size + 2
theorem boxed2 (w : World) (a1 a2 b1 b2 : Int) : Boxed2 w ((w.alloc (bx a1 a2)).alloc (bx b1 b2)) a1 a2 b1 b2 := by
  refine ⟨PtAt.new.alloc _ (by simp), ?_, (Below.refl _ _).alloc (Nat.le_refl _) _ |>.alloc (by simp) _, by simp⟩
  have := PtAt.new (w := w.alloc (bx a1 a2)) (x := b1) (y := b2) (t := 33)
  rwa [World.size_alloc] at this

def Boxed3 (w W : World) (ax ay bx by' cx cy : Int) : Prop :=
  PtAt W w.heap.size ax ay ∧ PtAt W (w.heap.size + 1) bx by' ∧ PtAt W (w.heap.size + 1 + 1) cx cy ∧ Below w.heap.size w W ∧ W.heap.size = w.heap.size + 3
theorem boxed3 (w : World) (a1 a2 b1 b2 c1 c2 : Int) : Boxed3 w (((w.alloc (bx a1 a2)).alloc (bx b1 b2)).alloc (bx c1 c2)) a1 a2 b1 b2 c1 c2 := by
  obtain ⟨h1, h2, h3, h4⟩ := boxed2 w a1 a2 b1 b2
  refine ⟨h1.alloc _ (by omega), h2.alloc _ (by omega), ?_, h3.alloc (by omega) _, by simp⟩
  have := PtAt.new (w := (w.alloc (bx a1 a2)).alloc (bx b1 b2)) (x := c1) (y := c2) (t := 33)
  rwa [World.size_alloc, World.size_alloc] at this

def Boxed4 (w W : World) (ax ay bx by' cx cy dx dy : Int) : Prop :=
  PtAt W w.heap.size ax ay ∧ PtAt W (w.heap.size + 1) bx by' ∧ PtAt W (w.heap.size + 1 + 1) cx cy ∧ PtAt W (w.heap.size + 1 + 1 + 1) dx dy ∧ Below w.heap.size w W ∧ W.heap.size = w.heap.size + 4
theorem boxed4 (w : World) (a1 a2 b1 b2 c1 c2 d1 d2 : Int) : Boxed4 w ((((w.alloc (bx a1 a2)).alloc (bx b1 b2)).alloc (bx c1 c2)).alloc (bx d1 d2)) a1 a2 b1 b2 c1 c2 d1 d2 := by
  obtain ⟨h1, h2, h3, h4, h5⟩ := boxed3 w a1 a2 b1 b2 c1 c2
  refine ⟨h1.alloc _ (by omega), h2.alloc _ (by omega), h3.alloc _ (by omega), ?_, h4.alloc (by omega) _, by simp⟩
  have := PtAt.new (w := ((w.alloc (bx a1 a2)).alloc (bx b1 b2)).alloc (bx c1 c2)) (x := d1) (y := d2) (t := 33)
  rwa [World.size_alloc, World.size_alloc, World.size_alloc] at this

end Go.Proofs.Ytnijcdphmibjaaa
