/- slices.Clone of points. -/
import Derived.Test.YtnijcdphmibjaaaDevChain
import Derived.Lib.SliceRun
namespace Go.Proofs.Ytnijcdphmibjaaa
open Go.RowKit Go.Sort
attribute [local go_sem ↓] run_min_mn run_max_mx

theorem clone_any (b off n c : Nat) (l : List Pt) (w : World) (hn : l.length = n) (hbig : n ≤ 100) (hin : PtsIn w b off l) (hb : b < w.heap.size) :
    Calls Try.prog 99 #[.slice (some ⟨b, off, none⟩) n c] w (RefMovedTo l w) := by
  have hnil := fun W => Lib.run_eql_slice_nil (P := Try.prog) W 22 33 (some ⟨b, off, none⟩) n c 0 0 Try.underlying22
  have hx : PtsAt (w.alloc (.cells #[] 33)) (some ⟨b, off, none⟩) l := fun _ => ⟨b, off, rfl, by simp; omega, hin.below ((Below.refl _ _).alloc (Nat.le_refl _) _) hb⟩
  have HX := Lib.hid hx
  have HN := Lib.hid hn
  clear hn hx hin
  go_enter Try.func99, Try.ntmps99
  go_wp2_with (at_builtin; refine wpList_papp rfl (.tmp 5) (.tmp 6) rfl w.heap.size (.slice (some ⟨w.heap.size, 0, none⟩) 0 0) [] l _ n c rfl rfl (PtsOwn.empty w) HN.out HX.out (by rw [HN.out]; simp; omega) (by simp) ?_; intro v1 w1 ho hg hat; have HO := Lib.hid ho; have HG := Lib.hid hg; clear ho hg hat)
  go_ret
  exact ⟨_, rfl, by simpa using HO.out, ((Below.refl _ _).alloc (Nat.le_refl _) _).grown HG.out (by simp) (by simp [Value.ownBlock])⟩
end Go.Proofs.Ytnijcdphmibjaaa
