/- Bags: equal lists, sizes, a slice that repeats one number. -/
import Derived.Test.YtddejjilfmphbaaGreatDoorBagGcd
namespace Go.Proofs.YtddejjilfmphbaaGreatDoor
open Go.RowKit Go.Sort
attribute [local go_sem ↓] run_min_mn run_max_mx

theorem take_eq_succ {xs ys : List Int} {k : Nat} (h1 : k < xs.length) (h2 : k < ys.length) (h : xs.take k = ys.take k) (e : xs[k] = ys[k]) : xs.take (k + 1) = ys.take (k + 1) := by
  rw [List.take_succ_eq_append_getElem h1, List.take_succ_eq_append_getElem h2, h, e]

theorem inB_wrong (x : Int) : (!inB x 1 2000) = wrongB x := by unfold inB wrongB; rw [Bool.eq_iff_iff]; simp; try omega

end Go.Proofs.YtddejjilfmphbaaGreatDoor
