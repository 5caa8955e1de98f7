/- Bags: slices.Backward, a range over a function. -/
import Derived.RangeFuncNested
import Derived.RangeFuncBound
import Derived.RangeFuncCalls
import Derived.RangeFuncLeaves
import Derived.RangeFuncBox
import Derived.Shelf.Abstract
import Derived.Shelf.RegionOpen
import Derived.WalkKit
import Derived.OwnWalkIn
import Derived.TacticsInMore
import Derived.LoopNIn
import Derived.LoopIn
import Derived.Test.YthboolnacmpmlaaGreatDoorBagAdmit
namespace Go.Proofs.YthboolnacmpmlaaGreatDoor
open Go.RowKit Go.Shelf
attribute [local go_sem] Oper.semAt_some

/-- What comes in the round x: the last index first. -/
def enc (len : Nat) (xs : List Int) (x : Fin len) : Array Value := #[Value.int .i64 ((len - 1 - x.val : Nat) : Int), Value.int .i64 (xs[len - 1 - x.val]?.getD 0)]
/-- The first rounds, in order. -/
def inOrder {len : Nat} (pre : List (Fin len)) (k : Nat) : Prop := pre.map Fin.val = List.range k
theorem inOrder.length {len : Nat} {pre : List (Fin len)} {k : Nat} (h : inOrder pre k) : pre.length = k := by have := congrArg List.length h; simpa using this
theorem inOrder.snoc {len : Nat} {pre : List (Fin len)} {k : Nat} (h : inOrder pre k) (hk : k < len) : inOrder (pre ++ [⟨k, hk⟩]) (k + 1) := by
  unfold inOrder at *
  rw [List.map_append, h, List.range_succ]; rfl

/-- What a round keeps: the box of the slice, and its cells. -/
def KeepB (Bs n0 : Nat) (W W' : World) : Prop := (∀ v, W.cell? ⟨Bs, 0, none⟩ = some v → W'.cell? ⟨Bs, 0, none⟩ = some v) ∧ Below n0 W W'
theorem KeepB.refl (Bs n0 : Nat) (W : World) : KeepB Bs n0 W W := ⟨fun _ h => h, Below.refl _ _⟩
theorem KeepB.trans {Bs n0 : Nat} {A B C : World} (h : KeepB Bs n0 A B) (k : KeepB Bs n0 B C) : KeepB Bs n0 A C := ⟨fun v hv => k.1 v (h.1 v hv), h.2.trans k.2⟩

set_option maxRecDepth 100000 in
set_option maxHeartbeats 2000000 in
theorem back1_in (F : Fence) (n : Nat) (hF : F.fn 35) (hro : F.round = none) (hn : 1 ≤ n) (l Bs n0 : Nat) (A : Option Addr) (len cap : Nat) (xs : List Int) (hbig : len ≤ 1000) (J Jx : List (Fin len) → World → Prop)
    (hY : ∀ pre (x : Fin len) W, J pre W → pre.length < len → YieldAt F (n - 1) Tryz.prog l (enc len xs x) W fun e W' =>
      (e = .returned (.bool true) ∧ J (pre ++ [x]) W' ∧ KeepB Bs n0 W W') ∨ (e = .returned (.bool false) ∧ Jx (pre ++ [x]) W'))
    (W : World) (hBs : W.cell? ⟨Bs, 0, none⟩ = some (.slice A len cap)) (hc : ∀ W', Below n0 W W' → ∀ j, j < len → ∃ b off, A = some ⟨b, off, none⟩ ∧ W'.cell? ⟨b, off + j, none⟩ = some (.int .i64 (xs[j]?.getD 0))) (h0 : J [] W) :
    CallsIn F n Tryz.prog 35 #[.func (.yield l) #[] #[], .pointer (some ⟨Bs, 0, none⟩)] W fun e W' => (∃ v, e = .returned v) ∧
      ((∃ ys : List (Fin len), inOrder ys len ∧ J ys W') ∨ (∃ pre : List (Fin len), True ∧ Jx pre W')) := by
  have HC := Lib.hid hc
  clear hc
  refine callsIn_of_wp Tryz.func35 rfl hF ?_ hro
  simp only [Tryz.ntmps35, List.size_toArray, List.length_cons, List.length_nil, Nat.reduceAdd, Nat.reduceSub, Array.replicate_succ, Array.replicate_zero, List.push_toArray, List.append_toArray, List.nil_append, List.cons_append]
  gi_wp2
  gi_loopw [3] (fun i wr => ∃ (k : Nat) (pre : List (Fin len)), k ≤ len ∧ inOrder pre k ∧ i = .int .i64 ((len : Int) - 1 - k) ∧ J pre wr ∧ KeepB Bs n0 W wr)
    (fun i _ => (intOf i + 1).toNat)
  case atStart => exact ⟨0, [], Nat.zero_le _, rfl, by simp, h0, KeepB.refl _ _ _⟩
  case round =>
    obtain ⟨k, pre, hk, ho, rfl, hJs, hnx⟩ := hrel
    have HO := Lib.hid ho
    clear ho
    have hbx := hnx.1 _ hBs
    by_cases hlt : k < len
    · obtain ⟨b, off, rfl, hcx⟩ := HC.out wr hnx.2 (len - 1 - k) (by omega)
      obtain ⟨fn, tmps, assign, body, hy, hR⟩ := hY pre ⟨k, hlt⟩ wr hJs (by rw [HO.out.length]; exact hlt)
      simp only [enc] at hy
      have hidx : ((len : Int) - 1 - k) = ((len - 1 - k : Nat) : Int) := by omega
      generalize xs[len - 1 - k]?.getD 0 = z at *
      generalize hq : len - 1 - k = q at *
      have HQ := Lib.hid hq
      clear hq
      gi_wp2
      refine hR.mono ?_
      rintro e W3 (⟨rfl, hJ3, hk3⟩ | ⟨rfl, hJx3⟩)
      · gi_wp2
        go_roundw
        case rel => exact ⟨k + 1, _, by omega, HO.out.snoc hlt, by rw [← hidx]; congr 1; omega, hJ3, hnx.trans hk3⟩
        case measure => simp [intOf]; omega
      · gi_wp2
        refine bodyPost_ret (results_none rfl _ _ _) rfl ?_
        exact ⟨⟨_, rfl⟩, .inr ⟨_, trivial, hJx3⟩⟩
    · obtain rfl : k = len := by omega
      gi_wp2
      go_end0
      exact ⟨⟨_, rfl⟩, .inl ⟨_, HO.out, hJs⟩⟩

/-- slices.Backward: the slice is boxed; the function value captures the box. -/
theorem backward_in (F : Fence) (n : Nat) (hF : F.fn 23) (hro : F.round = none) (a : Option Addr) (len cap : Nat) (w : World) :
    CallsIn F n Tryz.prog 23 #[.slice a len cap] w fun e w' => e = .returned (.func (.func 35) #[] #[.pointer (some ⟨w.heap.size, 0, none⟩)]) ∧ w' = w.alloc (.cells #[.slice a len cap] 22) := by
  refine callsIn_of_wp Tryz.func23 rfl hF ?_ hro
  simp only [Tryz.ntmps23, List.size_toArray, List.length_cons, List.length_nil, Nat.reduceAdd, Nat.reduceSub, Array.replicate_succ, Array.replicate_zero, List.push_toArray, List.append_toArray, List.nil_append, List.cons_append]
  gi_wp2
  go_ret
  exact ⟨rfl, rfl⟩

/-- .. and it hands over the elements from the last one on, or some of them. -/
theorem backward_stops (F : Fence) (n : Nat) (hF : F.fn 35) (hro : F.round = none) (hn : 1 ≤ n) (Bs n0 : Nat) (A : Option Addr) (len cap : Nat) (xs : List Int) (hbig : len ≤ 1000) (w : World) (hlt : Bs < w.heap.size) (hn0 : n0 ≤ w.heap.size)
    (hBs : w.cell? ⟨Bs, 0, none⟩ = some (.slice A len cap)) (hc : ∀ W', Below n0 w W' → ∀ j, j < len → ∃ b off, A = some ⟨b, off, none⟩ ∧ W'.cell? ⟨b, off + j, none⟩ = some (.int .i64 (xs[j]?.getD 0))) :
    SeqStopsK F n Tryz.prog 35 #[.pointer (some ⟨Bs, 0, none⟩)] (enc len xs) (KeepB Bs n0) (fun ys => inOrder ys len) (fun _ => True) len w := fun l J Jx W hW _ _ hY h0 =>
  back1_in F n hF hro hn l Bs n0 A len cap xs hbig J Jx hY W ((hW.cell (p := ⟨Bs, 0, none⟩) hlt).trans hBs) (fun W' h => hc W' ((hW.mono hn0).trans h)) h0

theorem KeepB.putObj {Bs n0 : Nat} {W : World} {l : Nat} {o o' : Obj} (h1 : Bs < l) (h2 : n0 ≤ l) (hl : W.heap[l]? = some o) : KeepB Bs n0 W (W.putObj l o') := by
  have hg := grownBy_putObj' W l o'
  have hlt : l < W.heap.size := (Array.getElem?_eq_some_iff.1 hl).1
  refine ⟨fun v hv => ?_, hg.os, hg.tape, hg.output, hg.size, fun k hk => hg.block k (by omega) (fun e => by cases e; omega)⟩
  exact hg.cell hv (fun e => by simp at e; omega)

end Go.Proofs.YthboolnacmpmlaaGreatDoor
