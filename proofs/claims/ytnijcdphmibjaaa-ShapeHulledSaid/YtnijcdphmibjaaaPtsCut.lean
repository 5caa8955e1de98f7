/- The law's cut of a slice of points. -/
import Derived.Test.YtnijcdphmibjaaaPtsOwn
namespace Go.Proofs.Ytnijcdphmibjaaa
open Go.RowKit Go.Sort
attribute [local go_sem ↓] run_min_mn run_max_mx

theorem mn_nat (a b : Nat) : mn (a : Int) b = ((min a b : Nat) : Int) := by unfold mn; split <;> omega

/-- How many points are left. -/
def cutN (n k : Nat) : Nat := if 32 < n then 33 else k
/-- What the cut hands back. -/
def PCutTo (w : World) (xs : List Pt) (e : Ending) (w' : World) : Prop := ∃ v, e = .returned v ∧ PtsOwn w' w.heap.size v xs ∧ Below w.heap.size w w'

set_option maxHeartbeats 400000 in
set_option maxRecDepth 100000 in
theorem pcut_any (A : Option Addr) (n c k : Nat) (xs : List Pt) (w : World) (hn : xs.length = n) (hc : n ≤ c) (hbig : n ≤ 9223372036854775807) (hk : k ≤ 1000) (hx : PtsAt w A xs) :
    Calls Try.prog 19 #[.slice A n c, .int .i64 k] w (PCutTo w (xs.take (cutN n k))) := by
  have hE : ∀ q, (xs.take q).length = min n q := fun q => by rw [List.length_take, hn, Nat.min_comm]
  have hX : ∀ q, PtsAt (w.alloc (.cells #[] 33)) A (xs.take q) := fun q => (hx.take q).below ((Below.refl _ _).alloc (Nat.le_refl _) _)
  by_cases hg : 32 < n
  · have hq : cutN n k = 33 := by unfold cutN; rw [if_pos hg]
    rw [hq]
    have hmn := mn_nat n 33
    have hl := hE 33
    have hx' := hX 33
    rw [show min n 33 = 33 by omega] at hmn hl
    have HL := Lib.hid hl
    have HX := Lib.hid hx'
    have hmn' : mn (n : Int) 33 = 33 := hmn
    clear hx hx' hn hl hE hX hmn hq
    go_enter Try.func19, Try.ntmps19
    go_wp2_with (at_builtin; refine wpList_papp rfl _ _ rfl w.heap.size (.slice (some ⟨w.heap.size, 0, none⟩) 0 0) [] (xs.take 33) _ 33 c rfl rfl (PtsOwn.empty w) HL.out HX.out (by rw [HL.out]; simp) (by simp) ?_; intro v1 w1 ho hg hat; have HO := Lib.hid ho; have HG := Lib.hid hg; clear ho hg hat)
    go_ret
    exact ⟨_, rfl, by simpa using HO.out, ((Below.refl _ _).alloc (Nat.le_refl _) _).grown HG.out (by simp) (by simp [Value.ownBlock])⟩
  · have hq : cutN n k = k := by unfold cutN; rw [if_neg hg]
    rw [hq]
    have hmn := mn_nat n k
    have hl := hE k
    have hx' := hX k
    generalize hm : min n k = m at *
    have hmc : m ≤ c := by omega
    have hm1 : m ≤ 1000 := by omega
    have HL := Lib.hid hl
    have HX := Lib.hid hx'
    clear hx hx' hn hl hm hE hX hq
    go_enter Try.func19, Try.ntmps19
    go_wp2_with (at_builtin; refine wpList_papp rfl _ _ rfl w.heap.size (.slice (some ⟨w.heap.size, 0, none⟩) 0 0) [] (xs.take k) _ m c rfl rfl (PtsOwn.empty w) HL.out HX.out (by rw [HL.out]; simp; omega) (by simp) ?_; intro v1 w1 ho hg hat; have HO := Lib.hid ho; have HG := Lib.hid hg; clear ho hg hat)
    go_ret
    exact ⟨_, rfl, by simpa using HO.out, ((Below.refl _ _).alloc (Nat.le_refl _) _).grown HG.out (by simp) (by simp [Value.ownBlock])⟩

end Go.Proofs.Ytnijcdphmibjaaa
