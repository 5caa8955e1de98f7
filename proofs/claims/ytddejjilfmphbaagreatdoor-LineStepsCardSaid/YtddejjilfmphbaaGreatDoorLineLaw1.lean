/- The laws' helpers bad, cut, fold; what Run's list is. -/
import Derived.Test.YtddejjilfmphbaaGreatDoorRefRun
import Derived.Test.YtddejjilfmphbaaGreatDoorBagCut
namespace Go.Proofs.YtddejjilfmphbaaGreatDoor
open Go.RowKit Go.Sort
attribute [local go_sem ↓] run_min_mn run_max_mx

theorem graphB_nodes {gn : Int} {l : List Arc} (h : graphB gn l = true) : (1 ≤ gn ∧ gn ≤ 16 ∧ l.length ≤ 256) ∧ NodesOk gn.toNat l := by
  unfold graphB at h
  simp only [Bool.and_eq_true, decide_eq_true_eq, Bool.not_eq_true'] at h
  refine ⟨h.1, fun a ha => ?_⟩
  have h2 := h.2
  unfold anyWrong at h2
  rw [List.any_eq_false] at h2
  have h3 := h2 a ha
  unfold wrongA nodeB at h3
  simp only [Bool.not_eq_true, Bool.or_eq_false_iff, Bool.not_eq_false', decide_eq_true_eq, decide_eq_false_iff_not] at h3
  have := h.1
  omega
theorem enc_list {m : Nat} {x : Nat → Option Int} (h : Full m x) : ((List.range m).map fun i => MP.enc (x i)) = listOf m x := by
  unfold listOf
  refine List.map_congr_left fun i hi => ?_
  have := h.1 i (List.mem_range.1 hi)
  cases hx : x i with
  | none => rw [hx] at this; cases this
  | some v => rfl

set_option maxHeartbeats 1000000 in
theorem bad_any (gn : Int) (A : Option Addr) (n c : Nat) (l : List Arc) (w : World) (hn : l.length = n) (hbig : n ≤ 1000000) (hA : ArcsAt w A l) :
    Calls Tryz.prog 8 #[.agg #[.int .i64 gn, .slice A n c]] w fun e w' => e = .returned (.int .i64 (if graphB gn l = true then 0 else 1)) ∧ Below w.heap.size w w' := by
  have hba : Below w.heap.size w (w.alloc (.cells #[.int .i64 gn, .slice A n c] 24)) := (Below.refl _ _).alloc (Nat.le_refl _) _
  have K := Lib.hid (refGraph_any gn A n c l (w.alloc (.cells #[.int .i64 gn, .slice A n c] 24)) hn hbig (hA.below hba))
  have HB := Lib.hid hba
  clear hn hA hba
  cases hg : graphB gn l
  all_goals
    have HG := Lib.hid hg
    clear hg
    go_enter Tryz.func8, Tryz.ntmps8
    go_wp2_with (go_at_call 24; refine (K.out).mono ?_; rintro e w' ⟨rfl, rfl⟩; rw [HG.out])
    go_ret
    exact ⟨rfl, HB.out⟩

def CutTo6 (w : World) (xs : List Int) (e : Ending) (w' : World) : Prop := ∃ v, e = .returned v ∧ Own w' w.heap.size v xs ∧ Below w.heap.size w w'

set_option maxHeartbeats 400000 in
set_option maxRecDepth 100000 in
theorem cut6_any (A : Option Addr) (n c k : Nat) (xs : List Int) (w : World) (hn : xs.length = n) (hc : n ≤ c) (hbig : n ≤ 9223372036854775807) (hk : k ≤ 1000) (hx : Ints w A xs) :
    Calls Tryz.prog 6 #[.slice A n c, .int .i64 k] w (CutTo6 w (xs.take k)) := by
  have hmn := mn_nat n k
  have hl : (xs.take k).length = min n k := by rw [List.length_take, hn, Nat.min_comm]
  have hx' : Ints (w.alloc (.cells #[] 3)) A (xs.take k) := (hx.take k).below ((Below.refl _ _).alloc (Nat.le_refl _) _)
  generalize hm : min n k = m at *
  have hmc : m ≤ c := by omega
  have hm1 : m ≤ 1000 := by omega
  have HL := Lib.hid hl
  have HX := Lib.hid hx'
  clear hx hx' hn hl hm
  go_enter Tryz.func6, Tryz.ntmps6
  go_wp2_with (at_builtin; refine wpList_app rfl (.tmp 5) (.tmp 11) rfl w.heap.size (.slice (some ⟨w.heap.size, 0, none⟩) 0 0) [] (xs.take k) _ m c rfl rfl (Own.empty w) HL.out HX.out (by rw [HL.out]; simp; omega) (by simp) ?_; intro v1 w1 ho hg hat; have HO := Lib.hid ho; have HG := Lib.hid hg; clear ho hg hat)
  go_ret
  exact ⟨_, rfl, by simpa using HO.out, ((Below.refl _ _).alloc (Nat.le_refl _) _).grown HG.out (by simp) (by simp [Value.ownBlock])⟩
end Go.Proofs.YtddejjilfmphbaaGreatDoor
