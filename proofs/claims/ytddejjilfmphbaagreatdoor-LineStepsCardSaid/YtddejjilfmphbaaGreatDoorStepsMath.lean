/- The laws' fold; the plain mathematics of LineSteps. -/
import Derived.Test.YtddejjilfmphbaaGreatDoorLineState
namespace Go.Proofs.YtddejjilfmphbaaGreatDoor
open Go.RowKit Go.Sort
attribute [local go_sem ↓] run_min_mn run_max_mx

theorem fold6_any (v : Int) (n : Nat) (w : World) (_ : -9223372036854775808 ≤ v ∧ v ≤ 9223372036854775807) (hn : 1 ≤ n ∧ n ≤ 1000000) :
    Calls Tryz.prog 16 #[.int .i64 v, .int .i64 n] w fun e w' => ∃ r : Nat, r < n ∧ e = .returned (.int .i64 r) ∧ w = w' := by
  have h1 : -(n : Int) < v.tmod n ∧ v.tmod n < n := by
    have a := Int.tmod_lt_of_pos v (b := (n : Int)) (by omega)
    have b := Int.lt_tmod_of_pos v (b := (n : Int)) (by omega)
    exact ⟨b, a⟩
  obtain ⟨h2, h3⟩ := h1
  have hr : ∃ r : Nat, r < n ∧ (v.tmod n + n) % n = r := by
    have a := Int.emod_nonneg (v.tmod n + n) (b := (n : Int)) (by omega)
    have b := Int.emod_lt_of_pos (v.tmod n + n) (b := (n : Int)) (by omega)
    exact ⟨((v.tmod n + n) % n).toNat, by omega, by omega⟩
  obtain ⟨r, hr1, hr2⟩ := hr
  have HR := Lib.hid hr2
  clear hr2
  go_enter Tryz.func16, Tryz.ntmps16
  go_wp2
  go_ret
  exact ⟨r, hr1, ret_int (HR.out), rfl⟩

theorem dArcs_bound_go {B : Int} : ∀ (l : List Arc) (D : Nat → Nat → Option Int), (∀ a ∈ l, -B ≤ a.d ∧ a.d ≤ B) → (∀ i j, MP.Small B (D i j)) → ∀ i j, MP.Small B (l.foldl addArc D i j)
  | [], _, _, h, i, j => h i j
  | a :: l, D, ha, h, i, j => by
    refine dArcs_bound_go l _ (fun b hb => ha b (List.mem_cons_of_mem _ hb)) (fun i j => ?_) i j
    unfold addArc
    split
    · rcases MP.mx_or (D i j) (some a.d) with e | e
      · rw [e]; exact h i j
      · rw [e]; intro v hv; cases hv; exact ha a List.mem_cons_self
    · exact h i j
theorem dArcs_bound {B : Int} {l : List Arc} (h : ∀ a ∈ l, -B ≤ a.d ∧ a.d ≤ B) (i j : Nat) : MP.Small B (dArcs l i j) := dArcs_bound_go l _ h (fun _ _ v hv => by cases hv) i j

theorem stOf_moved (xs : List Int) (b : Int) : stOf (xs.map (· + b)) = fun i => MP.plus b (stOf xs i) := by
  funext i
  unfold stOf
  rw [List.getElem?_map]
  cases xs[i]? <;> rfl
/-- Runs put together. -/
theorem run_run {m : Nat} {xs : List Int} {l : List Arc} (hx : xs.length = m) (hl : liveB m l = true) (hf : NodesOk m l) (hm : m ≤ 16) (p q : Nat) :
    listOf m (MP.it (stOf (listOf m (MP.it (stOf xs) (dArcs l) p))) (dArcs l) q) = listOf m (MP.it (stOf xs) (dArcs l) (p + q)) := by
  rw [(it_full (full_stOf hx) hl hf hm p).back, MP.it_add]
/-- A moved state stays moved. -/
theorem run_moved {m : Nat} {xs : List Int} {l : List Arc} (hx : xs.length = m) (hl : liveB m l = true) (hf : NodesOk m l) (hm : m ≤ 16) (b : Int) (p : Nat) :
    listOf m (MP.it (stOf (xs.map (· + b))) (dArcs l) p) = (listOf m (MP.it (stOf xs) (dArcs l) p)).map (· + b) := by
  rw [stOf_moved, MP.plus_it]
  unfold listOf
  rw [List.map_map]
  refine List.map_congr_left fun i hi => ?_
  have := (it_full (full_stOf hx) hl hf hm p).1 i (List.mem_range.1 hi)
  cases h : MP.it (stOf xs) (dArcs l) p i with
  | none => rw [h] at this; cases this
  | some v => simp [h, MP.plus]
/-- One step. -/
theorem run_one {m : Nat} (xs : List Int) {l : List Arc} (hf : NodesOk m l) (hm : m ≤ 16) : listOf m (nArcs (stOf xs) l) = listOf m (MP.it (stOf xs) (dArcs l) 1) := by
  rw [nArcs_ap _ _ (hf.ok hm)]; rfl
theorem mem_small {xs : List Int} {b : Int} (h : ∀ v ∈ xs, -b ≤ v ∧ v ≤ b) (i : Nat) : MP.Small b (stOf xs i) := fun v hv => h v (List.mem_of_getElem? hv)
theorem stateB_of {m : Nat} {xs : List Int} (hx : xs.length = m) (h : ∀ v ∈ xs, -1000000000000 ≤ v ∧ v ≤ 1000000000000) : stateB m xs = true := by
  unfold stateB
  rw [Bool.and_eq_true]
  refine ⟨by simp [hx], ?_⟩
  rw [Bool.not_eq_true']
  unfold anyFar
  rw [List.any_eq_false]
  intro v hv
  have := h v hv
  unfold farB
  simp only [decide_eq_true_eq]
  omega
/-- A state behind p steps is one. -/
theorem stateB_it {m : Nat} {xs : List Int} {l : List Arc} {B : Int} (hB : 0 ≤ B ∧ B ≤ 3000) (hd : ∀ a ∈ l, -B ≤ a.d ∧ a.d ≤ B) (h : ∀ v ∈ xs, -3000 ≤ v ∧ v ≤ 3000) (p : Nat) (hp : p ≤ 2000000) :
    stateB m (listOf m (MP.it (stOf xs) (dArcs l) p)) = true :=
  stateB_of (listOf_length _ _) fun v hv => by
    have h1 := listOf_small (m := m) (x := MP.it (stOf xs) (dArcs l) p) (b := 3000 + (p : Int) * B) (by have := Int.mul_nonneg (show (0 : Int) ≤ p by omega) hB.1; omega) (MP.small_it hB.1 (fun i => mem_small h i) (fun i j => dArcs_bound hd i j) p) v hv
    have h2 : (p : Int) * B ≤ 2000000 * 3000 := Int.mul_le_mul (by omega) hB.2 hB.1 (by omega)
    omega
end Go.Proofs.YtddejjilfmphbaaGreatDoor
