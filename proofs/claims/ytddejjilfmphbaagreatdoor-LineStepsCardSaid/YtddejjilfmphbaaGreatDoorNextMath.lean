/- One step by the arcs is one step by their delays. -/
import Derived.Test.YtddejjilfmphbaaGreatDoorNewDelays
import Derived.Test.YtddejjilfmphbaaGreatDoorNewState
namespace Go.Proofs.YtddejjilfmphbaaGreatDoor
open Go.RowKit Go.Sort

/-- A round of the document's Next. -/
def nArc (x o : Nat → Option Int) (a : Arc) : Nat → Option Int := fun i => if i = a.t.toNat then MP.mx (o i) (MP.add (x a.f.toNat) (some a.d)) else o i
def nArcs (x : Nat → Option Int) (l : List Arc) : Nat → Option Int := l.foldl (nArc x) fun _ => none
theorem nArcs_take (x : Nat → Option Int) (l : List Arc) {k : Nat} (h : k < l.length) : nArcs x (l.take (k + 1)) = nArc x (nArcs x (l.take k)) l[k] := by
  unfold nArcs
  rw [List.take_succ_eq_append_getElem h, List.foldl_append]; rfl
theorem add_mx (a b c : Option Int) : MP.add a (MP.mx b c) = MP.mx (MP.add a b) (MP.add a c) := by
  cases a <;> cases b <;> cases c <;> simp [MP.add, MP.mx]
  split <;> rfl
theorem ap_addArc (x : Nat → Option Int) (D : Nat → Nat → Option Int) (a : Arc) (hf : a.f.toNat < 16) : MP.ap x (addArc D a) = nArc x (MP.ap x D) a := by
  funext j
  unfold nArc
  by_cases hj : j = a.t.toNat
  · rw [if_pos hj]
    apply MP.le_antisymm
    · refine MP.sup_le fun i hi => ?_
      show MP.le (MP.add (x i) (if i = a.f.toNat ∧ j = a.t.toNat then MP.mx (D i j) (some a.d) else D i j)) _
      by_cases h : i = a.f.toNat
      · rw [if_pos ⟨h, hj⟩, add_mx]
        refine MP.mx_le (MP.le_trans (MP.le_sup (fun i => MP.add (x i) (D i j)) hi) (MP.le_mx_left _ _)) ?_
        rw [h]
        exact MP.le_mx_right _ _
      · rw [if_neg fun e => h e.1]
        exact MP.le_trans (MP.le_sup (fun i => MP.add (x i) (D i j)) hi) (MP.le_mx_left _ _)
    · refine MP.mx_le (MP.sup_le fun i hi => ?_) ?_
      · refine MP.le_trans ?_ (MP.le_sup (fun i => MP.add (x i) (addArc D a i j)) hi)
        refine MP.add_le ?_
        show MP.le _ (if i = a.f.toNat ∧ j = a.t.toNat then MP.mx (D i j) (some a.d) else D i j)
        by_cases h : i = a.f.toNat
        · rw [if_pos ⟨h, hj⟩]; exact MP.le_mx_left _ _
        · rw [if_neg fun e => h e.1]; exact MP.le_refl _
      · refine MP.le_trans ?_ (MP.le_sup (fun i => MP.add (x i) (addArc D a i j)) hf)
        refine MP.add_le ?_
        show MP.le _ (if a.f.toNat = a.f.toNat ∧ j = a.t.toNat then MP.mx (D a.f.toNat j) (some a.d) else D a.f.toNat j)
        rw [if_pos ⟨rfl, hj⟩]; exact MP.le_mx_right _ _
  · rw [if_neg hj]
    refine MP.sup_congr fun i hi => ?_
    show MP.add (x i) (if i = a.f.toNat ∧ j = a.t.toNat then MP.mx (D i j) (some a.d) else D i j) = _
    rw [if_neg fun e => hj e.2]
theorem ap_none (x : Nat → Option Int) : MP.ap x (fun _ _ => none) = fun _ => none := by
  funext j
  show MP.sup 16 _ = none
  rcases MP.sup_or 16 (fun i => MP.add (x i) none) with h | ⟨i, -, h⟩
  · exact h
  · rw [h]; cases x i <;> rfl
theorem foldl_ap (x : Nat → Option Int) : ∀ (l : List Arc) (D : Nat → Nat → Option Int), (∀ a ∈ l, a.ok) → MP.ap x (l.foldl addArc D) = l.foldl (nArc x) (MP.ap x D)
  | [], _, _ => rfl
  | a :: l, D, h => by
    show MP.ap x (l.foldl addArc (addArc D a)) = l.foldl (nArc x) (nArc x (MP.ap x D) a)
    rw [foldl_ap x l _ fun b hb => h b (List.mem_cons_of_mem _ hb), ap_addArc x D a (by have := (h a List.mem_cons_self).1; omega)]
/-- One step by the arcs is one step by their delays. -/
theorem nArcs_ap (x : Nat → Option Int) (l : List Arc) (h : ∀ a ∈ l, a.ok) : nArcs x l = MP.ap x (dArcs l) := by
  unfold nArcs dArcs
  rw [foldl_ap x l _ h, ap_none]
end Go.Proofs.YtddejjilfmphbaaGreatDoor
