/- Parts of the proof, one after the other: PtsCut, Convex, DevTop, DevWhere, PtRow, RefWhere, WhereTop, DevBeyond, ApartTop, RefApart, DevChain, DevClone, DevSort, DevHull, RefHull, HullTop, PolysOwn, TileRef1, Bag, Ints, TileRef2, TileSort. -/
import Derived.Test.YtlekncamokiekaaGreatDoorTw3
import Derived.Laws.MakeOwn
import Derived.Deep.AppendLies
import Derived.Lib.SliceRun
import Derived.Shelf.GgSortFunc.InsertionK
import Derived.Below
import Derived.Calls
import Derived.WalkKit
import Derived.WalkSpells
import Derived.WalkLawsBesides
import Derived.Handy
import Derived.Lib.Hide
import Derived.Laws.Rows
import Derived.Deep.Draws
import Derived.Test.YtlekncamokiekaaGreatDoorProg
import Derived.Deep.CutBlock
import Derived.Deep.DeepCutAuto
/- The law's cut of a slice of points. -/
namespace Go.Proofs.YtlekncamokiekaaGreatDoor
open Go.RowKit Go.Sort
attribute [local go_sem ↓] run_min_mn run_max_mx

theorem mn_nat (a b : Nat) : mn (a : Int) b = ((min a b : Nat) : Int) := by unfold mn; split <;> omega

/-- How many points are left. -/
def cutN (n k : Nat) : Nat := if 32 < n then 33 else k
/-- What the cut hands back. -/
def PCutTo (w : World) (xs : List Pt) (e : Ending) (w' : World) : Prop := ∃ v, e = .returned v ∧ PtsOwn w' w.heap.size v xs ∧ Below w.heap.size w w'

end Go.Proofs.YtlekncamokiekaaGreatDoor

/- Is a polygon convex in normal form? The reference's function. -/
namespace Go.Proofs.YtlekncamokiekaaGreatDoor
open Go.RowKit Go.Sort
attribute [local go_sem ↓] run_min_mn run_max_mx Go.wp_at_zero Go.wp_at_succ


end Go.Proofs.YtlekncamokiekaaGreatDoor

/- Package shape's exported functions Area2, Simple and Convex; the reference's Polygon, of any slice. -/
namespace Go.Proofs.YtlekncamokiekaaGreatDoor
open Go.RowKit Go.Sort
attribute [local go_sem ↓] run_min_mn run_max_mx

/-- What a polygon's slice is. -/
structure PolyIn (w : World) (A : Option Addr) (n : Nat) (l : List Pt) (b off : Nat) : Prop where
  at_ : A = some ⟨b, off, none⟩
  lo : 2 < n
  hi : n ≤ 32
  here : b < w.heap.size
  pts : PtsIn w b off l
  ok : l.all okP = true

theorem PtsAt.poly {w : World} {A : Option Addr} {n : Nat} {l : List Pt} (h : PtsAt w A l) (hn : l.length = n) (hp : polyB l = true) : ∃ b off, PolyIn w A n l b off := by
  simp only [polyB, inB, Bool.and_eq_true, decide_eq_true_eq] at hp
  obtain ⟨h1, h2, h3⟩ := hp
  obtain ⟨b, off, e, hb, hi⟩ := h (by intro e; subst e; simp at h2)
  exact ⟨b, off, ⟨e, by omega, by omega, hb, hi, h1⟩⟩

def area2X (l : List Pt) : Int := if polyB l then area2 l else 0
def errX (l : List Pt) : Int := if polyB l then 0 else 1

def simpleX (l : List Pt) : Bool := polyB l && simpleB l
def convexX (l : List Pt) : Bool := polyB l && convexB l
end Go.Proofs.YtlekncamokiekaaGreatDoor

/- Where is a point? Package shape's function. -/
namespace Go.Proofs.YtlekncamokiekaaGreatDoor
open Go.RowKit Go.Sort
attribute [local go_sem ↓] run_min_mn run_max_mx Go.wp_at_zero Go.wp_at_succ

/-- Coordinates that every sum and product here can bear. -/
def Bd (p : Pt) : Prop := (-60000 ≤ p.1 ∧ p.1 ≤ 60000) ∧ (-60000 ≤ p.2 ∧ p.2 ≤ 60000)
theorem Bd.of_ok {p : Pt} (h : okP p = true) : Bd p := by
  obtain ⟨h1, h2⟩ := okP_bd h
  exact ⟨by omega, by omega⟩
theorem Bd.all {l : List Pt} (h : l.all okP = true) (i : Nat) : Bd (gt l i) := Bd.of_ok (getD_ok h i)
theorem nx_gt (l : List Pt) (i : Nat) : nx l i = gt l ((i + 1) % l.length) := rfl

def on2B (px py ax ay bx by' : Int) : Bool := (cross ax ay bx by' px py == 0) && boxB px py px py ax ay bx by'
theorem on2_same (px py ax ay bx by' : Int) : on2B px py ax ay bx by' = onB ax ay bx by' px py := by
  have e : boxB px py px py ax ay bx by' = (inB px (mn ax bx) (mx ax bx) && inB py (mn ay by') (mx ay by')) := by
    rw [Bool.eq_iff_iff]
    simp only [boxB, inB, Bool.and_eq_true, decide_eq_true_eq]
    have a1 := mn_spec px px
    have a2 := mx_spec px px
    have a3 := mn_spec py py
    have a4 := mx_spec py py
    have a5 := mx_spec (mn px px) (mn ax bx)
    have a6 := mn_spec (mx px px) (mx ax bx)
    have a7 := mx_spec (mn py py) (mn ay by')
    have a8 := mn_spec (mx py py) (mx ay by')
    omega
  unfold on2B onB
  rw [e, Bool.and_assoc]

def leftB (px py ax ay bx by' : Int) : Bool := (decide (py < ay) != decide (py < by')) && (decide (0 < cross ax ay bx by' px py) == decide (ay < by'))

def on2At (l : List Pt) (p : Pt) (i : Nat) : Bool := onP (gt l i) (nx l i) p
def left2At (l : List Pt) (p : Pt) (i : Nat) : Bool := leftB p.1 p.2 (gt l i).1 (gt l i).2 (nx l i).1 (nx l i).2
def sideTo (l : List Pt) (p : Pt) : Nat → Int
  | 0 => -1
  | k + 1 => if left2At l p k then - sideTo l p k else sideTo l p k
def whereD (l : List Pt) (p : Pt) : Int := if (List.range l.length).any (on2At l p) then 0 else sideTo l p l.length
theorem sideTo_bd (l : List Pt) (p : Pt) : ∀ k, sideTo l p k = 1 ∨ sideTo l p k = -1
  | 0 => .inr rfl
  | k + 1 => by
    unfold sideTo
    rcases sideTo_bd l p k with h | h <;> rw [h] <;> split <;> simp
theorem whereD_on {l : List Pt} {p : Pt} {k : Nat} (hk : k < l.length) (h : on2At l p k = true) : whereD l p = 0 := by
  unfold whereD
  rw [if_pos (List.any_eq_true.2 ⟨k, List.mem_range.2 hk, h⟩)]
theorem whereD_off {l : List Pt} {p : Pt} (h : ∀ j, j < l.length → on2At l p j = false) : whereD l p = sideTo l p l.length := by
  unfold whereD
  rw [if_neg]
  rw [List.any_eq_true]
  rintro ⟨k, hk, e⟩
  rw [h k (List.mem_range.1 hk)] at e
  cases e

end Go.Proofs.YtlekncamokiekaaGreatDoor

/- A row of points that a function makes: its cells; points that are moved. -/
namespace Go.Proofs.YtlekncamokiekaaGreatDoor
open Go.RowKit Go.Sort
attribute [local go_sem ↓] run_min_mn run_max_mx

/-- A block that holds a list of points, and nothing else. -/
def PtBlk (w : World) (g : Nat) (l : List Pt) : Prop := w.heap[g]? = some (.cells (ptsV l).toArray 41 (0, 0))
section
variable {w w' : World} {g : Nat} {l : List Pt}
theorem PtBlk.lt (h : PtBlk w g l) : g < w.heap.size := (Array.getElem?_eq_some_iff.1 h).1
theorem PtBlk.same (h : PtBlk w g l) (e : w'.heap[g]? = w.heap[g]?) : PtBlk w' g l := e.trans h
theorem PtBlk.cells (h : PtBlk w g l) (j : Nat) : w.cell? ⟨g, j, none⟩ = (ptsV l)[j]? := by
  rw [cell_of_row w g j _ 41 (0, 0) h]; simp
theorem PtBlk.cell (h : PtBlk w g l) {i : Nat} {p : Pt} (hp : l[i]? = some p) : w.cell? ⟨g, i * 2, none⟩ = some (.int .i64 p.1) ∧ w.cell? ⟨g, i * 2 + 1, none⟩ = some (.int .i64 p.2) := by
  obtain ⟨h1, h2⟩ := ptsV_get l i p hp
  exact ⟨(h.cells _).trans h1, (h.cells _).trans h2⟩
theorem PtBlk.frozen (h : PtBlk w g l) (i : Nat) : w.frozen? ⟨g, i, none⟩ = false := by simp [World.frozen?, show w.heap[g]? = _ from h]
theorem PtBlk.pts (h : PtBlk w g l) : PtsIn w g 0 l := fun i p hp => by
  obtain ⟨h1, h2⟩ := h.cell hp
  exact ⟨by rw [Nat.zero_add]; exact h1, by rw [Nat.zero_add]; exact h2⟩
theorem PtBlk.below {B : Nat} (h : PtBlk w g l) (hb : Below B w w') (hg : g < B) : PtBlk w' g l := h.same (hb.block g hg)
theorem PtBlk.alloc (h : PtBlk w g l) (o : Obj) : PtBlk (w.alloc o) g l := h.same (Below.heap_alloc w o g h.lt)
theorem ptsV_set : ∀ (l : List Pt) (i : Nat) (x y : Int), ((ptsV l).set (i * 2) (.int .i64 x)).set (i * 2 + 1) (.int .i64 y) = ptsV (l.set i (x, y))
  | [], _, _, _ => rfl
  | p :: l, 0, x, y => rfl
  | p :: l, i + 1, x, y => by
    have e : (i + 1) * 2 = i * 2 + 1 + 1 := by omega
    rw [e]
    simp only [ptsV, List.set_cons_succ, ptsV_set l i x y]
theorem PtBlk.set (h : PtBlk w g l) (i : Nat) (x y : Int) : PtBlk ((w.setCell ⟨g, i * 2, none⟩ (.int .i64 x)).setCell ⟨g, i * 2 + 1, none⟩ (.int .i64 y)) g (l.set i (x, y)) := by
  have e : w.heap[g]? = _ := h
  unfold PtBlk
  rw [← ptsV_set]
  simp [World.setCell, Array.getElem?_modify, e]
theorem PtBlk.far (h : PtBlk w g l) {p : Addr} (hp : g ≠ p.block) (u : Value) : PtBlk (w.setCell p u) g l := h.same (Below.heap_setCell w p u g hp)
end

/-- Points that a function gives. -/
def ptF (n : Nat) (f : Nat → Pt) : List Pt := (List.range n).map f
theorem ptF_length (n : Nat) (f : Nat → Pt) : (ptF n f).length = n := by simp [ptF]
theorem ptF_set (n : Nat) (f : Nat → Pt) (t : Nat) (v : Pt) : (ptF n f).set t v = ptF n (fun u => if u = t then v else f u) := by
  apply List.ext_getElem
  · simp [ptF]
  · intro i h1 h2
    rw [List.getElem_set]
    simp only [ptF, List.getElem_map, List.getElem_range]
    by_cases e : t = i
    · subst e; simp
    · rw [if_neg e, if_neg (fun h => e h.symm)]
theorem ptF_congr {n : Nat} {f g : Nat → Pt} (h : ∀ i, i < n → f i = g i) : ptF n f = ptF n g := List.map_congr_left fun i hi => h i (List.mem_range.1 hi)
theorem ptF_get {n : Nat} {f : Nat → Pt} {i : Nat} (h : i < n) : (ptF n f)[i]? = some (f i) := by simp [ptF, h]

theorem made_pts (m : Nat) : madeCells #[Value.int .i64 0, Value.int .i64 0] (m * 2) = (ptsV (ptF m fun _ => (0, 0))).toArray := by
  apply Array.ext'
  rw [List.toList_toArray]
  have e : ptsV (ptF m fun _ => (0, 0)) = List.replicate (m * 2) (Value.int .i64 0) := by
    induction m with
    | zero => rfl
    | succ m ih =>
      have : ptF (m + 1) (fun _ => ((0, 0) : Pt)) = ptF m (fun _ => (0, 0)) ++ [(0, 0)] := by simp [ptF, List.range_succ]
      rw [this, ptsV_append, ih, show (m + 1) * 2 = m * 2 + 1 + 1 by omega, List.replicate_succ', List.replicate_succ']
      simp [ptsV]
  rw [e]
  apply List.ext_getElem
  · simp [madeCells]
  · intro i h1 h2
    simp only [madeCells, Array.toList_map, Array.toList_range, List.getElem_map, List.getElem_range, List.getElem_replicate]
    have : i % (#[Value.int .i64 0, Value.int .i64 0] : Array Value).size < 2 := Nat.mod_lt _ (by decide)
    generalize i % (#[Value.int .i64 0, Value.int .i64 0] : Array Value).size = r at this
    match r, this with
    | 0, _ => rfl
    | 1, _ => rfl

/-- make([]api.Point, n). -/
theorem make_pts (m : Nat) (hm : m ≤ 1000001) (W : World) : (Instr.makeSlice 22 (.int .i64 (m : Int)) (.int .i64 (m : Int))).run Tryz.prog W =
    .ok (.slice (some ⟨W.heap.size, 0, none⟩) m m) (W.alloc (.cells (ptsV (ptF m fun _ => (0, 0))).toArray 41)) := by
  obtain ⟨i0, hi0, hz0, hz1, hz2⟩ := info_pparts info_pt
  have h := run_makeSlice (P := Tryz.prog) W 22 41 i0 _ Tryz.underlying22 hi0 hz0 .i64 .i64 (m : Int) (m : Int) (by omega) (Int.le_refl _) (by rw [hz1]; omega) (by rw [hz2]; omega) (by omega)
  rw [h, hz1, Int.toNat_natCast]
  rw [show (Value.agg #[Value.int .i64 0, Value.int .i64 0]).cells = #[Value.int .i64 0, Value.int .i64 0] from rfl, made_pts]

def addP (p q : Pt) : Pt := (p.1 + q.1, p.2 + q.2)
def movedL (l : List Pt) (v : Pt) : List Pt := l.map fun p => addP p v
theorem movedL_length (l : List Pt) (v : Pt) : (movedL l v).length = l.length := by simp [movedL]
theorem movedL_F (l : List Pt) (v : Pt) : movedL l v = ptF l.length fun i => addP (gt l i) v := by
  apply List.ext_getElem
  · simp [movedL, ptF]
  · intro i h1 h2
    have : i < l.length := by simpa [movedL] using h1
    simp [movedL, ptF, gt, List.getD, this]

def MovedTo (l : List Pt) (w : World) (n : Nat) (e : Ending) (w' : World) : Prop :=
  ∃ g : Nat, e = .returned (.slice (some ⟨g, 0, none⟩) n n) ∧ w.heap.size ≤ g ∧ PtBlk w' g l ∧ Below w.heap.size w w'

end Go.Proofs.YtlekncamokiekaaGreatDoor

/- Where is a point? The reference's function, and that package shape's finds the same. -/
namespace Go.Proofs.YtlekncamokiekaaGreatDoor
open Go.RowKit Go.Sort
attribute [local go_sem ↓] run_min_mn run_max_mx Go.wp_at_zero Go.wp_at_succ

def upI (py ay by' c : Int) : Int := if by' < ay then -c else c
def rayB (px py ax ay bx by' : Int) : Bool := (decide (py < ay) != decide (py < by')) && decide (0 < upI py ay by' (cross ax ay bx by' px py))
def ray2At (l : List Pt) (p : Pt) (i : Nat) : Bool := rayB p.1 p.2 (gt l i).1 (gt l i).2 (nx l i).1 (nx l i).2
def insTo (l : List Pt) (p : Pt) : Nat → Bool
  | 0 => false
  | k + 1 => if ray2At l p k then !insTo l p k else insTo l p k
def whereR (l : List Pt) (p : Pt) : Int := if (List.range l.length).any (on2At l p) then 0 else if insTo l p l.length then 1 else -1

theorem left_ray {px py ax ay bx by' : Int} (h : onB ax ay bx by' px py = false) : leftB px py ax ay bx by' = rayB px py ax ay bx by' := by
  have key : cross ax ay bx by' px py = 0 → ¬ ((ay ≤ py ∧ py < by') ∨ (by' ≤ py ∧ py < ay)) := by
    intro h0 hb
    have hne : by' - ay ≠ 0 := by omega
    have hc : (by' - ay) * (px - ax) = (py - ay) * (bx - ax) := by unfold cross at h0; grind
    have hbt : btw (py - ay) (by' - ay) := by unfold btw; omega
    have := btw_dim hne hc hbt
    have ho : onB ax ay bx by' px py = true := by
      have k := (on_iff ax ay (bx - ax) (by' - ay) (px - ax) (py - ay)).2 ⟨by unfold al; unfold cross at h0; grind, this, hbt⟩
      rw [show ax + (bx - ax) = bx by omega, show ay + (by' - ay) = by' by omega, show ax + (px - ax) = px by omega, show ay + (py - ay) = py by omega] at k
      exact k
    rw [h] at ho; cases ho
  rw [Bool.eq_iff_iff]
  unfold leftB rayB upI
  generalize cross ax ay bx by' px py = c at *
  simp only [Bool.and_eq_true, bne_iff_ne, ne_eq, decide_eq_true_eq, decide_eq_decide, beq_iff_eq]
  by_cases g1 : py < ay <;> by_cases g2 : py < by'
  · simp [g1, g2]
  · have := key; split <;> (by_cases hc : c = 0) <;> omega
  · have := key; split <;> (by_cases hc : c = 0) <;> omega
  · simp [g1, g2]

theorem where_same (l : List Pt) (p : Pt) : whereD l p = whereR l p := by
  unfold whereD whereR
  by_cases h : (List.range l.length).any (on2At l p) = true
  · rw [if_pos h, if_pos h]
  · rw [if_neg h, if_neg h]
    have hoff : ∀ j, j < l.length → on2At l p j = false := fun j hj => by
      cases e : on2At l p j
      · rfl
      · exact absurd (List.any_eq_true.2 ⟨j, List.mem_range.2 hj, e⟩) h
    have : ∀ k, k ≤ l.length → sideTo l p k = if insTo l p k then 1 else -1 := by
      intro k
      induction k with
      | zero => intro _; rfl
      | succ k ih =>
        intro hk
        have e : left2At l p k = ray2At l p k := left_ray (hoff k (by omega))
        unfold sideTo insTo
        rw [e, ih (by omega)]
        cases ray2At l p k <;> cases insTo l p k <;> rfl
    exact this _ (Nat.le_refl _)

end Go.Proofs.YtlekncamokiekaaGreatDoor

/- Package shape's Where, and the law's own 'simple'. -/
namespace Go.Proofs.YtlekncamokiekaaGreatDoor
open Go.RowKit Go.Sort
attribute [local go_sem ↓] run_min_mn run_max_mx

def simpE (l : List Pt) : Int := if polyB l then (if simpleB l then 0 else 2) else 1

theorem simpE_cases (l : List Pt) : (simpE l = 1 ∧ polyB l = false) ∨ (simpE l = 2 ∧ polyB l = true ∧ simpleB l = false) ∨ (simpE l = 0 ∧ polyB l = true ∧ simpleB l = true) := by
  unfold simpE
  cases polyB l <;> cases simpleB l <;> simp

theorem simpE_zero {l : List Pt} (h0 : simpE l = 0) : polyB l = true ∧ simpleB l = true := by
  rcases simpE_cases l with h | h | h
  · rw [h.1] at h0; cases h0
  · rw [h.1] at h0; cases h0
  · exact h.2

def whereX (l : List Pt) (p : Pt) : Int := if simpE l = 0 ∧ validB p.1 p.2 10000 = true then whereR l p else 0
def whereE (l : List Pt) (p : Pt) : Int := if simpE l = 0 then (if validB p.1 p.2 10000 then 0 else 1) else simpE l

theorem valid_Bd {p : Pt} (h : validB p.1 p.2 10000 = true) : Bd p := Bd.of_ok (p := p) h

end Go.Proofs.YtlekncamokiekaaGreatDoor

/- Package shape's areApart: is one polygon beyond an edge of the other? And the reference's parts. -/
namespace Go.Proofs.YtlekncamokiekaaGreatDoor
open Go.RowKit Go.Sort
attribute [local go_sem ↓] run_min_mn run_max_mx Go.wp_at_zero Go.wp_at_succ

def leftQ (p q x : Pt) : Bool := decide (0 < crossP p q x)
def anyLeft (p q : Pt) (l : List Pt) : Bool := l.any (leftQ p q)
def FoundLeft (p q : Pt) (l : List Pt) (w : World) (e : Ending) (w' : World) : Prop := ∃ i : Int, e = .returned (.int .i64 i) ∧ decide (0 ≤ i) = anyLeft p q l ∧ Below w.heap.size w w'

def beyondAt (a b : List Pt) (i : Nat) : Bool := !anyLeft (gt a i) (nx a i) b
def beyondB (a b : List Pt) : Bool := (List.range a.length).any (beyondAt a b)
def apartB (a b : List Pt) : Bool := beyondB a b || beyondB b a

end Go.Proofs.YtlekncamokiekaaGreatDoor

/- Package shape's checkConvex and Apart; the law's own 'convex'; the reference's Moved and Apart. -/
namespace Go.Proofs.YtlekncamokiekaaGreatDoor
open Go.RowKit Go.Sort
attribute [local go_sem ↓] run_min_mn run_max_mx Go.wp_at_zero Go.wp_at_succ

def conE (l : List Pt) : Int := if polyB l then (if convexB l then 0 else 2) else 1
theorem conE_cases (l : List Pt) : (conE l = 1 ∧ polyB l = false) ∨ (conE l = 2 ∧ polyB l = true ∧ convexB l = false) ∨ (conE l = 0 ∧ polyB l = true ∧ convexB l = true) := by
  unfold conE
  cases polyB l <;> cases convexB l <;> simp
theorem conE_zero {l : List Pt} (h0 : conE l = 0) : polyB l = true ∧ convexB l = true := by
  rcases conE_cases l with h | h | h
  · rw [h.1] at h0; cases h0
  · rw [h.1] at h0; cases h0
  · exact h.2
theorem conE_rng (l : List Pt) : 0 ≤ conE l ∧ conE l ≤ 2 := by
  rcases conE_cases l with h | h | h <;> omega

def convsE : List (List Pt) → Int
  | [] => 0
  | l :: L => if conE l = 0 then convsE L else conE l
theorem convsE_skip {L : List (List Pt)} {k : Nat} (hk : k < L.length) (h : conE L[k] = 0) : convsE (L.drop (k + 1)) = convsE (L.drop k) := by
  rw [List.drop_eq_getElem_cons hk]
  show _ = if conE L[k] = 0 then convsE (L.drop (k + 1)) else conE L[k]
  rw [if_pos h]
theorem convsE_here {L : List (List Pt)} {k : Nat} (hk : k < L.length) (h : conE L[k] ≠ 0) : convsE (L.drop k) = conE L[k] := by
  rw [List.drop_eq_getElem_cons hk]
  show (if conE L[k] = 0 then convsE (L.drop (k + 1)) else conE L[k]) = _
  rw [if_neg h]

/-- A row of slices of points. -/
def PolysIn (w : World) (b off : Nat) (L : List (List Pt)) : Prop :=
  ∀ i l, L[i]? = some l → ∃ A n c, w.cell? ⟨b, off + i, none⟩ = some (.slice A n c) ∧ l.length = n ∧ n ≤ 1000000 ∧ PtsAt w A l
theorem PolysIn.below {w w' : World} {b off : Nat} {L : List (List Pt)} (h : PolysIn w b off L) (hb : Below w.heap.size w w') (hB : b < w.heap.size) : PolysIn w' b off L := fun i l hi => by
  obtain ⟨A, n, c, h1, h2, h3, h4⟩ := h i l hi
  exact ⟨A, n, c, (hb.cell (p := ⟨b, _, none⟩) hB).trans h1, h2, h3, h4.below hb⟩

theorem ok_Bd {l : List Pt} (h : l.all okP = true) : ∀ x ∈ l, Bd x := fun x hx => Bd.of_ok (List.all_eq_true.1 h x hx)
theorem moved_Bd {l : List Pt} {v : Pt} (h : l.all okP = true) (hv : validB v.1 v.2 20000 = true) : ∀ x ∈ movedL l v, Bd x := fun x hx => by
  obtain ⟨p, hp, rfl⟩ := List.mem_map.1 hx
  obtain ⟨h1, h2⟩ := okP_bd (List.all_eq_true.1 h p hp)
  have : (-20000 ≤ v.1 ∧ v.1 ≤ 20000) ∧ (-20000 ≤ v.2 ∧ v.2 ≤ 20000) := by simpa [validB, inB] using hv
  unfold Bd addP
  simp only
  omega
theorem valid_Bd2 {v : Pt} (hv : validB v.1 v.2 20000 = true) : Bd v := by
  have : (-20000 ≤ v.1 ∧ v.1 ≤ 20000) ∧ (-20000 ≤ v.2 ∧ v.2 ≤ 20000) := by simpa [validB, inB] using hv
  unfold Bd
  omega

/-- What Apart says: whether, and the error. -/
def apE (a b : List Pt) (v : Pt) : Int := if conE a = 0 then (if conE b = 0 then (if validB v.1 v.2 20000 then 0 else 1) else conE b) else conE a
def apX (a b : List Pt) (v : Pt) : Bool := if apE a b v = 0 then apartB a (movedL b v) else false
theorem apE_zero {a b : List Pt} {v : Pt} (h : apE a b v = 0) : conE a = 0 ∧ conE b = 0 ∧ validB v.1 v.2 20000 = true := by
  unfold apE at h
  split at h
  · split at h
    · split at h
      · exact ⟨by assumption, by assumption, by assumption⟩
      · cases h
    · rename_i h1 h2; exact absurd h h2
  · rename_i h2; exact absurd h h2
theorem convs_two (a b : List Pt) : convsE [a, b] = if conE a = 0 then conE b else conE a := by
  show (if conE a = 0 then (if conE b = 0 then 0 else conE b) else conE a) = _
  split
  · split
    · rename_i h; exact h.symm
    · rfl
  · rfl

end Go.Proofs.YtlekncamokiekaaGreatDoor

/- The reference's Moved, parts and Apart. -/
namespace Go.Proofs.YtlekncamokiekaaGreatDoor
open Go.RowKit Go.Sort
attribute [local go_sem ↓] run_min_mn run_max_mx Go.wp_at_zero Go.wp_at_succ

theorem PtsOwn.low {w : World} {base base' : Nat} {v : Value} {xs : List Pt} (h : PtsOwn w base v xs) (hb : base' ≤ base) : PtsOwn w base' v xs := by
  unfold PtsOwn World.ownsRow at *
  obtain ⟨h1, h2⟩ := h
  refine ⟨h1, ?_⟩
  rcases h2 with h2 | ⟨g, cap, cur, e, hg, r⟩
  · exact .inl h2
  · exact .inr ⟨g, cap, cur, e, Nat.le_trans hb hg, r⟩
theorem PtsOwn.alloc {w : World} {base : Nat} {v : Value} {xs : List Pt} (h : PtsOwn w base v xs) (o : Obj) : PtsOwn (w.alloc o) base v xs := World.ownsRow.alloc h o
theorem PtsOwn.drew {w : World} {base : Nat} {v : Value} {xs : List Pt} (h : PtsOwn w base v xs) : PtsOwn w.drew base v xs := h
theorem PtsOwn.base {w : World} {base : Nat} {v : Value} {xs : List Pt} (h : PtsOwn w base v xs) : ∀ k, v.ownBlock = some k → base ≤ k ∧ k < w.heap.size := World.ownsRow.lt h
theorem PtsAt.one (W : World) (x y : Int) : PtsAt (W.alloc (.cells #[.int .i64 x, .int .i64 y] 41)) (some ⟨W.heap.size, 0, none⟩) [(x, y)] := fun _ =>
  ⟨W.heap.size, 0, rfl, by simp, fun i p hp => by
    match i, hp with
    | 0, hp =>
      obtain rfl : (x, y) = p := by simpa using hp
      constructor <;> simp [World.cell?_alloc_new]⟩

/-- An append as one step of a region that draws its order. -/
theorem step_papp {w : World} {ops : Array Oper} {o : Oper} {a : Act} {K : Act → World → Prop} {Q : Exit → Act → World → Prop} {E : Prop} (hgd : o.guard = none) (s x : Operand)
    (ho : o.op = .call { callee := .builtin .append, args := #[s, x], argTypes := #[22, 22] }) (base : Nat) (v : Value) (xs ys : List Pt) (A : Option Addr) (m c : Nat)
    (hs : a.eval s = v) (hx : a.eval x = .slice A m c) (hown : PtsOwn w base v xs) (hm : ys.length = m) (hy : PtsAt w A ys) (hlen : xs.length + ys.length ≤ 100000) (hb : base ≤ w.heap.size)
    (h : ∀ v' w', PtsOwn w' base v' (xs ++ ys) → w.grownBy w' v.ownBlock → (v'.ownBlock = v.ownBlock ∨ v'.ownBlock = some w.heap.size) → K (a.put o.dst v') w') :
    if Region.wanted o (yielded ops a.tmps) = true then Oper.wp Tryz.prog o a w K Q else E := by
  have hw : Region.wanted o (yielded ops a.tmps) = true := by simp [Region.wanted, hgd]
  rw [if_pos hw]
  subst hm
  obtain ⟨v', w', hr, h2, h3, h4⟩ := papp_run hown c hy hlen hb o.type
  unfold Oper.wp execOp
  simp only [ho, resolve, invoke, builtin, Sem.run_bind, Sem.run_pure, Result.andThen_ok, List.map_toArray, List.map_cons, List.map_nil, hs, hx, hr]
  exact h v' w' h2 h3 h4

/-- Four cells of old blocks stay behind an append to a row of the call's own. -/
theorem cells4_grown {w W w1 : World} {b o1 o2 g B : Nat} {v1 v2 v3 v4 : Value} {row : Option Nat} (hg : W.grownBy w1 row) (hr : ∀ k, row = some k → B ≤ k) (hb : b < B) (hgg : g < B) (hs : B ≤ W.heap.size)
    (h : W.cell? ⟨b, o1, none⟩ = some v1 ∧ W.cell? ⟨b, o2, none⟩ = some v2 ∧ W.cell? ⟨g, 0, none⟩ = some v3 ∧ W.cell? ⟨g, 1, none⟩ = some v4) :
    w1.cell? ⟨b, o1, none⟩ = some v1 ∧ w1.cell? ⟨b, o2, none⟩ = some v2 ∧ w1.cell? ⟨g, 0, none⟩ = some v3 ∧ w1.cell? ⟨g, 1, none⟩ = some v4 := by
  have hB : Below B W w1 := (Below.refl _ _).grown hg hs hr
  exact ⟨(hB.cell (p := ⟨b, _, none⟩) hb).trans h.1, (hB.cell (p := ⟨b, _, none⟩) hb).trans h.2.1, (hB.cell (p := ⟨g, _, none⟩) hgg).trans h.2.2.1, (hB.cell (p := ⟨g, _, none⟩) hgg).trans h.2.2.2⟩

def RefMovedTo (l : List Pt) (w : World) (e : Ending) (w' : World) : Prop := ∃ v, e = .returned v ∧ PtsOwn w' w.heap.size v l ∧ Below w.heap.size w w'

def rightQ (p q x : Pt) : Bool := decide (crossP p q x ≤ 0)
def partsAt (a b : List Pt) (i : Nat) : Bool := b.all (rightQ (gt a i) (nx a i))
def partsB (a b : List Pt) : Bool := (List.range a.length).any (partsAt a b)
theorem parts_at (a b : List Pt) (i : Nat) : partsAt a b i = beyondAt a b i := by
  unfold partsAt beyondAt anyLeft
  generalize gt a i = p
  generalize nx a i = q
  induction b with
  | nil => rfl
  | cons x b ih =>
    rw [List.all_cons, List.any_cons, ih, Bool.not_or]
    congr 1
    unfold rightQ leftQ
    by_cases h : crossP p q x ≤ 0
    · rw [decide_eq_true h, decide_eq_false (by omega)]; rfl
    · rw [decide_eq_false h, decide_eq_true (by omega)]; rfl
theorem parts_same (a b : List Pt) : partsB a b = beyondB a b := by
  unfold partsB beyondB
  rw [show partsAt a b = beyondAt a b from funext (parts_at a b)]

end Go.Proofs.YtlekncamokiekaaGreatDoor

/- Package shape's chain. -/
namespace Go.Proofs.YtlekncamokiekaaGreatDoor
open Go.RowKit Go.Sort
attribute [local go_sem ↓] run_min_mn run_max_mx Go.wp_at_zero Go.wp_at_succ

theorem PtsOwn.nil (w : World) (base : Nat) : PtsOwn w base (.slice none 0 0) [] := by
  unfold PtsOwn World.ownsRow
  exact ⟨by simp [ptsV], .inl ⟨rfl, rfl⟩⟩
theorem ptsV_take : ∀ (l : List Pt) (k : Nat), (ptsV l).take (k * 2) = ptsV (l.take k)
  | [], k => by simp [ptsV]
  | p :: l, 0 => by simp [ptsV]
  | p :: l, k + 1 => by
    rw [show (k + 1) * 2 = k * 2 + 1 + 1 by omega]
    simp only [ptsV, List.take_succ_cons, ptsV_take l k]
theorem PtsOwn.shrink {w : World} {base : Nat} {A : Option Addr} {n c : Nat} {l : List Pt} (h : PtsOwn w base (.slice A n c) l) (hn : l.length = n) {k : Nat} (hk : k ≤ n) : PtsOwn w base (.slice A k c) (l.take k) := by
  have hlen : (l.take k).length = k := by rw [List.length_take]; omega
  unfold PtsOwn World.ownsRow at *
  rw [hn] at h
  rw [hlen]
  obtain ⟨h1, h2⟩ := h
  refine ⟨by rw [ptsV_length, hlen], ?_⟩
  rcases h2 with ⟨e1, e2⟩ | ⟨g, cap, cur, e, hb, hg, hnc, hh, hsz, ht⟩
  · left
    have : n = 0 := e2
    have hk0 : k = 0 := by omega
    subst hk0
    simp only [Value.slice.injEq] at e1
    exact ⟨by rw [e1.1, e1.2.2], rfl⟩
  · right
    simp only [Value.slice.injEq] at e
    obtain ⟨rfl, -, rfl⟩ := e
    refine ⟨g, c, cur, rfl, hb, hg, by omega, hh, hsz, ?_⟩
    rw [← ptsV_take, ← ht, List.take_take]
    congr 1
    omega
theorem PtsOwn.belows {w w' : World} {base B : Nat} {v : Value} {xs : List Pt} (h : PtsOwn w base v xs) (hb : Below B w w') (hB : w.heap.size ≤ B) : PtsOwn w' base v xs := by
  unfold PtsOwn World.ownsRow at *
  obtain ⟨h1, h2⟩ := h
  refine ⟨h1, ?_⟩
  rcases h2 with h2 | ⟨g, cap, cur, e, hb1, hg, hr⟩
  · exact .inl h2
  · exact .inr ⟨g, cap, cur, e, hb1, (hb.block g (Nat.lt_of_lt_of_le (Array.getElem?_eq_some_iff.1 hg).1 hB)).trans hg, hr⟩

theorem popW_suffix (x : Pt) : ∀ st : List Pt, popW x st <:+ st
  | [] => List.suffix_refl _
  | [_] => List.suffix_refl _
  | b :: a :: r => by
    rw [popW]
    split
    · exact (popW_suffix x (a :: r)).trans (List.suffix_cons _ _)
    · exact List.suffix_refl _
theorem chainW_mem : ∀ (l st : List Pt) (s : Pt), s ∈ l.foldl pushW st → s ∈ l ∨ s ∈ st
  | [], _, _, h => .inr h
  | x :: l, st, s, h => by
    rcases chainW_mem l (pushW st x) s h with h | h
    · exact .inl (List.mem_cons_of_mem _ h)
    · rcases List.mem_cons.1 h with rfl | h
      · exact .inl (by simp)
      · exact .inr ((popW_suffix x st).subset h)
theorem chainW_len : ∀ (l st : List Pt), (l.foldl pushW st).length ≤ l.length + st.length
  | [], _ => by simp
  | x :: l, st => by
    have h1 := chainW_len l (pushW st x)
    have h2 := (popW_suffix x st).length_le
    simp only [List.foldl_cons, List.length_cons, pushW] at h1 ⊢
    omega

theorem PtsOwn.slice_n {w : World} {base : Nat} {v : Value} {l : List Pt} (h : PtsOwn w base v l) {n : Nat} (hn : l.length = n) : ∃ A c, v = .slice A n c ∧ n ≤ c ∧ PtsAt w A l := by
  obtain ⟨A, c, h1, h2, h3, _⟩ := h.slice
  exact ⟨A, c, by rw [h1, hn], by rw [← hn]; exact h2, h3⟩
def slLen : Value → Nat
  | .slice _ n _ => n
  | _ => 0

end Go.Proofs.YtlekncamokiekaaGreatDoor

/- slices.Clone of points. -/
namespace Go.Proofs.YtlekncamokiekaaGreatDoor
open Go.RowKit Go.Sort
attribute [local go_sem ↓] run_min_mn run_max_mx

end Go.Proofs.YtlekncamokiekaaGreatDoor

/- slices.SortFunc by package tile's compare, and slices.Reverse, on a row of the call's own. -/
namespace Go.Proofs.YtlekncamokiekaaGreatDoor
open Go.RowKit Go.Sort
attribute [local go_sem ↓] run_min_mn run_max_mx

set_option maxRecDepth 100000 in
set_option maxHeartbeats 1000000 in
theorem compare_lays (ax ay bx by' : Int) (w : World) :
    Calls Tryz.prog 37 #[.agg #[.int .i64 ax, .int .i64 ay], .agg #[.int .i64 bx, .int .i64 by']] w fun e w' =>
      e = .returned (.int .i64 (cmpP ax ay bx by')) ∧ ∃ q os', w' = grow (w.drewN q) os' := by
  have C1 := fun W => Lib.hid ((cmpI_any ay by' W).mono fun _ _ h => And.intro h.1 h.2.symm)
  have C2 := fun W => Lib.hid ((cmpI_any ax bx W).mono fun _ _ h => And.intro h.1 h.2.symm)
  have H : Hid (cmpP ax ay bx by' = orI (cmpI ay by') (cmpI ax bx)) := Lib.hid rfl
  generalize cmpI ay by' = u at *
  generalize cmpI ax bx = v at *
  generalize cmpP ax ay bx by' = r at *
  go_enter Tryz.func37, Tryz.ntmps37
  go_wp2_with fail
  have B := boxed2 w ax ay bx by'
  have HW : Hid (((w.alloc (Go.Proofs.YtlekncamokiekaaGreatDoor.bx ax ay)).alloc (Go.Proofs.YtlekncamokiekaaGreatDoor.bx bx by')) = grow w #[Go.Proofs.YtlekncamokiekaaGreatDoor.bx ax ay, Go.Proofs.YtlekncamokiekaaGreatDoor.bx bx by']) := Lib.hid (by
    rw [alloc_eq_grow, alloc_eq_grow, grow_grow]; rfl)
  generalize ((w.alloc (Go.Proofs.YtlekncamokiekaaGreatDoor.bx ax ay)).alloc (Go.Proofs.YtlekncamokiekaaGreatDoor.bx bx by')) = W0 at *
  obtain ⟨⟨a1, a2⟩, ⟨b1, b2⟩, hb, hz⟩ := B
  clear hb hz
  refine wp_region_still_tail 10 (by kernel_rfl) (by kernel_rfl) ?_
  simp only [List.take_succ_cons, List.take_zero, List.drop_succ_cons, List.drop_zero]
  change wpStill _ _ W0.drew _ _ _
  replace a1 : W0.drew.cell? _ = _ := a1
  replace a2 : W0.drew.cell? _ = _ := a2
  replace b1 : W0.drew.cell? _ = _ := b1
  replace b2 : W0.drew.cell? _ = _ := b2
  iterate 4 still_step
  still_call (C1 _).out
  iterate 4 still_step
  still_call (C2 _).out
  refine wpStill_nil ?_
  change wpList _ _ _ _ _ W0.drew
  go_wp2_with fail
  refine (or_any _ u v _ (by go_simp) (by go_simp)).mono ?_
  rintro e w' ⟨rfl, rfl⟩
  go_wp2
  go_ret
  refine ⟨retS_int H.out.symm, 1, #[Go.Proofs.YtlekncamokiekaaGreatDoor.bx ax ay, Go.Proofs.YtlekncamokiekaaGreatDoor.bx bx by'] ++ #[Obj.cells #[Value.int IntKind.i64 u, Value.int IntKind.i64 v] 3], ?_⟩
  rw [HW.out, alloc_eq_grow, grow_grow, drew_grow]
  rfl

/-- A point's two cells. -/
def encP (x : Pt) : List Value := [.int .i64 x.1, .int .i64 x.2]
theorem ptsV_enc : ∀ l : List Pt, ptsV l = l.flatMap encP
  | [] => rfl
  | p :: l => by simp only [ptsV, List.flatMap_cons, encP, ptsV_enc l]; rfl
theorem ptsV_at' {l : List Pt} {t : Nat} (h : t < l.length * 2) : (ptsV l)[t]? = some ((encP (gt l (t / 2)))[t % 2]!) := by
  have hi : t / 2 < l.length := by omega
  have hg : l[t / 2]? = some (gt l (t / 2)) := by
    unfold gt; rw [List.getD_eq_getElem?_getD, List.getElem?_eq_getElem hi]; rfl
  obtain ⟨h1, h2⟩ := ptsV_get l (t / 2) _ hg
  rcases Nat.mod_two_eq_zero_or_one t with e | e
  · rw [e, show t = t / 2 * 2 by omega, h1, show t / 2 * 2 / 2 = t / 2 by omega]; rfl
  · rw [e]
    have : t = t / 2 * 2 + 1 := by omega
    rw [this, h2, show (t / 2 * 2 + 1) / 2 = t / 2 by omega]; rfl
theorem gt_arr (l : List Pt) (i : Nat) : (l.toArray)[i]! = gt l i := by
  unfold gt
  rw [List.getD_eq_getElem?_getD]
  simp only [List.getElem!_toArray]
  rw [List.getElem!_eq_getElem?_getD]
  rfl

theorem holds_own {w : World} {base g n c : Nat} {l : List Pt} (h : PtsOwn w base (.slice (some ⟨g, 0, none⟩) n c) l) (hn : l.length = n) : HoldsK encP 2 w g 0 l.toArray := by
  unfold PtsOwn World.ownsRow at h
  obtain ⟨h1, h2⟩ := h
  rcases h2 with ⟨e, _⟩ | ⟨g', cap, cur, e, hb, hg, hnc, hh, hsz, ht⟩
  · cases e
  · simp only [Value.slice.injEq, Option.some.injEq, Addr.mk.injEq] at e
    obtain ⟨⟨rfl, -, -⟩, -, -⟩ := e
    intro j hj
    rw [size_flatK] at hj
    have hj2 : j < l.length * 2 := by simpa using hj
    rw [get_flatK _ _ _ _ hj, gt_arr]
    refine ⟨?_, ?_⟩
    · rw [cell_of_row w g _ cur _ (0, 0) hg, Nat.zero_add]
      have := ptsV_at' hj2
      rw [← ht, List.getElem?_take, if_pos hj2] at this
      simpa using this
    · simp [World.frozen?, hg]

/-- The row after a sort, or whatever else lays it anew. -/
theorem own_laid {w : World} {base g n c m : Nat} {l l' : List Pt} {os : Array Obj} (h : PtsOwn w base (.slice (some ⟨g, 0, none⟩) n c) l) (hn : l.length = n) (hn' : l'.length = n) :
    PtsOwn (sortWorldK encP 2 w g 0 m l'.toArray os) base (.slice (some ⟨g, 0, none⟩) n c) l' ∧ w.grownBy (sortWorldK encP 2 w g 0 m l'.toArray os) (some g) := by
  unfold PtsOwn World.ownsRow at *
  obtain ⟨h1, h2⟩ := h
  rcases h2 with ⟨e, _⟩ | ⟨g', cap, cur, e, hb, hg, hnc, hh, hsz, ht⟩
  · cases e
  · simp only [Value.slice.injEq, Option.some.injEq, Addr.mk.injEq] at e
    obtain ⟨⟨rfl, -, -⟩, -, rfl⟩ := e
    have hgl : g < w.heap.size := (Array.getElem?_eq_some_iff.1 hg).1
    rw [hn] at ht hnc
    have hrow : (sortWorldK encP 2 w g 0 m l'.toArray os).heap[g]? = some (.cells (putCells id 0 (flatK encP 2 l'.toArray) cur) 41 (0, 0)) := by
      unfold sortWorldK grow putRowK putRow mapBlock Go.Sort.ahead
      simp only
      rw [Array.getElem?_append_left (by simpa using hgl), Array.getElem?_modify, if_pos rfl, hg]
      rfl
    refine ⟨⟨by rw [ptsV_length], .inr ⟨g, c, _, by rw [hn'], hb, hrow, by rw [hn']; exact hnc, hh, by simp [putCells, hsz], ?_⟩⟩, ?_⟩
    · apply List.ext_getElem?
      intro t
      rw [List.getElem?_take]
      by_cases q : t < l'.length * 2
      · rw [if_pos q, ptsV_at' q]
        have hc : t < cur.size := by rw [hsz]; have : l'.length * 2 ≤ c * 2 := by omega
                                     omega
        simp only [putCells, Array.getElem?_toList, Array.getElem?_mapIdx, Array.getElem?_eq_getElem hc, Option.map_some]
        rw [if_pos ⟨Nat.zero_le _, by simpa using q⟩, Nat.sub_zero, get_flatK _ _ _ _ (by simpa using q), gt_arr]
        rfl
      · rw [if_neg q, List.getElem?_eq_none (by rw [ptsV_length]; omega)]
    · refine ⟨rfl, rfl, rfl, by simp [sortWorldK, putRowK], fun k hk hne => ?_⟩
      have hkg : ¬ g = k := fun e => hne (by rw [e])
      unfold sortWorldK grow putRowK putRow mapBlock Go.Sort.ahead
      simp only
      rw [Array.getElem?_append_left (by simp; omega), Array.getElem?_modify, if_neg hkg]

theorem PtsOwn.other {w w' : World} {base g : Nat} {v : Value} {l : List Pt} (h : PtsOwn w base v l) (hg : w.grownBy w' (some g)) (hne : v.ownBlock ≠ some g) : PtsOwn w' base v l := by
  unfold PtsOwn World.ownsRow at *
  obtain ⟨h1, h2⟩ := h
  refine ⟨h1, ?_⟩
  rcases h2 with h2 | ⟨k, cap, cur, e, hb1, hk, hr⟩
  · exact .inl h2
  · refine .inr ⟨k, cap, cur, e, hb1, (hg.block k (Array.getElem?_eq_some_iff.1 hk).1 (fun q => hne ?_)).trans hk, hr⟩
    rw [e]; exact q
theorem PtsOwn.row {w : World} {base : Nat} {v : Value} {l : List Pt} {n : Nat} (h : PtsOwn w base v l) (hn : l.length = n) (h0 : 0 < n) :
    ∃ g c, v = .slice (some ⟨g, 0, none⟩) n c ∧ n ≤ c ∧ base ≤ g ∧ g < w.heap.size ∧ PtsIn w g 0 l := by
  obtain ⟨A, c, e, h1, hat, hbase⟩ := h.slice
  obtain ⟨g, og, rfl, hg, hin⟩ := hat (by intro e; subst e; simp at hn; omega)
  have hog : og = 0 := by
    subst e
    rcases h.2 with ⟨e, _⟩ | ⟨g', cap, cur, e, _⟩
    · cases e
    · simp only [Value.slice.injEq, Option.some.injEq, Addr.mk.injEq] at e; exact e.1.2.1
  subst hog
  rw [hn] at e h1
  exact ⟨g, c, e, h1, hbase _ rfl, hg, hin⟩

/-- Sorted points. -/
theorem sorted_of {l' : List Pt} (h : SortedIn (fun x y => decide (cmpQ x y < 0)) 0 l'.toArray.size l'.toArray) : l'.Pairwise leP := by
  rw [List.pairwise_iff_getElem]
  intro i j hi hj hij
  have := h i j (Nat.zero_le _) hij (by simpa using hj)
  simp only [gt_arr] at this
  have e1 : gt l' i = l'[i] := by unfold gt; rw [List.getD_eq_getElem?_getD, List.getElem?_eq_getElem hi]; rfl
  have e2 : gt l' j = l'[j] := by unfold gt; rw [List.getD_eq_getElem?_getD, List.getElem?_eq_getElem hj]; rfl
  rw [e1, e2, cmpQ_first] at this
  rcases leP_total l'[i] l'[j] with g | g
  · exact g
  · exfalso
    have : firstP l'[j] l'[i] = true := by
      unfold firstP firstB
      unfold ltP at g
      simp only [Bool.or_eq_true, Bool.and_eq_true, decide_eq_true_eq, beq_iff_eq]
      omega
    simp_all

end Go.Proofs.YtlekncamokiekaaGreatDoor

/- Sorting by package tile's compare. -/
namespace Go.Proofs.YtlekncamokiekaaGreatDoor
open Go.RowKit Go.Sort
attribute [local go_sem ↓] run_min_mn run_max_mx Go.wp_at_zero Go.wp_at_succ

/-- What slices.SortFunc does by package tile's compare. -/
def SortsPts : Prop := ∀ (blk off cap : Nat) (d : Array Pt) (w : World), HoldsK encP 2 w blk off d → blk < w.heap.size → d.size < 4611686018427387904 →
  Calls Tryz.prog 39 #[.slice (some ⟨blk, off, none⟩) d.size cap, .func (.func 37) #[] #[]] w fun e w' =>
    e = .returned (.tuple #[]) ∧ ∃ d' n os, PermIn 0 d.size d d' ∧ SortedIn (fun x y => decide (cmpQ x y < 0)) 0 d.size d' ∧ w' = sortWorldK encP 2 w blk off n d' os
def SortedTo (g n c : Nat) (l : List Pt) (base : Nat) (w : World) (e : Ending) (w' : World) : Prop :=
  e = .returned (.tuple #[]) ∧ ∃ l', l'.Perm l ∧ l'.Pairwise leP ∧ PtsOwn w' base (.slice (some ⟨g, 0, none⟩) n c) l' ∧ w.grownBy w' (some g)

theorem sort_own (hS : SortsPts) {w : World} {base g n c : Nat} {l : List Pt} (h : PtsOwn w base (.slice (some ⟨g, 0, none⟩) n c) l) (hn : l.length = n) (hb : n ≤ 1000) (hg : g < w.heap.size) :
    Calls Tryz.prog 39 #[.slice (some ⟨g, 0, none⟩) n c, .func (.func 37) #[] #[]] w (SortedTo g n c l base w) := by
  have k := hS g 0 c l.toArray w (holds_own h hn) hg (by simp; omega)
  simp only [List.size_toArray, hn] at k
  refine k.mono ?_
  rintro e w' ⟨rfl, d', m, os, hp, hs, rfl⟩
  obtain ⟨d', rfl⟩ : ∃ l' : List Pt, d' = l'.toArray := ⟨d'.toList, by simp⟩
  have hsz : d'.length = n := by have := hp.1; simpa [hn] using this
  have hperm : d'.Perm l := by
    have := hp.2.2
    simpa [← hn, List.take_of_length_le (show d'.length ≤ l.length by omega)] using this
  obtain ⟨o1, o2⟩ := own_laid (m := m) (os := os) h hn hsz
  refine ⟨rfl, d', hperm, sorted_of (by simpa [hsz] using hs), o1, o2⟩

end Go.Proofs.YtlekncamokiekaaGreatDoor

/- The reference's Hull. -/
namespace Go.Proofs.YtlekncamokiekaaGreatDoor
open Go.RowKit Go.Sort
attribute [local go_sem ↓] run_min_mn run_max_mx Go.wp_at_zero Go.wp_at_succ

def flat0 (l : List Pt) (i k : Nat) : Bool := crossP (gt l 0) (gt l i) (gt l k) == 0
def flatAt (l : List Pt) (i : Nat) : Bool := (List.range l.length).all (flat0 l i)
def flatTo (l : List Pt) (i : Nat) : Bool := (List.range i).all (flatAt l)
def lowTo (l : List Pt) : Nat → Pt
  | 0 => gt l 0
  | i + 1 => if firstP (gt l i) (lowTo l i) then gt l i else lowTo l i

/-- What the reference's Hull leaves: nothing where the points lie on one line, else the hull. -/
def RefHullTo (l H : List Pt) (w : World) (e : Ending) (w' : World) : Prop :=
  Below w.heap.size w w' ∧ ((flatTo l l.length = true ∧ e = .returned (.tuple #[.slice none 0 0, .bool false])) ∨
    (flatTo l l.length = false ∧ ∃ v, e = .returned (.tuple #[v, .bool true]) ∧ PtsOwn w' w.heap.size v H))

theorem PtBlk.one {w : World} {g : Nat} {x y : Int} (h : PtBlk w g [(x, y)]) : PtAt w g x y := by
  obtain ⟨h1, h2⟩ := h.cell (i := 0) (p := (x, y)) rfl
  exact ⟨by simpa using h1, by simpa using h2⟩
theorem PtBlk.put {w : World} {g : Nat} {p : Pt} (h : PtBlk w g [p]) (x y : Int) : PtBlk ((w.setCell ⟨g, 0, none⟩ (.int .i64 x)).setCell ⟨g, 1, none⟩ (.int .i64 y)) g [(x, y)] := by
  simpa using h.set 0 x y
theorem PtBlk.box (w : World) (x y : Int) : PtBlk (w.alloc (bx x y)) w.heap.size [(x, y)] := heap_alloc_new _ _

theorem PtsOwn.one (W : World) (x y : Int) {base : Nat} (hb : base ≤ W.heap.size) : PtsOwn (W.alloc (bx x y)) base (.slice (some ⟨W.heap.size, 0, none⟩) 1 1) [(x, y)] := by
  unfold PtsOwn World.ownsRow
  exact ⟨rfl, .inr ⟨W.heap.size, 1, _, rfl, hb, heap_alloc_new _ _, Nat.le_refl _, by simp [maxLen], rfl, rfl⟩⟩
theorem eqI_iff {a b c d : Int} : eqI a b c d = true ↔ (a, b) = (c, d) := by simp [eqI]

theorem wrap_mem (a : Pt) : ∀ (l : List Pt) (cur : Pt), l.foldl (wrapStep a) cur ∈ l ∨ l.foldl (wrapStep a) cur = cur
  | [], _ => .inr rfl
  | p :: l, cur => by
    rw [List.foldl_cons]
    rcases wrap_mem a l (wrapStep a cur p) with h | h
    · exact .inl (List.mem_cons_of_mem _ h)
    · rw [h]
      unfold wrapStep
      split
      · exact .inr rfl
      · split
        · exact .inl (by simp)
        · exact .inr rfl

theorem flatTo_succ (l : List Pt) (i : Nat) : flatTo l (i + 1) = (flatTo l i && flatAt l i) := by
  unfold flatTo; rw [List.range_succ, List.all_append]; simp
theorem range_all_succ (f : Nat → Bool) (k : Nat) : (List.range (k + 1)).all f = ((List.range k).all f && f k) := by
  rw [List.range_succ, List.all_append]; simp
theorem lowTo_mem {l : List Pt} (h : 0 < l.length) : ∀ i, i ≤ l.length → lowTo l i ∈ l
  | 0, _ => by
    show gt l 0 ∈ l
    unfold gt; rw [List.getD_eq_getElem?_getD, List.getElem?_eq_getElem h]; exact List.getElem_mem h
  | i + 1, hi => by
    unfold lowTo
    split
    · have : i < l.length := by omega
      unfold gt; rw [List.getD_eq_getElem?_getD, List.getElem?_eq_getElem this]; exact List.getElem_mem this
    · exact lowTo_mem h i (by omega)

end Go.Proofs.YtlekncamokiekaaGreatDoor

/- Package shape's Hull and the reference's find the same; the reference's Same. -/
namespace Go.Proofs.YtlekncamokiekaaGreatDoor
open Go.RowKit Go.Sort
attribute [local go_sem ↓] run_min_mn run_max_mx Go.wp_at_zero Go.wp_at_succ

/-- What Hull leaves. -/
def HullXTo (l : List Pt) (w : World) (e : Ending) (w' : World) : Prop :=
  Below w.heap.size w w' ∧ ((ptsB l 1 = false ∧ e = .returned (.tuple #[.slice none 0 0, .int .i64 1])) ∨
    (ptsB l 1 = true ∧ ∃ s, s.Perm l ∧ s.Pairwise leP ∧ (((hullL s).length < 3 ∧ e = .returned (.tuple #[.slice none 0 0, .int .i64 6])) ∨
      (3 ≤ (hullL s).length ∧ ∃ v, e = .returned (.tuple #[v, .int .i64 0]) ∧ PtsOwn w' w.heap.size v (hullL s)))))

theorem hullL_len (s : List Pt) : (hullL s).length ≤ 2 * s.length := by
  have h1 := chainW_len s []
  have h2 := chainW_len s.reverse []
  simp only [List.length_nil, List.length_reverse] at h1 h2
  unfold hullL chainW
  simp only [List.length_append, List.length_dropLast, List.length_reverse]
  omega

theorem ptsB_1 {l : List Pt} : ptsB l 1 = true ↔ 1 ≤ l.length ∧ l.length ≤ 32 ∧ l.all okP = true := by
  unfold ptsB
  simp only [Bool.and_eq_true, decide_eq_true_eq]
  exact ⟨fun ⟨⟨a, b⟩, c⟩ => ⟨a, b, c⟩, fun ⟨a, b, c⟩ => ⟨⟨a, b⟩, c⟩⟩

theorem flatTo_iff {l : List Pt} (h : 0 < l.length) : flatTo l l.length = true ↔ Flat l (gt l 0) := by
  have gm : ∀ i, i < l.length → gt l i ∈ l := fun i hi => by
    unfold gt; rw [List.getD_eq_getElem?_getD, List.getElem?_eq_getElem hi]; exact List.getElem_mem hi
  have mg : ∀ p ∈ l, ∃ i, i < l.length ∧ gt l i = p := fun p hp => by
    obtain ⟨i, hi, e⟩ := List.getElem_of_mem hp
    exact ⟨i, hi, by unfold gt; rw [List.getD_eq_getElem?_getD, List.getElem?_eq_getElem hi]; exact e⟩
  unfold flatTo flatAt flat0 Flat
  simp only [List.all_eq_true, List.mem_range, beq_iff_eq]
  constructor
  · intro hh a ha b hb
    obtain ⟨i, hi, rfl⟩ := mg a ha
    obtain ⟨k, hk, rfl⟩ := mg b hb
    exact hh i hi k hk
  · intro hh i hi k hk
    exact hh _ (gm i hi) _ (gm k hk)

theorem firstP_iff {a b : Pt} : firstP a b = true ↔ ltP a b := by
  unfold firstP firstB ltP
  simp only [Bool.or_eq_true, Bool.and_eq_true, decide_eq_true_eq, beq_iff_eq]
theorem lowTo_le (l : List Pt) : ∀ k i, i < k → leP (lowTo l k) (gt l i)
  | 0, _, h => by omega
  | k + 1, i, h => by
    unfold lowTo
    split
    · rename_i hf
      have hlt := firstP_iff.1 hf
      rcases Nat.lt_or_eq_of_le (Nat.le_of_lt_succ h) with h | rfl
      · exact leP_trans (.inr hlt) (lowTo_le l k i h)
      · exact leP_refl _
    · rename_i hf
      rcases Nat.lt_or_eq_of_le (Nat.le_of_lt_succ h) with h | rfl
      · exact lowTo_le l k i h
      · rcases leP_total (lowTo l i) (gt l i) with g | g
        · exact g
        · exact absurd (firstP_iff.2 g) hf

/-- Both find the same. -/
theorem hull_both {l s : List Pt} (h0 : 0 < l.length) (hp : s.Perm l) (hs : s.Pairwise leP) :
    (flatTo l l.length = true ↔ (hullL s).length < 3) ∧ (flatTo l l.length = false → Hull l (hullL s) (lowTo l l.length)) := by
  cases s with
  | nil => have := hp.length_eq; simp at this; omega
  | cons x m =>
    have hm : ∀ p, p ∈ l ↔ p ∈ x :: m := fun p => hp.mem_iff.symm
    have hg0 : gt l 0 ∈ l := by
      unfold gt; rw [List.getD_eq_getElem?_getD, List.getElem?_eq_getElem h0]; exact List.getElem_mem h0
    have hlow : lowTo l l.length = x := by
      have h1 := lowTo_mem h0 l.length (Nat.le_refl _)
      have h2 : leP x (lowTo l l.length) := by
        rcases List.mem_cons.1 ((hm _).1 h1) with e | e
        · rw [e]; exact leP_refl _
        · exact (List.pairwise_cons.1 hs).1 _ e
      obtain ⟨i, hi, e⟩ := List.getElem_of_mem ((hm x).2 (by simp))
      have h3 := lowTo_le l l.length i hi
      have e2 : gt l i = x := by unfold gt; rw [List.getD_eq_getElem?_getD, List.getElem?_eq_getElem hi]; exact e
      rw [e2] at h3
      exact leP_anti h3 h2
    rcases hull_ok hs with ⟨h1, h2⟩ | h
    · have hf : flatTo l l.length = true := (flatTo_iff h0).2 (flat_one (fun p hp => h1 p ((hm p).1 hp)) hg0)
      exact ⟨⟨fun _ => by omega, fun _ => hf⟩, fun e => by rw [hf] at e; cases e⟩
    · have h' := h.mem hm
      refine ⟨(flatTo_iff h0).trans (hull_flat h' hg0), fun _ => by rw [hlow]; exact h'⟩

end Go.Proofs.YtlekncamokiekaaGreatDoor

/- Lists of polygons in slices of a call's own. -/
namespace Go.Proofs.YtlekncamokiekaaGreatDoor
open Go.RowKit Go.Sort

/-- A list of points at the head of a block of points. -/
def PtsTy (w : World) (A : Option Addr) (l : List Pt) : Prop := ∃ g cur, A = some ⟨g, 0, none⟩ ∧ w.heap[g]? = some (.cells cur 41 (0, 0)) ∧ PtsIn w g 0 l
theorem PtsTy.lt {w : World} {A : Option Addr} {l : List Pt} (h : PtsTy w A l) : ∃ g, A = some ⟨g, 0, none⟩ ∧ g < w.heap.size ∧ PtsIn w g 0 l := by
  obtain ⟨g, cur, rfl, h1, h2⟩ := h
  exact ⟨g, rfl, (Array.getElem?_eq_some_iff.1 h1).1, h2⟩
theorem PtsTy.at {w : World} {A : Option Addr} {l : List Pt} (h : PtsTy w A l) : PtsAt w A l := fun _ => by
  obtain ⟨g, e, h1, h2⟩ := h.lt
  exact ⟨g, 0, e, h1, h2⟩
theorem PtsIn.same {w w' : World} {g off : Nat} {l : List Pt} (h : PtsIn w g off l) (e : w'.heap[g]? = w.heap[g]?) : PtsIn w' g off l := fun i p hp => by
  obtain ⟨h1, h2⟩ := h i p hp
  exact ⟨(World.cell?_of_block (a := ⟨g, _, none⟩) e).trans h1, (World.cell?_of_block (a := ⟨g, _, none⟩) e).trans h2⟩
theorem PtsTy.below {w w' : World} {A : Option Addr} {l : List Pt} (h : PtsTy w A l) (hb : Below w.heap.size w w') : PtsTy w' A l := by
  obtain ⟨g, cur, rfl, h1, h2⟩ := h
  have hlt := (Array.getElem?_eq_some_iff.1 h1).1
  have e := hb.block g hlt
  exact ⟨g, cur, rfl, e.trans h1, h2.same e⟩
/-- It stays behind an append to a row of another type. -/
theorem PtsTy.kept {w w' : World} {A : Option Addr} {l : List Pt} {row : Option Nat} (h : PtsTy w A l) (hg : w.grownBy w' row) (hne : ∀ k cur, row = some k → w.heap[k]? ≠ some (.cells cur 41 (0, 0))) : PtsTy w' A l := by
  obtain ⟨g, cur, rfl, h1, h2⟩ := h
  have hlt := (Array.getElem?_eq_some_iff.1 h1).1
  have e := hg.block g hlt (fun e => hne g cur e.symm h1)
  exact ⟨g, cur, rfl, e.trans h1, h2.same e⟩
theorem PtBlk.ty {w : World} {g : Nat} {l : List Pt} (h : PtBlk w g l) : PtsTy w (some ⟨g, 0, none⟩) l := ⟨g, _, rfl, h, h.pts⟩
theorem PtsOwn.ty {w : World} {base : Nat} {v : Value} {l : List Pt} (h : PtsOwn w base v l) (hl : l ≠ []) : ∃ A c, v = .slice A l.length c ∧ PtsTy w A l ∧ ∀ a, A = some a → base ≤ a.block := by
  obtain ⟨A, c, e, -, h1, h2⟩ := h.slice
  refine ⟨A, c, e, ?_, h2⟩
  subst e
  rcases h.2 with ⟨hv, hn⟩ | ⟨g, cap, cur, hv, _, hg, _⟩
  · exact absurd (List.eq_nil_of_length_eq_zero hn) hl
  · simp only [Value.slice.injEq] at hv
    obtain ⟨rfl, -, -⟩ := hv
    obtain ⟨b, off, e, -, hp⟩ := h1 hl
    have e := Option.some.inj e
    simp only [Addr.mk.injEq] at e
    obtain ⟨rfl, rfl, -⟩ := e
    exact ⟨g, _, rfl, hg, hp⟩

abbrev Sl := Option Addr × Nat × Nat
def slV (ss : List Sl) : List Value := ss.map fun s => .slice s.1 s.2.1 s.2.2
/-- A slice of polygons of the call's own. -/
def PolysOwn (w : World) (base : Nat) (v : Value) (L : List (List Pt)) : Prop :=
  ∃ ss : List Sl, ss.length = L.length ∧ w.ownsRow base 22 1 v L.length (slV ss) ∧ ∀ (i : Nat) (s : Sl) (l : List Pt), ss[i]? = some s → L[i]? = some l → l.length = s.2.1 ∧ (l ≠ [] → PtsTy w s.1 l)
/-- A slice of polygons, to be read. -/
def PolysAt (w : World) (A : Option Addr) (L : List (List Pt)) : Prop := L ≠ [] → ∃ b off, A = some ⟨b, off, none⟩ ∧ b < w.heap.size ∧ PolysIn w b off L
theorem PolysAt.below {w w' : World} {A : Option Addr} {L : List (List Pt)} (h : PolysAt w A L) (hb : Below w.heap.size w w') : PolysAt w' A L := fun hne => by
  obtain ⟨b, off, e, hlt, hp⟩ := h hne
  exact ⟨b, off, e, Nat.lt_of_lt_of_le hlt hb.size, hp.below hb hlt⟩

theorem PolysOwn.nil (w : World) (base : Nat) : PolysOwn w base (.slice none 0 0) [] := ⟨[], rfl, World.ownsRow_nil _ _ _ _, fun i s l h => (by simp at h)⟩
theorem PolysOwn.empty (w : World) : PolysOwn (w.alloc (.cells #[] 22)) w.heap.size (.slice (some ⟨w.heap.size, 0, none⟩) 0 0) [] :=
  ⟨[], rfl, World.ownsRow_made w #[] 0 (Nat.le_refl _) (by simp [maxLen]) rfl, fun i s l h => (by simp at h)⟩
theorem PolysOwn.low {w : World} {base base' : Nat} {v : Value} {L : List (List Pt)} (h : PolysOwn w base v L) (hb : base' ≤ base) : PolysOwn w base' v L := by
  obtain ⟨ss, h1, h2, h3⟩ := h
  refine ⟨ss, h1, ⟨h2.1, ?_⟩, h3⟩
  rcases h2.2 with h2 | ⟨g, cap, cur, e, hg, r⟩
  · exact .inl h2
  · exact .inr ⟨g, cap, cur, e, Nat.le_trans hb hg, r⟩
theorem PolysOwn.base {w : World} {base : Nat} {v : Value} {L : List (List Pt)} (h : PolysOwn w base v L) : ∀ k, v.ownBlock = some k → base ≤ k ∧ k < w.heap.size := by
  obtain ⟨ss, -, h2, -⟩ := h
  exact h2.lt
theorem PolysOwn.typed {w : World} {base : Nat} {v : Value} {L : List (List Pt)} (h : PolysOwn w base v L) : ∀ k, v.ownBlock = some k → ∃ cur, w.heap[k]? = some (.cells cur 22 (0, 0)) := fun k hk => by
  obtain ⟨ss, -, h2, -⟩ := h
  rcases h2.2 with ⟨rfl, -⟩ | ⟨g, cap, cur, rfl, _, hg, _⟩
  · simp [Value.ownBlock] at hk
  · simp [Value.ownBlock] at hk
    subst hk
    exact ⟨_, hg⟩
theorem PolysOwn.kept {w w' : World} {base : Nat} {v : Value} {L : List (List Pt)} {row : Option Nat} (h : PolysOwn w base v L) (hg : w.grownBy w' row)
    (hne : ∀ k cur, row = some k → w.heap[k]? ≠ some (.cells cur 41 (0, 0)) ∧ w.heap[k]? ≠ some (.cells cur 22 (0, 0))) : PolysOwn w' base v L := by
  have ht := h.typed
  obtain ⟨ss, h1, h2, h3⟩ := h
  refine ⟨ss, h1, h2.kept hg ?_, fun i s l hs hl => ?_⟩
  · cases e : v.ownBlock with
    | none => exact .inl rfl
    | some k =>
      refine .inr fun e2 => ?_
      obtain ⟨cur, hc⟩ := ht k e
      exact (hne k cur e2.symm).2 hc
  · obtain ⟨h4, h5⟩ := h3 i s l hs hl
    exact ⟨h4, fun he => (h5 he).kept hg fun k cur e => (hne k cur e).1⟩
theorem PolysOwn.belows {w w' : World} {base : Nat} {v : Value} {L : List (List Pt)} (h : PolysOwn w base v L) (hb : Below w.heap.size w w') : PolysOwn w' base v L :=
  h.kept (row := none) ⟨hb.os, hb.tape, hb.output, hb.size, fun i hi _ => hb.block i hi⟩ (fun k cur e => by cases e)
theorem PolysOwn.slice {w : World} {base : Nat} {v : Value} {L : List (List Pt)} (h : PolysOwn w base v L) (hlen : ∀ l ∈ L, l.length ≤ 1000000) : ∃ A c, v = .slice A L.length c ∧ PolysAt w A L := by
  obtain ⟨ss, h1, h2, h3⟩ := h
  rcases h2.2 with ⟨rfl, hn⟩ | ⟨g, cap, cur, rfl, hb, hg, hnc, _, hsz, ht⟩
  · refine ⟨none, 0, by rw [hn], fun hne => absurd (List.eq_nil_of_length_eq_zero hn) hne⟩
  · refine ⟨_, cap, rfl, fun _ => ⟨g, 0, rfl, (Array.getElem?_eq_some_iff.1 hg).1, fun i l hi => ?_⟩⟩
    have hlt : i < ss.length := by rw [h1]; exact (List.getElem?_eq_some_iff.1 hi).1
    obtain ⟨h4, h5⟩ := h3 i ss[i] l (List.getElem?_eq_getElem hlt) hi
    refine ⟨ss[i].1, ss[i].2.1, ss[i].2.2, ?_, h4, by rw [← h4]; exact hlen l (List.mem_of_getElem? hi), fun he => (h5 he).at he⟩
    have hv : (slV ss)[i]? = some (.slice ss[i].1 ss[i].2.1 ss[i].2.2) := by unfold slV; rw [List.getElem?_map, List.getElem?_eq_getElem hlt]; rfl
    rw [← ht, List.getElem?_take] at hv
    rw [Nat.zero_add, cell_of_row w g _ cur _ (0, 0) hg]
    split at hv
    · simpa using hv
    · cases hv

theorem info_sl : (Tryz.prog.info? 22).map (fun i => (i.zero, i.size, i.bytes)) = some (some (.slice none 0 0), 1, 24) := by kernel_rfl

/-- An append of one polygon. -/
theorem plapp_run {w : World} {base : Nat} {v : Value} {L : List (List Pt)} (h : PolysOwn w base v L) {b : Nat} {A : Option Addr} {n c : Nat} {l : List Pt} (hc : w.cell? ⟨b, 0, none⟩ = some (.slice A n c)) (hl : l.length = n) (ht : l ≠ [] → PtsTy w A l)
    (hlen : L.length + 1 ≤ 100000) (hb : base ≤ w.heap.size) (ty : TypeId) :
    ∃ v' w', (Builtin.append_ #[31, 31] ty #[v, .slice (some ⟨b, 0, none⟩) 1 1]).run Tryz.prog w = .ok v' w' ∧ PolysOwn w' base v' (L ++ [l]) ∧ w.grownBy w' v.ownBlock ∧
      (v'.ownBlock = v.ownBlock ∨ v'.ownBlock = some w.heap.size) := by
  obtain ⟨i0, hi0, hz0, hz1, hz2⟩ := info_pparts info_sl
  have htt := h.typed
  obtain ⟨ss, h1, h2, h3⟩ := h
  obtain ⟨v', w', hr, h4, h5, _, h6⟩ := run_append_own_at (P := Tryz.prog) w base 31 ty 22 i0 _ 1 24 Tryz.underlying31 hi0 hz0 hz1 hz2 rfl (by omega) v L.length (slV ss) h2 ⟨b, 0, none⟩ 1 1 [.slice A n c] rfl
    (fun j u hu => by
      match j, hu with
      | 0, hu =>
        obtain rfl : Value.slice A n c = u := by simpa using hu
        exact hc)
    (fun u hu => by obtain rfl := List.mem_singleton.1 hu; rfl) (by simp [maxLen]; omega) (by omega) hb
  have keep : ∀ {A : Option Addr} {l : List Pt}, PtsTy w A l → PtsTy w' A l := fun {A l} hp => hp.kept h5 fun k cur e => by
    obtain ⟨cur', hc'⟩ := htt k e
    rw [hc']
    simp
  refine ⟨v', w', hr, ⟨ss ++ [(A, n, c)], by simp [h1], ?_, fun i s l' hs hl' => ?_⟩, h5, h6⟩
  · have e2 : slV (ss ++ [(A, n, c)]) = slV ss ++ [.slice A n c] := by simp [slV]
    rw [e2, List.length_append]
    exact h4
  · by_cases hi : i < ss.length
    · rw [List.getElem?_append_left hi] at hs
      rw [List.getElem?_append_left (by omega)] at hl'
      obtain ⟨h7, h8⟩ := h3 i s l' hs hl'
      exact ⟨h7, fun he => keep (h8 he)⟩
    · have hi2 : i = ss.length := by
        have := (List.getElem?_eq_some_iff.1 hs).1
        simp at this; omega
      subst hi2
      rw [List.getElem?_append_right (Nat.le_refl _), Nat.sub_self] at hs
      rw [h1, List.getElem?_append_right (Nat.le_refl _), Nat.sub_self] at hl'
      obtain rfl : (A, n, c) = s := by simpa using hs
      obtain rfl : l = l' := by simpa using hl'
      exact ⟨hl, fun he => keep (ht he)⟩

theorem wpList_plapp {w : World} {ops : Array Oper} {rest : List Oper} {o : Oper} {a : Act} {Q : Exit → Act → World → Prop} (hgd : o.guard = none) (s x : Operand)
    (ho : o.op = .call { callee := .builtin .append, args := #[s, x], argTypes := #[31, 31] }) (base : Nat) (v : Value) (L : List (List Pt)) (b : Nat) (A : Option Addr) (n c : Nat) (l : List Pt)
    (hs : a.eval s = v) (hx : a.eval x = .slice (some ⟨b, 0, none⟩) 1 1) (hown : PolysOwn w base v L) (hc : w.cell? ⟨b, 0, none⟩ = some (.slice A n c)) (hl : l.length = n) (ht : l ≠ [] → PtsTy w A l) (hlen : L.length + 1 ≤ 100000) (hb : base ≤ w.heap.size)
    (h : ∀ v' w', PolysOwn w' base v' (L ++ [l]) → w.grownBy w' v.ownBlock → (v'.ownBlock = v.ownBlock ∨ v'.ownBlock = some w.heap.size) → wpList Tryz.prog ops Q rest (a.put o.dst v') w') : wpList Tryz.prog ops Q (o :: rest) a w :=
  wpList_plain hgd fun _ hK => by
    obtain ⟨v', w', hr, h2, h3, h4⟩ := plapp_run hown hc hl ht hlen hb o.type
    unfold Oper.wp execOp
    simp only [ho, resolve, invoke, builtin, Sem.run_bind, Sem.run_pure, Result.andThen_ok, List.map_toArray, List.map_cons, List.map_nil, hs, hx, hr]
    exact hK _ _ (h v' w' h2 h3 h4)
end Go.Proofs.YtlekncamokiekaaGreatDoor

/- The document's Same, in, Has, Twice and Cutter of tiles. -/
namespace Go.Proofs.YtlekncamokiekaaGreatDoor
open Go.RowKit Go.Sort
attribute [local go_sem ↓] run_min_mn run_max_mx

theorem in5_any (v lo hi : Int) (w : World) : Calls Tryz.prog 12 #[.int .i64 v, .int .i64 lo, .int .i64 hi] w fun e w' => e = .returned (.bool (decide (lo ≤ v ∧ v ≤ hi))) ∧ w = w' := by
  go_enter Tryz.func12, Tryz.ntmps12
  go_wp2
  · rename_i h
    go_ret
    exact ⟨by simp [h], rfl⟩
  · rename_i h
    go_ret
    exact ⟨by simp; omega, rfl⟩

theorem hasB_take {l : List Pt} {k : Nat} (h : k < l.length) (p : Pt) : hasB (l.take (k + 1)) p = (hasB (l.take k) p || decide (l[k] = p)) := by
  unfold hasB
  rw [List.take_succ_eq_append_getElem h, List.any_append]
  simp

set_option maxRecDepth 100000 in
set_option maxHeartbeats 2000000 in
theorem has5_any (A : Option Addr) (n c : Nat) (l : List Pt) (x y : Int) (w : World) (hl : l.length = n) (hn : n ≤ 10000) (hx : PtsAt w A l) :
    Calls Tryz.prog 28 #[.slice A n c, .agg #[.int .i64 x, .int .i64 y]] w fun e w' => e = .returned (.bool (hasB l (x, y))) ∧ Below w.heap.size w w' := by
  have HL := Lib.hid hl
  have HB0 : Hid (Below w.heap.size w (w.alloc (Go.Proofs.YtlekncamokiekaaGreatDoor.bx x y))) := Lib.hid ((Below.refl _ _).alloc (Nat.le_refl _) _)
  have HP : Hid (PtAt (w.alloc (Go.Proofs.YtlekncamokiekaaGreatDoor.bx x y)) w.heap.size x y) := Lib.hid PtAt.new
  have HZ : Hid (w.heap.size < (w.alloc (Go.Proofs.YtlekncamokiekaaGreatDoor.bx x y)).heap.size) := Lib.hid (by simp)
  have HX := Lib.hid hx
  clear hl hx
  go_enter Tryz.func28, Tryz.ntmps28
  go_upto_region 1 with (fail)
  change Code.wp _ _ _ _ (w.alloc (Go.Proofs.YtlekncamokiekaaGreatDoor.bx x y))
  generalize (w.alloc (Go.Proofs.YtlekncamokiekaaGreatDoor.bx x y)) = w0 at *
  go_wp2_with fail
  go_loopw [5] (fun i wr => ∃ k : Nat, k ≤ n ∧ i = .int .i64 k ∧ hasB (l.take k) (x, y) = false ∧ Below w0.heap.size w0 wr) (fun i _ => n - (intOf i).toNat)
  case atStart => exact ⟨0, Nat.zero_le _, rfl, rfl, Below.refl _ _⟩
  case round =>
    obtain ⟨k, hk, rfl, he, hbw⟩ := hrel
    have HE := Lib.hid he
    clear he
    by_cases hlt : k < n
    · have hkl : k < l.length := by rw [HL.out]; exact hlt
      obtain ⟨b, off, rfl, hb, hin⟩ := HX.out (by intro e; subst e; simp at hkl)
      have hb0 : b < w0.heap.size := Nat.lt_of_lt_of_le hb HB0.out.size
      obtain ⟨h1, h2⟩ := ((hin.below HB0.out hb).below hbw hb0) k _ (List.getElem?_eq_getElem hkl)
      obtain ⟨h3, h4⟩ := PtAt.below hbw HZ.out HP.out
      have HT : Hid (hasB (l.take (k + 1)) (x, y) = decide (l[k] = (x, y))) := Lib.hid (by rw [hasB_take hkl, HE.out, Bool.false_or])
      have HA : Hid (l[k] = (x, y) → hasB l (x, y) = true) := Lib.hid fun e => List.any_eq_true.2 ⟨_, List.getElem_mem hkl, decide_eq_true e⟩
      clear hin
      generalize l[k] = p at *
      obtain ⟨u, v⟩ := p
      have gp := guard_pt
      have ep := eq_pt u v x y
      have t1 := cell_regrown h1
      have t2 := cell_regrown h2
      have t3 := cell_regrown h3
      have t4 := cell_regrown h4
      clear h1 h2 h3 h4
      cases he : eqI u v x y
      · have HT2 : Hid (hasB (l.take (k + 1)) (x, y) = false) := Lib.hid (by rw [HT.out]; exact decide_eq_false (fun e => by rw [eqI_iff.2 e] at he; cases he))
        go_wp2_with fail
        refine wp_region_quiet_below (by kernel_rfl) (by kernel_rfl) ?_
        repeat (go_big_quiet_step (fail))
        refine wpQuiet_nil ?_
        intro _ hw'
        obtain ⟨⟨dq, osq⟩, hw''⟩ := hw'
        subst hw''
        have HBE := Lib.hid (hbw.trans ((below_regrown wr dq osq).mono hbw.size))
        go_wp2_with fail
        go_roundw
        case rel => exact ⟨k + 1, by omega, by go_num, HT2.out, HBE.out⟩
        case measure => simp [intOf]; omega
      · have HT2 := Lib.hid (HA.out (eqI_iff.1 he))
        go_wp2_with fail
        refine wp_region_quiet_below (by kernel_rfl) (by kernel_rfl) ?_
        repeat (go_big_quiet_step (fail))
        refine wpQuiet_nil ?_
        intro _ hw'
        obtain ⟨⟨dq, osq⟩, hw''⟩ := hw'
        subst hw''
        have HBE := Lib.hid (HB0.out.trans ((hbw.trans ((below_regrown wr dq osq).mono hbw.size)).mono HB0.out.size))
        go_wp2_with fail
        go_ret
        exact ⟨retS_bool HT2.out.symm, HBE.out⟩
    · have HD : Hid (hasB l (x, y) = false) := Lib.hid (by
        have := HE.out
        rwa [List.take_of_length_le (by rw [HL.out]; omega)] at this)
      have HBE := Lib.hid (HB0.out.trans (hbw.mono HB0.out.size))
      go_wp2_with fail
      go_ret
      exact ⟨retS_bool HD.out.symm, HBE.out⟩
set_option maxRecDepth 100000 in
set_option maxHeartbeats 2000000 in
theorem same5_any (A B : Option Addr) (n m c d : Nat) (l r : List Pt) (w : World) (hl : l.length = n) (hn : n ≤ 10000) (hx : PtsAt w A l) (hr : r.length = m) (hm : m ≤ 10000) (hy : PtsAt w B r) :
    Calls Tryz.prog 9 #[.slice A n c, .slice B m d] w fun e w' => e = .returned (.bool (decide (l = r))) ∧ Below w.heap.size w w' := by
  have HL := Lib.hid hl
  have HR := Lib.hid hr
  have HX := Lib.hid hx
  have HY := Lib.hid hy
  clear hl hr hx hy
  by_cases hnm : n = m
  · subst hnm
    go_enter Tryz.func9, Tryz.ntmps9
    go_wp2_with fail
    go_loopw [5] (fun i wr => ∃ k : Nat, k ≤ n ∧ i = .int .i64 k ∧ l.take k = r.take k ∧ Below w.heap.size w wr) (fun i _ => n - (intOf i).toNat)
    case atStart => exact ⟨0, Nat.zero_le _, rfl, rfl, Below.refl _ _⟩
    case round =>
      obtain ⟨k, hk, rfl, he, hbw⟩ := hrel
      have HE := Lib.hid he
      clear he
      by_cases hlt : k < n
      · have hkl : k < l.length := by rw [HL.out]; exact hlt
        have hkr : k < r.length := by rw [HR.out]; exact hlt
        obtain ⟨b, off, rfl, hb, hin⟩ := HX.out (by intro e; subst e; simp at hkl)
        obtain ⟨b', off', rfl, hb', hin'⟩ := HY.out (by intro e; subst e; simp at hkr)
        obtain ⟨h1, h2⟩ := (hin.below hbw hb) k _ (List.getElem?_eq_getElem hkl)
        obtain ⟨h3, h4⟩ := (hin'.below hbw hb') k _ (List.getElem?_eq_getElem hkr)
        have HT : Hid (l[k] = r[k] → l.take (k + 1) = r.take (k + 1)) := Lib.hid fun e => by
          rw [List.take_succ_eq_append_getElem hkl, List.take_succ_eq_append_getElem hkr, HE.out, e]
        have HF : Hid (l[k] ≠ r[k] → l ≠ r) := Lib.hid fun e e2 => by subst e2; exact e rfl
        clear hin hin'
        generalize l[k] = p at *
        generalize r[k] = q at *
        obtain ⟨x, y⟩ := p
        obtain ⟨u, v⟩ := q
        have gp := guard_pt
        have ep := eq_pt x y u v
        have t1 := cell_regrown h1
        have t2 := cell_regrown h2
        have t3 := cell_regrown h3
        have t4 := cell_regrown h4
        clear h1 h2 h3 h4
        cases he : eqI x y u v
        · have HD : Hid (decide (l = r) = false) := Lib.hid (decide_eq_false (HF.out (fun e => by rw [eqI_iff.2 e] at he; cases he)))
          go_wp2_with fail
          refine wp_region_quiet_below (by kernel_rfl) (by kernel_rfl) ?_
          repeat (go_big_quiet_step (fail))
          refine wpQuiet_nil ?_
          intro _ hw'
          obtain ⟨⟨dq, osq⟩, hw''⟩ := hw'
          subst hw''
          have HBE := Lib.hid (hbw.trans ((below_regrown wr dq osq).mono hbw.size))
          go_wp2_with fail
          go_ret
          exact ⟨retS_bool HD.out.symm, HBE.out⟩
        · have HT2 := Lib.hid (HT.out (eqI_iff.1 he))
          go_wp2_with fail
          refine wp_region_quiet_below (by kernel_rfl) (by kernel_rfl) ?_
          repeat (go_big_quiet_step (fail))
          refine wpQuiet_nil ?_
          intro _ hw'
          obtain ⟨⟨dq, osq⟩, hw''⟩ := hw'
          subst hw''
          have HBE := Lib.hid (hbw.trans ((below_regrown wr dq osq).mono hbw.size))
          go_wp2_with fail
          go_roundw
          case rel => exact ⟨k + 1, by omega, by go_num, HT2.out, HBE.out⟩
          case measure => simp [intOf]; omega
      · obtain rfl : k = n := by omega
        have HD : Hid (decide (l = r) = true) := Lib.hid (decide_eq_true (by
          have := HE.out
          rwa [List.take_of_length_le (by rw [HL.out]; omega), List.take_of_length_le (by rw [HR.out]; omega)] at this))
        go_wp2_with fail
        go_ret
        exact ⟨retS_bool HD.out.symm, hbw⟩
  · have HD : Hid (decide (l = r) = false) := Lib.hid (decide_eq_false (fun e => hnm (by rw [← HL.out, ← HR.out, e])))
    go_enter Tryz.func9, Tryz.ntmps9
    go_wp2
    go_ret
    exact ⟨retS_bool HD.out.symm, Below.refl _ _⟩
end Go.Proofs.YtlekncamokiekaaGreatDoor

/- Totals that sizes make, and their least ones by remainders: plain mathematics. -/
namespace Go.Proofs.YtlekncamokiekaaGreatDoor.Bag

/-- Totals that sizes make. -/
inductive Mk (l : List Nat) : Nat → Prop where
  | zero : Mk l 0
  | add {t s : Nat} : Mk l t → s ∈ l → Mk l (t + s)

theorem Mk.mono {l l' : List Nat} (h : ∀ s ∈ l, s ∈ l') {t : Nat} (m : Mk l t) : Mk l' t := by
  induction m with
  | zero => exact .zero
  | add _ hs ih => exact .add ih (h _ hs)
theorem Mk.plus {l : List Nat} {a b : Nat} (ha : Mk l a) (hb : Mk l b) : Mk l (a + b) := by
  induction hb with
  | zero => simpa using ha
  | add _ hs ih => rw [← Nat.add_assoc]; exact .add ih hs
theorem Mk.times {l : List Nat} {s : Nat} (hs : s ∈ l) : ∀ k : Nat, Mk l (k * s)
  | 0 => by simpa using Mk.zero
  | k + 1 => by rw [Nat.succ_mul]; exact .add (Mk.times hs k) hs
theorem Mk.mult {l : List Nat} {a : Nat} (ha : Mk l a) : ∀ k : Nat, Mk l (k * a)
  | 0 => by simpa using Mk.zero
  | k + 1 => by rw [Nat.succ_mul]; exact (Mk.mult ha k).plus ha
theorem Mk.nil {t : Nat} (m : Mk [] t) : t = 0 := by
  cases m with
  | zero => rfl
  | add _ hs => cases hs
theorem Mk.cases' {l : List Nat} {t : Nat} (m : Mk l t) : t = 0 ∨ ∃ s ∈ l, s ≤ t ∧ Mk l (t - s) := by
  cases m with
  | zero => exact .inl rfl
  | add m hs => exact .inr ⟨_, hs, by omega, by simpa using m⟩

/-- Sums of sizes, one after the other. -/
inductive Walk (l : List Nat) : List Nat → Prop where
  | nil : Walk l []
  | cons {s : Nat} {p : List Nat} : s ∈ l → Walk l p → Walk l (s :: p)

theorem Mk.walk {l : List Nat} {t : Nat} (m : Mk l t) : ∃ p : List Nat, (∀ s ∈ p, s ∈ l) ∧ p.sum = t := by
  induction m with
  | zero => exact ⟨[], by simp, rfl⟩
  | @add t s _ hs ih =>
    obtain ⟨p, hp, e⟩ := ih
    exact ⟨s :: p, by intro x hx; rcases List.mem_cons.1 hx with rfl | hx
                      · exact hs
                      · exact hp x hx, by rw [List.sum_cons, e, Nat.add_comm]⟩
theorem walk_mk {l : List Nat} : ∀ {p : List Nat}, (∀ s ∈ p, s ∈ l) → Mk l p.sum
  | [], _ => .zero
  | s :: p, h => by
    rw [List.sum_cons, Nat.add_comm]
    exact .add (walk_mk fun x hx => h x (by simp [hx])) (h s (by simp))

/-- Pigeons: more numbers below m than m: two are the same. -/
theorem pigeon : ∀ (m : Nat) (f : Nat → Nat) (n : Nat), m < n → (∀ i, i < n → f i < m) → ∃ i j, i < j ∧ j < n ∧ f i = f j
  | 0, f, n, hn, hf => absurd (hf 0 hn) (by omega)
  | m + 1, f, n, hn, hf => by
    -- the last value
    by_cases hex : ∃ i, i < n - 1 ∧ f i = f (n - 1)
    · obtain ⟨i, hi, e⟩ := hex
      exact ⟨i, n - 1, hi, by omega, e⟩
    · -- move value m onto the place of the last one's value
      let g : Nat → Nat := fun i => if f i = m then f (n - 1) else f i
      have hg : ∀ i, i < n - 1 → g i < m := by
        intro i hi
        have h1 := hf i (by omega)
        have h2 := hf (n - 1) (by omega)
        show (if f i = m then f (n - 1) else f i) < m
        split
        · rename_i e
          have : f (n - 1) ≠ m := fun e' => hex ⟨i, hi, by rw [e, e']⟩
          omega
        · omega
      obtain ⟨i, j, hij, hj, e⟩ := pigeon m g (n - 1) (by omega) hg
      have e' : (if f i = m then f (n - 1) else f i) = (if f j = m then f (n - 1) else f j) := e
      refine ⟨i, j, hij, by omega, ?_⟩
      split at e' <;> split at e'
      · omega
      · exact absurd ⟨j, by omega, e'.symm⟩ hex
      · exact absurd ⟨i, by omega, e'⟩ hex
      · exact e'

/-- A walk has the same remainder as one of fewer steps than m. -/
theorem short_walk {m : Nat} (hm : 0 < m) : ∀ (n : Nat) (p : List Nat), p.length ≤ n → ∃ q : List Nat, (∀ s ∈ q, s ∈ p) ∧ q.length < m ∧ q.sum % m = p.sum % m
  | n, p, hn => by
    by_cases h : p.length < m
    · exact ⟨p, fun _ h => h, h, rfl⟩
    · obtain ⟨i, j, hij, hj, e⟩ := pigeon m (fun i => (p.take i).sum % m) (p.length + 1) (by omega) (fun i _ => Nat.mod_lt _ hm)
      have hlen : (p.take i ++ p.drop j).length < p.length := by
        simp only [List.length_append, List.length_take, List.length_drop]; omega
      match n, hn, hlen with
      | 0, hn, hlen => omega
      | n + 1, hn, hlen =>
        obtain ⟨q, hq, hl, hs⟩ := short_walk hm n (p.take i ++ p.drop j) (by omega)
        refine ⟨q, fun s hs' => ?_, hl, ?_⟩
        · rcases List.mem_append.1 (hq s hs') with h | h
          · exact List.mem_of_mem_take h
          · exact List.mem_of_mem_drop h
        · rw [hs, List.sum_append]
          have h1 : p.sum = (p.take j).sum + (p.drop j).sum := by rw [← List.sum_append, List.take_append_drop]
          rw [h1, Nat.add_mod, e, ← Nat.add_mod]

theorem sum_le {p : List Nat} {b : Nat} (h : ∀ s ∈ p, s ≤ b) : p.sum ≤ p.length * b := by
  induction p with
  | nil => simp
  | cons s p ih =>
    rw [List.sum_cons, List.length_cons, Nat.succ_mul]
    have := h s (by simp)
    have := ih fun x hx => h x (by simp [hx])
    omega

theorem Mk.short {l : List Nat} {m b : Nat} (hm : 0 < m) (hb : ∀ s ∈ l, s ≤ b) {t : Nat} (h : Mk l t) : ∃ u, Mk l u ∧ u % m = t % m ∧ u ≤ (m - 1) * b := by
  obtain ⟨p, hp, rfl⟩ := h.walk
  obtain ⟨q, hq, hl, hs⟩ := short_walk hm p.length p (Nat.le_refl _)
  refine ⟨q.sum, walk_mk fun s h => hp s (hq s h), hs, ?_⟩
  refine Nat.le_trans (sum_le fun s h => hb s (hp s (hq s h))) (Nat.mul_le_mul_right _ (by omega))

/-- The greatest common divisor as a sum. -/
theorem bez (a b : Nat) : ∃ x y : Int, (a : Int) * x + b * y = (Nat.gcd a b : Nat) := by
  induction a, b using Nat.gcd.induction with
  | H0 b => exact ⟨0, 1, by simp⟩
  | H1 a b ha ih =>
    obtain ⟨x, y, h⟩ := ih
    refine ⟨y - (b / a : Nat) * x, x, ?_⟩
    rw [Nat.gcd_rec a b, ← h]
    have hb : (b : Int) = (b / a : Nat) * a + (b % a : Nat) := by
      rw [← Int.natCast_mul, ← Int.natCast_add, Nat.mul_comm, Nat.div_add_mod]
    have h2 : (a : Int) * (y - (b / a : Nat) * x) + b * x = a * y + (b - (b / a : Nat) * a) * x := by grind
    rw [h2]
    have : (b : Int) - (b / a : Nat) * a = (b % a : Nat) := by omega
    rw [this]
    grind

/-- .. by any m, without numbers below 0. -/
theorem bez_mod (a b : Nat) {m : Nat} (hm : 0 < m) : ∃ x y : Nat, (x * a + y * b) % m = Nat.gcd a b % m := by
  obtain ⟨x, y, h⟩ := bez a b
  refine ⟨(x % m).toNat, (y % m).toNat, ?_⟩
  have hx : (((x % m).toNat : Nat) : Int) = x % m := Int.toNat_of_nonneg (Int.emod_nonneg _ (by omega))
  have hy : (((y % m).toNat : Nat) : Int) = y % m := Int.toNat_of_nonneg (Int.emod_nonneg _ (by omega))
  have : (((x % m).toNat * a + (y % m).toNat * b : Nat) : Int) % m = ((Nat.gcd a b : Nat) : Int) % m := by
    rw [← h, Int.natCast_add, Int.natCast_mul, Int.natCast_mul, hx, hy]
    rw [Int.add_emod, Int.mul_emod, Int.emod_emod_of_dvd _ (Int.dvd_refl _), ← Int.mul_emod, Int.mul_emod (y % m), Int.emod_emod_of_dvd _ (Int.dvd_refl _), ← Int.mul_emod, ← Int.add_emod]
    rw [Int.mul_comm x, Int.mul_comm y]
  exact_mod_cast this

/-- Totals that are made have the remainder of the greatest common divisor of the sizes (and of any number g that starts). -/
theorem gcd_mod {m : Nat} (hm : 0 < m) {l : List Nat} : ∀ (p : List Nat) (g : Nat), (∀ s ∈ p, s ∈ l) → (∃ t, Mk l t ∧ t % m = g % m) → ∃ t, Mk l t ∧ t % m = (p.foldl Nat.gcd g) % m
  | [], g, _, h => h
  | s :: p, g, hp, ⟨t, ht, e⟩ => by
    refine gcd_mod hm p (Nat.gcd g s) (fun x hx => hp x (by simp [hx])) ?_
    obtain ⟨x, y, h⟩ := bez_mod g s hm
    refine ⟨x * t + y * s, (ht.mult x).plus (Mk.times (hp s (by simp)) y), ?_⟩
    rw [← h, Nat.add_mod, Nat.mul_mod, e, ← Nat.mul_mod, ← Nat.add_mod]

theorem all_mod {m : Nat} (hm : 0 < m) {l : List Nat} (hg : l.foldl Nat.gcd 0 = 1) (r : Nat) (hr : r < m) : ∃ t, Mk l t ∧ t % m = r := by
  obtain ⟨t, ht, e⟩ := gcd_mod hm l 0 (fun _ h => h) ⟨0, .zero, rfl⟩
  rw [hg] at e
  refine ⟨r * t, ht.mult r, ?_⟩
  rw [Nat.mul_mod, e, ← Nat.mul_mod, Nat.mul_one, Nat.mod_eq_of_lt hr]

/-- The number that l holds at i (0 past its end). -/
def at_ (A : List Nat) (i : Nat) : Nat := A.getD i 0

/-- Going along by a size: the least totals B of all remainders, if it may be added, too. -/
structure Low (m : Nat) (A B : List Nat) (s : Nat) : Prop where
  len : B.length = A.length
  le : ∀ r k, r < m → at_ B ((r + k * s) % m) ≤ at_ A r + k * s
  is : ∀ r, r < m → ∃ q k, q < m ∧ (q + k * s) % m = r ∧ at_ B r = at_ A q + k * s

/-- What is so of the totals when the sizes of p are admitted. -/
structure Ok (m : Nat) (top : Nat) (p : List Nat) (A : List Nat) : Prop where
  len : A.length = m
  made : ∀ r, r < m → at_ A r = top ∨ Mk p (at_ A r) ∧ at_ A r % m = r
  top : ∀ r, r < m → at_ A r ≤ top
  zero : at_ A 0 = 0
  shut : ∀ s ∈ p, ∀ r, r < m → at_ A ((r + s) % m) ≤ at_ A r + s

theorem Ok.start {m top : Nat} (hm : 0 < m) : Ok m top [] (0 :: List.replicate (m - 1) top) where
  len := by simp; omega
  made := fun r hr => by
    match r with
    | 0 => exact .inr ⟨.zero, by simp [at_]⟩
    | r + 1 => left; simp [at_, List.getD]; rw [List.getElem?_replicate_of_lt (by omega)]; rfl
  top := fun r hr => by
    match r with
    | 0 => simp [at_]
    | r + 1 => simp [at_, List.getD]; rw [List.getElem?_replicate_of_lt (by omega)]; simp
  zero := rfl
  shut := fun s hs => by cases hs

theorem Ok.next {m top : Nat} (hm : 0 < m) {p : List Nat} {A B : List Nat} {s : Nat} (hA : Ok m top p A) (hB : Low m A B s) (hs : 0 < s) : Ok m top (p ++ [s]) B where
  len := by rw [hB.len, hA.len]
  made := fun r hr => by
    obtain ⟨q, k, hq, e, h⟩ := hB.is r hr
    rcases hA.made q hq with ht | ⟨hm1, hm2⟩
    · left
      have h0 := hB.le r 0 hr
      simp only [Nat.zero_mul, Nat.add_zero, Nat.mod_eq_of_lt hr] at h0
      have := hA.top r hr
      omega
    · right
      refine ⟨?_, ?_⟩
      · rw [h]
        exact (hm1.mono fun x hx => by simp [hx]).plus (Mk.times (by simp) k)
      · rw [h, Nat.add_mod, hm2, ← e]
        simp
  top := fun r hr => by
    have h0 := hB.le r 0 hr
    simp only [Nat.zero_mul, Nat.add_zero, Nat.mod_eq_of_lt hr] at h0
    have := hA.top r hr
    omega
  zero := by
    have h0 := hB.le 0 0 hm
    simp only [Nat.zero_mul, Nat.add_zero, Nat.mod_eq_of_lt hm, hA.zero] at h0
    omega
  shut := fun x hx r hr => by
    obtain ⟨q, k, hq, e, h⟩ := hB.is r hr
    rcases List.mem_append.1 hx with hx | hx
    · have h1 := hA.shut x hx q hq
      have h2 := hB.le ((q + x) % m) k (Nat.mod_lt _ hm)
      have e2 : ((q + x) % m + k * s) % m = (r + x) % m := by
        rw [← e, Nat.mod_add_mod, Nat.mod_add_mod]; congr 1; omega
      rw [e2] at h2
      omega
    · obtain rfl := List.mem_singleton.1 hx
      have h2 := hB.le q (k + 1) hq
      have e2 : (q + (k + 1) * x) % m = (r + x) % m := by
        rw [← e, Nat.mod_add_mod, Nat.succ_mul]; congr 1; omega
      rw [e2, Nat.succ_mul] at h2
      omega

theorem Ok.least {m top : Nat} (hm : 0 < m) {p : List Nat} {A : List Nat} (h : Ok m top p A) {t : Nat} (ht : Mk p t) : at_ A (t % m) ≤ t := by
  induction ht with
  | zero => rw [Nat.zero_mod, h.zero]; exact Nat.le_refl _
  | @add t s _ hs ih =>
    have := h.shut s hs (t % m) (Nat.mod_lt _ hm)
    rw [Nat.mod_add_mod] at this
    omega

/-- The least totals of all remainders by m. -/
structure Aperys (m : Nat) (l : List Nat) (A : List Nat) : Prop where
  len : A.length = m
  made : ∀ r, r < m → Mk l (at_ A r) ∧ at_ A r % m = r
  least : ∀ t, Mk l t → at_ A (t % m) ≤ t

theorem Ok.done {m top b : Nat} (hm : 0 < m) {l A : List Nat} (h : Ok m top l A) (hg : l.foldl Nat.gcd 0 = 1) (hb : ∀ s ∈ l, s ≤ b) (htop : (m - 1) * b < top) : Aperys m l A where
  len := h.len
  made := fun r hr => by
    rcases h.made r hr with e | e
    · obtain ⟨t, ht, e2⟩ := all_mod hm hg r hr
      obtain ⟨u, hu, e3, hle⟩ := ht.short hm hb
      have := h.least hm hu
      rw [e3, e2, e] at this
      omega
    · exact e
  least := fun t ht => h.least hm ht

theorem Aperys.same {m : Nat} {l A B : List Nat} (hA : Aperys m l A) (hB : Aperys m l B) : A = B := by
  apply List.ext_getElem (by rw [hA.len, hB.len])
  intro i h1 h2
  have hi : i < m := by rw [← hA.len]; exact h1
  have e1 : A[i] = at_ A i := by simp [at_, List.getD, h1]
  have e2 : B[i] = at_ B i := by simp [at_, List.getD, h2]
  rw [e1, e2]
  obtain ⟨a1, a2⟩ := hA.made i hi
  obtain ⟨b1, b2⟩ := hB.made i hi
  have h3 := hA.least _ b1
  have h4 := hB.least _ a1
  rw [b2] at h3
  rw [a2] at h4
  omega

theorem Aperys.bound {m b : Nat} (hm : 0 < m) {l A : List Nat} (hA : Aperys m l A) (hb : ∀ s ∈ l, s ≤ b) (r : Nat) (hr : r < m) : at_ A r ≤ (m - 1) * b := by
  obtain ⟨h1, h2⟩ := hA.made r hr
  obtain ⟨u, hu, e, hle⟩ := h1.short hm hb
  have := hA.least u hu
  rw [e, h2] at this
  omega


/-- One step along a size: the number at the next remainder. -/
def relax (m s : Nat) (A : List Nat) (p : Nat) : List Nat := A.set ((p + s) % m) (min (at_ A ((p + s) % m)) (at_ A p + s))
theorem at_set (A : List Nat) (i v r : Nat) (hi : i < A.length) : at_ (A.set i v) r = if r = i then v else at_ A r := by
  simp only [at_, List.getD_eq_getElem?_getD, List.getElem?_set]
  by_cases e : r = i
  · subst e; simp [hi]
  · rw [if_neg e, if_neg (fun h => e h.symm)]
theorem relax_le {m s : Nat} {A : List Nat} {p : Nat} (hm : 0 < m) (hA : A.length = m) (r : Nat) : at_ (relax m s A p) r ≤ at_ A r := by
  unfold relax
  rw [at_set _ _ _ _ (by rw [hA]; exact Nat.mod_lt _ hm)]
  split
  · rename_i e; subst e; exact Nat.min_le_left _ _
  · exact Nat.le_refl _
theorem relax_next {m s : Nat} {A : List Nat} {p : Nat} (hm : 0 < m) (hA : A.length = m) : at_ (relax m s A p) ((p + s) % m) ≤ at_ A p + s := by
  unfold relax
  rw [at_set _ _ _ _ (by rw [hA]; exact Nat.mod_lt _ hm), if_pos rfl]
  exact Nat.min_le_right _ _

/-- What holds on the way. -/
structure RWay (m s : Nat) (A B : List Nat) : Prop where
  len : B.length = m
  le : ∀ r, at_ B r ≤ at_ A r
  is : ∀ r, r < m → ∃ q k, q < m ∧ (q + k * s) % m = r ∧ at_ B r = at_ A q + k * s
theorem RWay.start {m s : Nat} {A : List Nat} (hA : A.length = m) : RWay m s A A :=
  ⟨hA, fun _ => Nat.le_refl _, fun r hr => ⟨r, 0, hr, by rw [Nat.zero_mul, Nat.add_zero, Nat.mod_eq_of_lt hr], by simp⟩⟩
theorem RWay.step {m s : Nat} {A B : List Nat} (h : RWay m s A B) (hm : 0 < m) {p : Nat} (hp : p < m) : RWay m s A (relax m s B p) where
  len := by unfold relax; rw [List.length_set]; exact h.len
  le := fun r => Nat.le_trans (relax_le hm h.len r) (h.le r)
  is := fun r hr => by
    unfold relax
    rw [at_set _ _ _ _ (by rw [h.len]; exact Nat.mod_lt _ hm)]
    by_cases e : r = (p + s) % m
    · rw [if_pos e]
      rcases Nat.le_total (at_ B ((p + s) % m)) (at_ B p + s) with h1 | h1
      · rw [Nat.min_eq_left h1, ← e]
        exact h.is r hr
      · rw [Nat.min_eq_right h1]
        obtain ⟨q, k, hq, e1, e2⟩ := h.is p hp
        refine ⟨q, k + 1, hq, ?_, by rw [e2, Nat.succ_mul]; omega⟩
        rw [e, ← e1, Nat.mod_add_mod, Nat.succ_mul, Nat.add_assoc]
    · rw [if_neg e]
      exact h.is r hr

/-- The places of a cycle. -/
def pos (m s st j : Nat) : Nat := (st + j * s) % m
theorem pos_succ (m s st j : Nat) : pos m s st (j + 1) = (pos m s st j + s) % m := by
  unfold pos; rw [Nat.mod_add_mod, Nat.succ_mul, Nat.add_assoc]

/-- j steps of a cycle are done. -/
def Done (m s : Nat) (A B : List Nat) (st j : Nat) : Prop := ∀ i k, i ≤ k → k ≤ j → at_ B (pos m s st k) ≤ at_ A (pos m s st i) + (k - i) * s
theorem Done.start {m s : Nat} {A B : List Nat} (h : RWay m s A B) (st : Nat) : Done m s A B st 0 := fun i k hi hk => by
  obtain rfl : k = 0 := by omega
  obtain rfl : i = 0 := by omega
  simpa using h.le _
theorem Done.mono {m s : Nat} {A B C : List Nat} {st j : Nat} (h : Done m s A B st j) (hle : ∀ r, at_ C r ≤ at_ B r) : Done m s A C st j := fun i k hi hk =>
  Nat.le_trans (hle _) (h i k hi hk)
theorem Done.step {m s : Nat} {A B : List Nat} (hw : RWay m s A B) (hm : 0 < m) {st j : Nat} (h : Done m s A B st j) : Done m s A (relax m s B (pos m s st j)) st (j + 1) := fun i k hi hk => by
  rcases Nat.lt_or_ge k (j + 1) with hlt | hge
  · exact Nat.le_trans (relax_le hm hw.len _) (h i k hi (by omega))
  · obtain rfl : k = j + 1 := by omega
    rcases Nat.lt_or_ge i (j + 1) with hlt | hge
    · rw [pos_succ]
      refine Nat.le_trans (relax_next hm hw.len) ?_
      have := h i j (by omega) (Nat.le_refl _)
      have e : j + 1 - i = (j - i) + 1 := by omega
      rw [e, Nat.succ_mul]
      omega
    · obtain rfl : i = j + 1 := by omega
      rw [Nat.sub_self, Nat.zero_mul, Nat.add_zero]
      exact Nat.le_trans (relax_le hm hw.len _) (hw.le _)

theorem cycle_zero {m s d : Nat} (hs : d ∣ s) (hd : d ∣ m) : (m / d * s) % m = 0 := by
  obtain ⟨m', rfl⟩ := hd
  obtain ⟨s', rfl⟩ := hs
  rcases Nat.eq_zero_or_pos d with h0 | h0
  · subst h0; simp
  · rw [Nat.mul_div_cancel_left _ h0]
    have : m' * (d * s') = d * m' * s' := by rw [Nat.mul_comm d m', Nat.mul_assoc]
    rw [this]; exact Nat.mul_mod_right _ _
theorem cycle_mod {m s d : Nat} (hs : d ∣ s) (hd : d ∣ m) (x k : Nat) : (x + k * s) % m = (x + k % (m / d) * s) % m := by
  have h := Nat.div_add_mod k (m / d)
  have e : k * s = k / (m / d) * (m / d * s) + k % (m / d) * s := by
    rw [← Nat.mul_assoc, ← Nat.add_mul, Nat.mul_comm (k / (m / d)), h]
  rw [e, ← Nat.add_assoc, Nat.add_comm x, Nat.add_assoc, Nat.add_mod, Nat.mul_mod, cycle_zero hs hd]
  simp
theorem cover {m s : Nat} (hm : 0 < m) (hs : 0 < s) (r : Nat) (hr : r < m) : ∃ st i, st < Nat.gcd s m ∧ i < m / Nat.gcd s m ∧ pos m s st i = r := by
  have hd : 0 < Nat.gcd s m := Nat.gcd_pos_of_pos_left _ hs
  obtain ⟨x, y, h⟩ := bez_mod s m hm
  have h1 : (x * s) % m = Nat.gcd s m % m := by rw [← h]; simp
  have hL : 0 < m / Nat.gcd s m := Nat.div_pos (Nat.le_of_dvd hm (Nat.gcd_dvd_right s m)) hd
  refine ⟨r % Nat.gcd s m, (x * (r / Nat.gcd s m)) % (m / Nat.gcd s m), Nat.mod_lt _ hd, Nat.mod_lt _ hL, ?_⟩
  unfold pos
  rw [← cycle_mod (Nat.gcd_dvd_left s m) (Nat.gcd_dvd_right s m)]
  have e : x * (r / Nat.gcd s m) * s = (x * s) * (r / Nat.gcd s m) := by rw [Nat.mul_assoc, Nat.mul_comm (r / _) s, ← Nat.mul_assoc]
  rw [e, Nat.add_mod, Nat.mul_mod, h1, ← Nat.mul_mod, ← Nat.add_mod, Nat.mod_add_div, Nat.mod_eq_of_lt hr]

/-- ALL CYCLES ARE DONE, two rounds each: the size may be added from now on. -/
theorem low_of_done {m s : Nat} (hm : 0 < m) (hs : 0 < s) {A B : List Nat} (hA : A.length = m) (hw : RWay m s A B) (hd : ∀ st, st < Nat.gcd s m → Done m s A B st (2 * m / Nat.gcd s m)) : Low m A B s where
  len := by rw [hw.len, hA]
  le := fun r k hr => by
    obtain ⟨st, i, hst, hi, e⟩ := cover hm hs r hr
    have hL : 0 < m / Nat.gcd s m := by omega
    have h2 : 2 * m / Nat.gcd s m = 2 * (m / Nat.gcd s m) := Nat.mul_div_assoc _ (Nat.gcd_dvd_right s m)
    have hk := Nat.mod_lt k hL
    have h3 := hd st hst i (i + k % (m / Nat.gcd s m)) (by omega) (by rw [h2]; omega)
    rw [e] at h3
    have e2 : pos m s st (i + k % (m / Nat.gcd s m)) = (r + k * s) % m := by
      rw [cycle_mod (Nat.gcd_dvd_left s m) (Nat.gcd_dvd_right s m) r k, ← e]
      unfold pos
      rw [Nat.mod_add_mod, Nat.add_mul, Nat.add_assoc]
    rw [e2] at h3
    have : i + k % (m / Nat.gcd s m) - i = k % (m / Nat.gcd s m) := by omega
    rw [this] at h3
    exact Nat.le_trans h3 (Nat.add_le_add_left (Nat.mul_le_mul_right _ (Nat.mod_le _ _)) _)
  is := hw.is

end Go.Proofs.YtlekncamokiekaaGreatDoor.Bag

/- Ints in memory: slices that read as lists, and a block that is known whole. -/
namespace Go.Proofs.YtlekncamokiekaaGreatDoor
open Go.RowKit

theorem ret_bool {a b : Bool} (h : a = b) : Ending.returned (.bool a) = .returned (.bool b) := by rw [h]
theorem ret_int {k : IntKind} {a b : Int} (h : a = b) : Ending.returned (.int k a) = .returned (.int k b) := by rw [h]

/-- A slice's cells read as this list. -/
def Ints (w : World) (A : Option Addr) (xs : List Int) : Prop :=
  xs ≠ [] → ∃ b off, A = some ⟨b, off, none⟩ ∧ b < w.heap.size ∧ ∀ i x, xs[i]? = some x → w.cell? ⟨b, off + i, none⟩ = some (.int .i64 x)

theorem Ints.at_ {w : World} {A : Option Addr} {xs : List Int} (h : Ints w A xs) {i : Nat} (hi : i < xs.length) :
    ∃ b off, A = some ⟨b, off, none⟩ ∧ w.cell? ⟨b, off + i, none⟩ = some (.int .i64 (xs[i])) := by
  obtain ⟨b, off, e, _, hc⟩ := h (by intro e; subst e; simp at hi)
  exact ⟨b, off, e, hc i _ (List.getElem?_eq_getElem hi)⟩
theorem Ints.below {w w' : World} {A : Option Addr} {xs : List Int} (h : Ints w A xs) (hb : Below w.heap.size w w') : Ints w' A xs := fun hne => by
  obtain ⟨b, off, e, hlt, hc⟩ := h hne
  exact ⟨b, off, e, Nat.lt_of_lt_of_le hlt hb.size, fun i x hx => (hb.cell (p := ⟨b, _, none⟩) hlt).trans (hc i x hx)⟩
theorem Ints.nil (w : World) (A : Option Addr) : Ints w A [] := fun h => absurd rfl h
theorem Ints.take {w : World} {A : Option Addr} {xs : List Int} (h : Ints w A xs) (k : Nat) : Ints w A (xs.take k) := fun hne => by
  obtain ⟨b, off, e, hlt, hc⟩ := h (by intro e; subst e; simp at hne)
  exact ⟨b, off, e, hlt, fun i x hx => hc i x (by
    rw [List.getElem?_take] at hx; split at hx
    · exact hx
    · cases hx)⟩

/-- Block g is known whole: its cells are cs, and they may be written. -/
def Blk (w : World) (g : Nat) (t : TypeId) (cs : Array Value) : Prop := w.heap[g]? = some (.cells cs t (0, 0))
section
variable {w w' : World} {g : Nat} {t : TypeId} {cs : Array Value}
theorem Blk.lt (h : Blk w g t cs) : g < w.heap.size := (Array.getElem?_eq_some_iff.1 h).1
theorem Blk.same (h : Blk w g t cs) (e : w'.heap[g]? = w.heap[g]?) : Blk w' g t cs := e.trans h
theorem Blk.cell (h : Blk w g t cs) (i : Nat) : w.cell? ⟨g, i, none⟩ = cs[i]? := cell_of_row w g i cs t (0, 0) h
theorem Blk.frozen (h : Blk w g t cs) (i : Nat) : w.frozen? ⟨g, i, none⟩ = false := by simp [World.frozen?, show w.heap[g]? = _ from h]
theorem Blk.new (w : World) (t : TypeId) (cs : Array Value) : Blk (w.alloc (.cells cs t)) w.heap.size t cs := heap_alloc_new w _
theorem Blk.drew (h : Blk w g t cs) : Blk w.drew g t cs := h.same rfl
theorem Blk.alloc (h : Blk w g t cs) (o : Obj) : Blk (w.alloc o) g t cs := h.same (Below.heap_alloc w o g h.lt)
theorem Blk.set_ (h : Blk w g t cs) (i : Nat) (u : Value) : Blk (w.setCell ⟨g, i, none⟩ u) g t (cs.setIfInBounds i u) := by
  have e : w.heap[g]? = _ := h
  simp [Blk, World.setCell, Array.getElem?_modify, e]
theorem Blk.below {B : Nat} (h : Blk w g t cs) (hb : Below B w w') (hg : g < B) : Blk w' g t cs := h.same (hb.block g hg)
end

/-- Ints as cells. -/
def cellsOf (xs : List Int) : Array Value := (xs.map fun x => Value.int .i64 x).toArray
theorem cellsOf_get (xs : List Int) (i : Nat) : (cellsOf xs)[i]? = (xs[i]?).map fun x => Value.int .i64 x := by simp [cellsOf]
theorem cellsOf_set (xs : List Int) (i : Nat) (x : Int) : (cellsOf xs).setIfInBounds i (.int .i64 x) = cellsOf (xs.set i x) := by
  simp [cellsOf, List.map_set]
theorem Blk.ints {w : World} {g : Nat} {t : TypeId} {xs : List Int} (h : Blk w g t (cellsOf xs)) : Ints w (some ⟨g, 0, none⟩) xs := fun _ =>
  ⟨g, 0, rfl, h.lt, fun i x hx => by rw [Nat.zero_add, h.cell, cellsOf_get, hx]; rfl⟩

end Go.Proofs.YtlekncamokiekaaGreatDoor

/- The document's Twice and Cutter of tiles. -/
namespace Go.Proofs.YtlekncamokiekaaGreatDoor
open Go.RowKit Go.Sort
attribute [local go_sem ↓] run_min_mn run_max_mx

set_option maxRecDepth 100000 in
set_option maxHeartbeats 2000000 in
theorem twice5_any (A : Option Addr) (n c : Nat) (l : List Pt) (w : World) (hl : l.length = n) (hn : n ≤ 10000) (hc : n ≤ c) (hx : PtsAt w A l) :
    Calls Tryz.prog 13 #[.slice A n c] w fun e w' => e = .returned (.bool (twiceTo l n)) ∧ Below w.heap.size w w' := by
  have HL := Lib.hid hl
  have HX := Lib.hid hx
  clear hl hx
  go_enter Tryz.func13, Tryz.ntmps13
  go_wp2_with fail
  go_loopw [3] (fun i wr => ∃ k : Nat, k ≤ n ∧ i = .int .i64 k ∧ twiceTo l k = false ∧ Below w.heap.size w wr) (fun i _ => n - (intOf i).toNat)
  case atStart => exact ⟨0, Nat.zero_le _, rfl, rfl, Below.refl _ _⟩
  case round =>
    obtain ⟨k, hk, rfl, he, hbw⟩ := hrel
    have HE := Lib.hid he
    clear he
    by_cases hlt : k < n
    · have hkl : k < l.length := by rw [HL.out]; exact hlt
      obtain ⟨b, off, rfl, hb, hin⟩ := HX.out (by intro e; subst e; simp at hkl)
      obtain ⟨h1, h2⟩ := (hin.below hbw hb) k _ (List.getElem?_eq_getElem hkl)
      have hg : gt l k = l[k] := by unfold gt; rw [List.getD_eq_getElem?_getD, List.getElem?_eq_getElem hkl]; rfl
      have HT : Hid (twiceTo l (k + 1) = hasB (l.take k) l[k]) := Lib.hid (by rw [twiceTo_succ, HE.out, Bool.false_or, hg])
      have HA : Hid (hasB (l.take k) l[k] = true → twiceTo l n = true) := Lib.hid fun e => by
        unfold twiceTo
        exact List.any_eq_true.2 ⟨k, List.mem_range.2 hlt, by rw [hg]; exact e⟩
      have HLT : Hid ((l.take k).length = k) := Lib.hid (by rw [List.length_take]; omega)
      have HPT : Hid (PtsAt wr (some ⟨b, off, none⟩) (l.take k)) := Lib.hid (PtsAt.take (fun _ => ⟨b, off, rfl, Nat.lt_of_lt_of_le hb hbw.size, hin.below hbw hb⟩) k)
      clear hin hg
      generalize l[k] = p at *
      obtain ⟨u, v⟩ := p
      have K := fun d os => Lib.hid (Calls.regrown_of (has5_any (some ⟨b, off, none⟩) k c (l.take k) u v (grow (redrawn wr d) os) HLT.out (by omega) (HPT.out.below (below_regrown wr d os))))
      have t1 := cell_regrown h1
      have t2 := cell_regrown h2
      have hk0 : (0 : Int) ≤ (k : Int) := by omega
      have hkn : (k : Int) < (n : Int) := by omega
      have hkc : (k : Int) ≤ (c : Int) := by omega
      clear h1 h2
      generalize hasB (l.take k) (u, v) = r at *
      go_wp2_with fail
      refine wp_region_quiet_below (by kernel_rfl) (by kernel_rfl) ?_
      repeat (go_big_quiet_step (first | (with_reducible exact (K _ _).out)))
      refine wpQuiet_nil ?_
      intro _ hw'
      obtain ⟨⟨dq, osq⟩, hw''⟩ := hw'
      subst hw''
      have HBE := Lib.hid (hbw.trans ((below_regrown wr dq osq).mono hbw.size))
      cases r
      · go_wp2_with fail
        go_roundw
        case rel => exact ⟨k + 1, by omega, by go_num, HT.out, HBE.out⟩
        case measure => simp [intOf]; omega
      · go_wp2_with fail
        go_ret
        exact ⟨retS_bool (HA.out trivial).symm, HBE.out⟩
    · have HD : Hid (twiceTo l n = false) := Lib.hid (by
        obtain rfl : k = n := by omega
        exact HE.out)
      go_wp2_with fail
      go_ret
      exact ⟨retS_bool HD.out.symm, hbw⟩

theorem cell_split (x y : Int) : cellB (x, y) = (decide (0 ≤ x ∧ x ≤ 5) && decide (0 ≤ y ∧ y ≤ 5)) := by
  unfold cellB
  by_cases h1 : 0 ≤ x ∧ x ≤ 5 <;> by_cases h2 : 0 ≤ y ∧ y ≤ 5 <;> simp [h1, h2]
theorem all_take {l : List Pt} {k : Nat} (h : k < l.length) : (l.take (k + 1)).all cellB = ((l.take k).all cellB && cellB l[k]) := by
  rw [List.take_succ_eq_append_getElem h, List.all_append]
  simp

set_option maxRecDepth 100000 in
set_option maxHeartbeats 2000000 in
theorem cutter5_any (A : Option Addr) (n c : Nat) (l : List Pt) (t f : Bool) (w : World) (hl : l.length = n) (hn : n ≤ 10000) (hc : n ≤ c) (hx : PtsAt w A l) :
    Calls Tryz.prog 6 #[.agg #[.slice A n c, .bool t, .bool f]] w fun e w' => e = .returned (.bool (cutterB l)) ∧ Below w.heap.size w w' := by
  have HB0 : Hid (Below w.heap.size w (w.alloc (.cells #[.slice A n c, .bool t, .bool f] 24))) := Lib.hid ((Below.refl _ _).alloc (Nat.le_refl _) _)
  have HC0 : Hid (Blk (w.alloc (.cells #[.slice A n c, .bool t, .bool f] 24)) w.heap.size 24 #[.slice A n c, .bool t, .bool f]) := Lib.hid (Blk.new _ _ _)
  have HL := Lib.hid hl
  have HX := Lib.hid (hx.below HB0.out)
  clear hl hx
  go_enter Tryz.func6, Tryz.ntmps6
  go_upto_region 1 with (fail)
  generalize (w.alloc (.cells #[.slice A n c, .bool t, .bool f] 24)) = w0 at *
  have k0 := (HC0.out.cell 0).trans (show _ = some (Value.slice A n c) from rfl)
  go_wp2_with fail
  go_loopw [3] (fun i wr => ∃ k : Nat, k ≤ n ∧ i = .int .i64 k ∧ (l.take k).all cellB = true ∧ wr = w0) (fun i _ => n - (intOf i).toNat)
  case atStart => exact ⟨0, Nat.zero_le _, rfl, rfl, rfl⟩
  case round =>
    obtain ⟨k, hk, rfl, he, rfl⟩ := hrel
    have HE := Lib.hid he
    clear he
    by_cases hlt : k < n
    · have hkl : k < l.length := by rw [HL.out]; exact hlt
      obtain ⟨b, off, rfl, hb, hin⟩ := HX.out (by intro e; subst e; simp at hkl)
      obtain ⟨h1, h2⟩ := hin k _ (List.getElem?_eq_getElem hkl)
      have HT : Hid ((l.take (k + 1)).all cellB = cellB l[k]) := Lib.hid (by rw [all_take hkl, HE.out, Bool.true_and])
      have HA : Hid (cellB l[k] = false → cutterB l = false) := Lib.hid fun e => by
        unfold cutterB
        have : l.all cellB = false := List.all_eq_false.2 ⟨_, List.getElem_mem hkl, by rw [e]; simp⟩
        rw [this]; simp
      clear hin
      generalize l[k] = p at *
      obtain ⟨x, y⟩ := p
      have K1 := fun W => Lib.hid (in5_any x 0 5 W)
      have K2 := fun W => Lib.hid (in5_any y 0 5 W)
      have HS : Hid (cellB (x, y) = (decide (0 ≤ x ∧ x ≤ 5) && decide (0 ≤ y ∧ y ≤ 5))) := Lib.hid (cell_split x y)
      generalize decide (0 ≤ x ∧ x ≤ 5) = r1 at *
      generalize decide (0 ≤ y ∧ y ≤ 5) = r2 at *
      go_wp2_with fail
      refine (K1 _).out.mono ?_
      rintro e w1 ⟨rfl, rfl⟩
      cases r1
      · go_wp2_with fail
        go_ret
        exact ⟨retS_bool (HA.out (by rw [HS.out]; rfl)).symm, HB0.out⟩
      · go_wp2_with fail
        refine (K2 _).out.mono ?_
        rintro e w1 ⟨rfl, rfl⟩
        cases r2
        · go_wp2_with fail
          go_ret
          exact ⟨retS_bool (HA.out (by rw [HS.out]; rfl)).symm, HB0.out⟩
        · go_wp2_with fail
          go_roundw
          case rel => exact ⟨k + 1, by omega, by go_num, by rw [HT.out, HS.out]; rfl, trivial⟩
          case measure => simp [intOf]; omega
    · have HD : Hid (cutterB l = (decide (1 ≤ (n : Int) ∧ (n : Int) ≤ 6) && !twiceTo l n)) := Lib.hid (by
        have h := HE.out
        rw [List.take_of_length_le (by rw [HL.out]; omega)] at h
        unfold cutterB
        rw [h, HL.out, Bool.and_true]
        congr 1
        by_cases h1 : 1 ≤ n ∧ n ≤ 6
        · rw [decide_eq_true h1, decide_eq_true (show 1 ≤ (n : Int) ∧ (n : Int) ≤ 6 by omega)]
        · rw [decide_eq_false h1, decide_eq_false (show ¬ (1 ≤ (n : Int) ∧ (n : Int) ≤ 6) by omega)])
      have K1 := fun W => Lib.hid (in5_any n 1 6 W)
      have K2 := Lib.hid (twice5_any A n c l _ HL.out hn hc HX.out)
      generalize decide (1 ≤ (n : Int) ∧ (n : Int) ≤ 6) = r1 at *
      generalize twiceTo l n = r2 at *
      go_wp2_with fail
      refine (K1 _).out.mono ?_
      rintro e w1 ⟨rfl, rfl⟩
      cases r1
      · go_wp2_with fail
        go_ret
        exact ⟨retS_bool (by rw [HD.out]; rfl), HB0.out⟩
      · go_wp2_with fail
        refine K2.out.mono ?_
        rintro e w1 ⟨rfl, hb1⟩
        have HB1 := Lib.hid (HB0.out.trans (hb1.mono HB0.out.size))
        clear hb1
        go_wp2_with fail
        go_ret
        exact ⟨retS_bool (by rw [HD.out]; rfl), HB1.out⟩
end Go.Proofs.YtlekncamokiekaaGreatDoor

/- The document's before and sorted of tiles. -/
namespace Go.Proofs.YtlekncamokiekaaGreatDoor
open Go.RowKit Go.Sort
attribute [local go_sem ↓] run_min_mn run_max_mx

set_option maxRecDepth 100000 in
theorem before5_any (ax ay bx' by' : Int) (w : World) :
    Calls Tryz.prog 58 #[.agg #[.int .i64 ax, .int .i64 ay], .agg #[.int .i64 bx', .int .i64 by']] w fun e w' => e = .returned (.bool (firstB ax ay bx' by')) ∧ Below w.heap.size w w' := by
  have B := boxed2 w ax ay bx' by'
  have fin : ∀ r : Bool, (r = true ↔ (ay < by' ∨ (ay = by' ∧ ax < bx'))) → firstB ax ay bx' by' = r := fun r h => by
    unfold firstB
    cases r
    · rw [Bool.eq_false_iff]; intro e
      simp only [Bool.or_eq_true, Bool.and_eq_true, decide_eq_true_eq, beq_iff_eq] at e
      have := h.2 e; cases this
    · simp only [Bool.or_eq_true, Bool.and_eq_true, decide_eq_true_eq, beq_iff_eq]
      exact h.1 rfl
  go_enter Tryz.func58, Tryz.ntmps58
  go_upto_region 1 with (fail)
  change Code.wp _ _ _ _ ((w.alloc (Go.Proofs.YtlekncamokiekaaGreatDoor.bx ax ay)).alloc (Go.Proofs.YtlekncamokiekaaGreatDoor.bx bx' by'))
  generalize ((w.alloc (Go.Proofs.YtlekncamokiekaaGreatDoor.bx ax ay)).alloc (Go.Proofs.YtlekncamokiekaaGreatDoor.bx bx' by')) = W0 at *
  obtain ⟨⟨a1, a2⟩, ⟨b1, b2⟩, hb, hz⟩ := B
  have HB := Lib.hid hb
  clear hb hz
  by_cases h1 : ay < by'
  · have F := Lib.hid (fin true ⟨fun _ => .inl h1, fun _ => rfl⟩)
    clear fin
    go_wp2_with fail
    go_ret
    exact ⟨retS_bool F.out.symm, HB.out⟩
  · by_cases h2 : ay = by'
    · subst h2
      by_cases h3 : ax < bx'
      · have F := Lib.hid (fin true ⟨fun _ => .inr ⟨rfl, h3⟩, fun _ => rfl⟩)
        clear fin
        go_wp2_with fail
        go_ret
        exact ⟨retS_bool (by rw [F.out]), HB.out⟩
      · have F := Lib.hid (fin false ⟨(fun h => by cases h), fun h => by omega⟩)
        clear fin
        go_wp2_with fail
        go_ret
        exact ⟨retS_bool (by rw [F.out]), HB.out⟩
    · have F := Lib.hid (fin false ⟨(fun h => by cases h), fun h => by omega⟩)
      have h2' : (ay == by') = false := by simpa using h2
      clear fin
      go_wp2_with fail
      go_ret
      exact ⟨retS_bool F.out.symm, HB.out⟩

theorem PtsIn.drop {w : World} {b off : Nat} {l : List Pt} (h : PtsIn w b off l) (k : Nat) : PtsIn w b (off + k * 2) (l.drop k) := fun i p hp => by
  rw [List.getElem?_drop] at hp
  have := h (k + i) p hp
  rw [show off + k * 2 + i * 2 = off + (k + i) * 2 by omega]
  exact this
def SortTo (l : List Pt) (w : World) (e : Ending) (w' : World) : Prop := ∃ v, e = .returned v ∧ PtsOwn w' w.heap.size v (sortR l) ∧ Below w.heap.size w w'

set_option maxRecDepth 100000 in
set_option maxHeartbeats 4000000 in
theorem sorted5_any (A : Option Addr) (n c : Nat) (l : List Pt) (w : World) (hl : l.length = n) (hn : n ≤ 1000) (hx : PtsAt w A l) :
    Calls Tryz.prog 35 #[.slice A n c] w (SortTo l w) := by
  have HL := Lib.hid hl
  have HX := Lib.hid hx
  clear hl hx
  go_enter Tryz.func35, Tryz.ntmps35
  go_wp2_with fail
  go_loopw [3, 4, 5, 6] (fun v i _ _ wr => ∃ k : Nat, k ≤ n ∧ i = .int .i64 k ∧ PtsOwn wr w.heap.size v (sortTo l k) ∧ Below w.heap.size w wr) (fun _ i _ _ _ => n - (intOf i).toNat)
  case atStart => exact ⟨0, Nat.zero_le _, rfl, PtsOwn.empty w, (Below.refl _ _).alloc (Nat.le_refl _) _⟩
  case round =>
    obtain ⟨k, hk, rfl, hO, hbw⟩ := hrel
    have HO := Lib.hid hO
    have HBW := Lib.hid hbw
    have hsz := HBW.out.size
    clear hO hbw
    by_cases hlt : k < n
    · have hkl : k < l.length := by rw [HL.out]; exact hlt
      obtain ⟨b, off, rfl, hb, hin⟩ := HX.out (by intro e; subst e; simp at hkl)
      have hg : l[k]? = some (gt l k) := by unfold gt; rw [List.getD_eq_getElem?_getD, List.getElem?_eq_getElem hkl]; rfl
      have HC : Hid (∀ W, Below w.heap.size w W → W.cell? ⟨b, off + k * 2, none⟩ = some (.int .i64 (gt l k).1) ∧ W.cell? ⟨b, off + k * 2 + 1, none⟩ = some (.int .i64 (gt l k).2)) := Lib.hid fun W hW => (hin.below hW hb) k _ hg
      have HS : Hid (sortTo l (k + 1) = insP (gt l k) (sortTo l k)) := Lib.hid (sortTo_succ hkl)
      have HLS : Hid ((sortTo l k).length = k) := Lib.hid (sortTo_length l (by omega))
      clear hin hg
      generalize gt l k = p at *
      generalize sortTo l k = out at *
      obtain ⟨x, y⟩ := p
      obtain ⟨A0, c0, rfl, hlc, hat, -⟩ := HO.out.slice
      rw [HLS.out]
      have hlc2 : k ≤ c0 := by rw [← HLS.out]; exact hlc
      have HAT := Lib.hid hat
      clear hat hlc
      go_upto_block 2 with (fail)
      go_cut [5] (fun s wx => ∃ j : Nat, j ≤ k ∧ s = .int .i64 j ∧ (∀ q, q < j → firstP (gt out q) (x, y) = true) ∧ (j < k → firstP (gt out j) (x, y) = false) ∧ Below wr.heap.size wr wx)
      case first =>
        go_wp2_with fail
        go_loopw [5] (fun i wx => ∃ j : Nat, j ≤ k ∧ i = .int .i64 j ∧ (∀ q, q < j → firstP (gt out q) (x, y) = true) ∧ Below wr.heap.size wr wx) (fun i _ => k - (intOf i).toNat)
        case atStart => exact ⟨0, Nat.zero_le _, rfl, fun q hq => by omega, Below.refl _ _⟩
        case round =>
          obtain ⟨j, hj, rfl, hall, hbx⟩ := hrel
          have HALL := Lib.hid hall
          have HBX := Lib.hid hbx
          clear hall hbx
          by_cases hjk : j < k
          · have hjo : j < out.length := by rw [HLS.out]; exact hjk
            obtain ⟨b0, o0, rfl, hb0, hin0⟩ := HAT.out (by intro e; subst e; simp at hjo)
            have hgj : out[j]? = some (gt out j) := by unfold gt; rw [List.getD_eq_getElem?_getD, List.getElem?_eq_getElem hjo]; rfl
            obtain ⟨h1, h2⟩ := (hin0.below HBX.out hb0) j _ hgj
            obtain ⟨h3, h4⟩ := HC.out _ (HBW.out.trans (HBX.out.mono hsz))
            have HF : Hid (firstP (gt out j) (x, y) = firstB (gt out j).1 (gt out j).2 x y) := Lib.hid rfl
            obtain ⟨⟨u, v⟩, hq⟩ : ∃ q, gt out j = q := ⟨_, rfl⟩
            rw [hq] at HF h1 h2
            have HQJ := Lib.hid hq
            clear hq
            have K := fun d os => Lib.hid (Calls.regrown_of (before5_any u v x y (grow (redrawn wr d) os)))
            have t1 := cell_regrown h1
            have t2 := cell_regrown h2
            have t3 := cell_regrown h3
            have t4 := cell_regrown h4
            have g1 : decide ((j : Int) < (k : Int)) = true := decide_eq_true (by omega)
            have hj0 : (0 : Int) ≤ (j : Int) := by omega
            have hjk2 : (j : Int) < (k : Int) := by omega
            have hk0 : (0 : Int) ≤ (k : Int) := by omega
            have hkn2 : (k : Int) < (n : Int) := by omega
            clear h1 h2 h3 h4 hin0 hgj
            generalize firstB u v x y = r at *
            go_wp2_with fail
            refine wp_region_quiet_below (by kernel_rfl) (by kernel_rfl) ?_
            repeat (go_big_quiet_step (first | (with_reducible exact (K _ _).out)))
            refine wpQuiet_nil ?_
            intro _ hw'
            obtain ⟨⟨dq, osq⟩, hw''⟩ := hw'
            subst hw''
            have HBE := Lib.hid (HBX.out.trans ((below_regrown wr dq osq).mono HBX.out.size))
            cases r
            · go_wp2_with fail
              go_meet
              exact ⟨j, by omega, rfl, HALL.out, fun _ => by rw [HQJ.out]; exact HF.out, HBE.out⟩
            · go_wp2_with fail
              go_roundw
              case rel => exact ⟨j + 1, by omega, by go_num, fun q hq => by
                by_cases e : q = j
                · rw [e, HQJ.out]; exact HF.out
                · exact HALL.out q (by omega), HBE.out⟩
              case measure => simp [intOf]; omega
          · have g1 : decide ((j : Int) < (k : Int)) = false := decide_eq_false (by omega)
            go_wp2_with fail
            refine wp_region_quiet_below (by kernel_rfl) (by kernel_rfl) ?_
            repeat (go_big_quiet_step (fail))
            refine wpQuiet_nil ?_
            intro _ hw'
            obtain ⟨⟨dq, osq⟩, hw''⟩ := hw'
            subst hw''
            have HBE := Lib.hid (HBX.out.trans ((below_regrown wr dq osq).mono HBX.out.size))
            go_wp2_with fail
            go_meet
            exact ⟨j, hj, rfl, HALL.out, fun h => absurd h hjk, HBE.out⟩
      case rest =>
        obtain ⟨j, hj, rfl, hall, hf, hbx⟩ := hcut
        have HI : Hid (insP (x, y) out = out.take j ++ (x, y) :: out.drop j) := Lib.hid (insP_at (x, y) out j (by rw [HLS.out]; exact hj) hall (by rw [HLS.out]; exact hf))
        have HAW := Lib.hid (HAT.out.below hbx)
        have HBW2 := Lib.hid (HBW.out.trans (hbx.mono hsz))
        have hkn : k ≤ 1000 := by omega
        have HT1 : Hid ((out.take j).length = j) := Lib.hid (by rw [List.length_take, HLS.out]; omega)
        have HT2 : Hid ((out.drop j).length = k - j) := Lib.hid (by rw [List.length_drop, HLS.out])
        have hsw := HBW2.out.size
        have HE := Lib.hid (PtsOwn.empty wc)
        have HB0 : Hid (Below wc.heap.size wc (wc.alloc (.cells #[] 41))) := Lib.hid ((Below.refl _ _).alloc (Nat.le_refl _) _)
        have HY1 : Hid (PtsAt (wc.alloc (.cells #[] 41)) A0 (out.take j)) := Lib.hid ((HAW.out.take j).below HB0.out)
        clear hall hf hbx HAT HBW
        have hj0 : (0 : Int) ≤ (j : Int) := by omega
        have hjc : (j : Int) ≤ (c0 : Int) := by omega
        have hjk3 : (j : Int) ≤ (k : Int) := by omega
        go_upto_region 9 with (at_builtin; refine wpList_papp rfl (.tmp 31) (.tmp 34) rfl wc.heap.size (.slice (some ⟨wc.heap.size, 0, none⟩) 0 0) [] (out.take j) A0 j c0 rfl rfl HE.out HT1.out HY1.out (by rw [HT1.out]; simp; omega) (by simp) ?_; intro v1 w1 ho hg hat; have HO1 := Lib.hid ho; have HB1 : Hid (Below wc.heap.size wc w1) := Lib.hid (HB0.out.grown hg (by simp) (by simp [Value.ownBlock])); clear ho hg hat)
        obtain ⟨h3, h4⟩ := HC.out w1 (HBW2.out.trans (HB1.out.mono hsw))
        have hs1 := HB1.out.size
        go_upto_region 10 with (at_builtin; refine wpList_papp rfl (.tmp 36) (.tmp 41) rfl wc.heap.size v1 ([] ++ out.take j) [(x, y)] (some ⟨w1.heap.size, 0, none⟩) 1 1 rfl rfl (HO1.out.alloc _) rfl (PtsAt.one w1 x y) (by rw [List.nil_append, HT1.out]; simp; omega) (by simp; omega) ?_; intro v2 w2 ho hg hat; have HO2 := Lib.hid ho; have HB2 : Hid (Below wc.heap.size wc w2) := Lib.hid ((HB1.out.alloc hs1 _).grown hg (by simp; omega) (fun q hq => (HO1.out.base q hq).1)); clear ho hg hat)
        clear h3 h4
        have hs2 := HB2.out.size
        have HAW2 := Lib.hid (HAW.out.below HB2.out)
        have HFIN : Hid (∀ v w3, PtsOwn w3 wc.heap.size v (([] ++ out.take j) ++ [(x, y)] ++ out.drop j) → Below wc.heap.size wc w3 → PtsOwn w3 w.heap.size v (sortTo l (k + 1)) ∧ Below w.heap.size w w3) := Lib.hid fun v w3 ho hb => by
          refine ⟨?_, HBW2.out.trans (hb.mono hsw)⟩
          rw [HS.out, HI.out]
          have e : ([] ++ out.take j) ++ [(x, y)] ++ out.drop j = out.take j ++ (x, y) :: out.drop j := by simp
          rw [← e]
          exact ho.low hsw
        by_cases hcj : c0 = j
        · have hdn : out.drop j = [] := List.drop_of_length_le (by rw [HLS.out]; omega)
          go_wp2_with (at_builtin; refine wpList_papp rfl (.tmp 43) (.tmp 46) rfl wc.heap.size v2 (([] ++ out.take j) ++ [(x, y)]) (out.drop j) _ (k - j) _ rfl rfl HO2.out HT2.out (by rw [hdn]; exact PtsAt.nil _ _) (by rw [HT2.out]; simp; omega) (by omega) ?_; intro v3 w3 ho hg hat; have HF3 := Lib.hid (HFIN.out v3 w3 ho (HB2.out.grown hg (by omega) (fun q hq => (HO2.out.base q hq).1))); clear ho hg hat)
          go_roundw
          case rel => exact ⟨k + 1, by omega, by go_num, HF3.out.1, HF3.out.2⟩
          case measure => simp [intOf]; omega
        · by_cases hjk : j < k
          · obtain ⟨b0, o0, rfl, hb0, hin0⟩ := HAW2.out (by intro e; have := HLS.out; rw [e] at this; simp at this; omega)
            have HY3 := Lib.hid (hin0.drop j)
            clear hin0
            go_wp2_with (at_builtin; refine wpList_papp rfl (.tmp 43) (.tmp 46) rfl wc.heap.size v2 (([] ++ out.take j) ++ [(x, y)]) (out.drop j) _ (k - j) _ rfl rfl HO2.out HT2.out (fun _ => ⟨b0, _, rfl, hb0, HY3.out⟩) (by rw [HT2.out]; simp; omega) (by omega) ?_; intro v3 w3 ho hg hat; have HF3 := Lib.hid (HFIN.out v3 w3 ho (HB2.out.grown hg (by omega) (fun q hq => (HO2.out.base q hq).1))); clear ho hg hat)
            go_roundw
            case rel => exact ⟨k + 1, by omega, by go_num, HF3.out.1, HF3.out.2⟩
            case measure => simp [intOf]; omega
          · have hdn : out.drop j = [] := List.drop_of_length_le (by rw [HLS.out]; omega)
            go_wp2_with (at_builtin; refine wpList_papp rfl (.tmp 43) (.tmp 46) rfl wc.heap.size v2 (([] ++ out.take j) ++ [(x, y)]) (out.drop j) _ (k - j) _ rfl rfl HO2.out HT2.out (by rw [hdn]; exact PtsAt.nil _ _) (by rw [HT2.out]; simp; omega) (by omega) ?_; intro v3 w3 ho hg hat; have HF3 := Lib.hid (HFIN.out v3 w3 ho (HB2.out.grown hg (by omega) (fun q hq => (HO2.out.base q hq).1))); clear ho hg hat)
            go_roundw
            case rel => exact ⟨k + 1, by omega, by go_num, HF3.out.1, HF3.out.2⟩
            case measure => simp [intOf]; omega
    · have hkn : k = n := by omega
      have HFIN : Hid (sortTo l k = sortR l) := Lib.hid (by unfold sortR; rw [HL.out, hkn])
      clear hkn
      go_wp2_with fail
      go_ret
      exact ⟨_, rfl, by rw [← HFIN.out]; exact HO.out, HBW.out⟩
end Go.Proofs.YtlekncamokiekaaGreatDoor
