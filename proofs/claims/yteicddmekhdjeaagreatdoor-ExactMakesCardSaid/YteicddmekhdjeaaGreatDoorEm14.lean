/- Parts of the proof, one after the other: BigOver. -/
import Derived.Test.YteicddmekhdjeaaGreatDoorEm13
import Derived.Test.YteicddmekhdjeaaGreatDoorEm12
import Derived.Deep.RegionHeld3
/- Ratio.Over at integers of a word at most. -/
namespace Go.Proofs.YteicddmekhdjeaaGreatDoor
open Go.RowKit Go.Sort

/-- Two whole ratios and a result in their boxes. -/
structure OB (w w' : World) (g : Nat) (s : Int) (A : Option Addr) (n c : Nat) (t : Int) (A' : Option Addr) (m c' : Nat) : Prop where
  bA : RBox w' g s (.slice A n c) 1 (.slice none 0 0)
  bB : RBox w' (g + 1) t (.slice A' m c') 1 (.slice none 0 0)
  R : ∃ s1 B1 k1 d1 s2 B2 k2 d2, RBox w' (g + 1 + 1) s1 (.slice B1 k1 d1) s2 (.slice B2 k2 d2)
  bel : Below g w w'
section
variable {w w1 w2 U W V : World} {g n c m c' K : Nat} {s t x y : Int} {A A' : Option Addr}
theorem OB.lt (h : OB w w1 g s A n c t A' m c') : g + 1 + 1 < w1.heap.size := by
  obtain ⟨s1, B1, k1, d1, s2, B2, k2, d2, hr⟩ := h.R
  exact hr.lt
theorem OB.below (h : OB w w1 g s A n c t A' m c') (hb : Below w1.heap.size w1 w2) : OB w w2 g s A n c t A' m c' := by
  have := h.lt
  obtain ⟨s1, B1, k1, d1, s2, B2, k2, d2, hr⟩ := h.R
  exact ⟨h.bA.below hb (by omega), h.bB.below hb (by omega), ⟨s1, B1, k1, d1, s2, B2, k2, d2, hr.below hb hr.lt⟩, h.bel.trans (hb.mono (by omega))⟩
theorem OB.drew (h : OB w w1 g s A n c t A' m c') : OB w w1.drew g s A n c t A' m c' := ⟨h.bA, h.bB, h.R, h.bel.drew⟩
theorem OB.alloc (h : OB w w1 g s A n c t A' m c') (o : Obj) : OB w (w1.alloc o) g s A n c t A' m c' := h.below ((Below.refl _ _).alloc (Nat.le_refl _) o)
theorem RBox.set {s1 s2 : Int} {v1 v2 : Value} (h : RBox V K s1 v1 s2 v2) {p : Addr} (hp : K ≠ p.block) (u : Value) : RBox (V.setCell p u) K s1 v1 s2 v2 := (Below.heap_setCell V p u K hp).trans h
theorem OB.set (h : OB w w1 g s A n c t A' m c') {p : Addr} (hp : g + 1 + 1 < p.block) (u : Value) : OB w (w1.setCell p u) g s A n c t A' m c' := by
  obtain ⟨s1, B1, k1, d1, s2, B2, k2, d2, hr⟩ := h.R
  exact ⟨h.bA.set (by omega) _, h.bB.set (by omega) _, ⟨s1, B1, k1, d1, s2, B2, k2, d2, hr.set (by omega) _⟩, h.bel.setCell (by omega) _⟩
theorem OB.set4 (h : OB w w1 g s A n c t A' m c') (hK : g + 1 + 1 < K) (u1 u2 u3 u4 : Value) : OB w ((((w1.setCell ⟨K, 0, none⟩ u1).setCell ⟨K, 1, none⟩ u2).setCell ⟨K, 2, none⟩ u3).setCell ⟨K, 3, none⟩ u4) g s A n c t A' m c' :=
  (((h.set (p := ⟨K, 0, none⟩) hK u1).set (p := ⟨K, 1, none⟩) hK u2).set (p := ⟨K, 2, none⟩) hK u3).set (p := ⟨K, 3, none⟩) hK u4
theorem OB.a0 (h : OB w w1 g s A n c t A' m c') : w1.cell? ⟨g, 0, none⟩ = some (.int .i64 s) := h.bA.cells.1
theorem OB.a1 (h : OB w w1 g s A n c t A' m c') : w1.cell? ⟨g, 1, none⟩ = some (.slice A n c) := h.bA.cells.2.1
theorem OB.a2 (h : OB w w1 g s A n c t A' m c') : w1.cell? ⟨g, 2, none⟩ = some (.int .i64 1) := h.bA.cells.2.2.1
theorem OB.a3 (h : OB w w1 g s A n c t A' m c') : w1.cell? ⟨g, 3, none⟩ = some (.slice none 0 0) := h.bA.cells.2.2.2
theorem OB.b0 (h : OB w w1 g s A n c t A' m c') : w1.cell? ⟨g + 1, 0, none⟩ = some (.int .i64 t) := h.bB.cells.1
theorem OB.b1 (h : OB w w1 g s A n c t A' m c') : w1.cell? ⟨g + 1, 1, none⟩ = some (.slice A' m c') := h.bB.cells.2.1
theorem OB.b2 (h : OB w w1 g s A n c t A' m c') : w1.cell? ⟨g + 1, 2, none⟩ = some (.int .i64 1) := h.bB.cells.2.2.1
theorem OB.b3 (h : OB w w1 g s A n c t A' m c') : w1.cell? ⟨g + 1, 3, none⟩ = some (.slice none 0 0) := h.bB.cells.2.2.2
theorem OB.S (h : OB w w1 g s A n c t A' m c') : OB w w1 g s A n c t A' m c' ∧ w1.cell? ⟨g, 0, none⟩ = some (.int .i64 s) ∧ w1.cell? ⟨g, 1, none⟩ = some (.slice A n c) ∧ w1.cell? ⟨g, 2, none⟩ = some (.int .i64 1) ∧ w1.cell? ⟨g, 3, none⟩ = some (.slice none 0 0) ∧ w1.cell? ⟨g + 1, 0, none⟩ = some (.int .i64 t) ∧ w1.cell? ⟨g + 1, 1, none⟩ = some (.slice A' m c') ∧ w1.cell? ⟨g + 1, 2, none⟩ = some (.int .i64 1) ∧ w1.cell? ⟨g + 1, 3, none⟩ = some (.slice none 0 0) := ⟨h, h.a0, h.a1, h.a2, h.a3, h.b0, h.b1, h.b2, h.b3⟩
theorem OB.of (h : OB w w1 g s A n c t A' m c' ∧ w1.cell? ⟨g, 0, none⟩ = some (.int .i64 s) ∧ w1.cell? ⟨g, 1, none⟩ = some (.slice A n c) ∧ w1.cell? ⟨g, 2, none⟩ = some (.int .i64 1) ∧ w1.cell? ⟨g, 3, none⟩ = some (.slice none 0 0) ∧ w1.cell? ⟨g + 1, 0, none⟩ = some (.int .i64 t) ∧ w1.cell? ⟨g + 1, 1, none⟩ = some (.slice A' m c') ∧ w1.cell? ⟨g + 1, 2, none⟩ = some (.int .i64 1) ∧ w1.cell? ⟨g + 1, 3, none⟩ = some (.slice none 0 0)) : OB w w1 g s A n c t A' m c' := h.1
theorem OB.new (hg : w.heap.size = g) :
    OB w (((w.alloc (.cells #[.int .i64 s, .slice A n c, .int .i64 1, .slice none 0 0] 41)).alloc (.cells #[.int .i64 t, .slice A' m c', .int .i64 1, .slice none 0 0] 41)).alloc (.cells #[.int .i64 0, .slice none 0 0, .int .i64 0, .slice none 0 0] 41)) g s A n c t A' m c' := by
  have hb := (((Below.refl w.heap.size w).alloc (Nat.le_refl _) (.cells #[.int .i64 s, .slice A n c, .int .i64 1, .slice none 0 0] 41)).alloc (by simp) (.cells #[.int .i64 t, .slice A' m c', .int .i64 1, .slice none 0 0] 41)).alloc (by simp; omega) (.cells #[.int .i64 0, .slice none 0 0, .int .i64 0, .slice none 0 0] 41)
  refine ⟨((RBox.new w s 1 (.slice A n c) (.slice none 0 0)).alloc _).alloc _ |> fun h => by rwa [hg] at h, ?_, ⟨0, none, 0, 0, 0, none, 0, 0, ?_⟩, by rwa [hg] at hb⟩
  · have h := (RBox.new (w.alloc (.cells #[.int .i64 s, .slice A n c, .int .i64 1, .slice none 0 0] 41)) t 1 (.slice A' m c') (.slice none 0 0)).alloc (.cells #[.int .i64 0, .slice none 0 0, .int .i64 0, .slice none 0 0] 41)
    rw [World.size_alloc, hg] at h
    exact h
  · have h := RBox.new ((w.alloc (.cells #[.int .i64 s, .slice A n c, .int .i64 1, .slice none 0 0] 41)).alloc (.cells #[.int .i64 t, .slice A' m c', .int .i64 1, .slice none 0 0] 41)) 0 0 (.slice none 0 0) (.slice none 0 0)
    rw [World.size_alloc, World.size_alloc, hg] at h
    exact h
/-! What a region keeps whose allocations may come between its calls. -/
theorem chn0 (hb : Below U.heap.size U W) : Below U.heap.size U W := hb
theorem chn1 (o : Obj) (hb : Below (U.alloc o).heap.size (U.alloc o) W) : Below U.heap.size U W := ((Below.refl _ U).alloc (Nat.le_refl _) o).trans (hb.mono (by simp))
theorem chn2 (o o' : Obj) (hb : Below ((U.alloc o).alloc o').heap.size ((U.alloc o).alloc o') W) : Below U.heap.size U W := chn1 o (chn1 o' hb)
theorem ext0 (U : World) : Below U.heap.size U U := Below.refl _ _
theorem ext1 (U : World) (o : Obj) : Below U.heap.size U (U.alloc o) := (Below.refl _ U).alloc (Nat.le_refl _) o
theorem ext2 (U : World) (o o' : Obj) : Below U.heap.size U ((U.alloc o).alloc o') := (ext1 U o).trans ((ext1 _ o').mono (by simp))
theorem box1 (hb : Below (U.alloc (.cells #[.int .i64 0, .slice none 0 0, .int .i64 0, .slice none 0 0] 41)).heap.size (U.alloc (.cells #[.int .i64 0, .slice none 0 0, .int .i64 0, .slice none 0 0] 41)) W) : RBox W U.heap.size 0 (.slice none 0 0) 0 (.slice none 0 0) := (RBox.new U 0 0 (.slice none 0 0) (.slice none 0 0)).below hb (by simp)
theorem box2a (hb : Below ((U.alloc (.cells #[.int .i64 0, .slice none 0 0, .int .i64 0, .slice none 0 0] 41)).alloc (.cells #[.int .i64 0, .slice none 0 0, .int .i64 0, .slice none 0 0] 41)).heap.size ((U.alloc (.cells #[.int .i64 0, .slice none 0 0, .int .i64 0, .slice none 0 0] 41)).alloc (.cells #[.int .i64 0, .slice none 0 0, .int .i64 0, .slice none 0 0] 41)) W) : RBox W U.heap.size 0 (.slice none 0 0) 0 (.slice none 0 0) := ((RBox.new U 0 0 (.slice none 0 0) (.slice none 0 0)).alloc _).below hb (by simp; omega)
theorem box2b (hb : Below ((U.alloc (.cells #[.int .i64 0, .slice none 0 0, .int .i64 0, .slice none 0 0] 41)).alloc (.cells #[.int .i64 0, .slice none 0 0, .int .i64 0, .slice none 0 0] 41)).heap.size ((U.alloc (.cells #[.int .i64 0, .slice none 0 0, .int .i64 0, .slice none 0 0] 41)).alloc (.cells #[.int .i64 0, .slice none 0 0, .int .i64 0, .slice none 0 0] 41)) W) : RBox W (U.heap.size + 1) 0 (.slice none 0 0) 0 (.slice none 0 0) := by
  have h := (RBox.new (U.alloc (.cells #[.int .i64 0, .slice none 0 0, .int .i64 0, .slice none 0 0] 41)) 0 0 (.slice none 0 0) (.slice none 0 0)).below hb (by simp)
  rwa [World.size_alloc] at h
theorem ZW.drw {v : Value} {z : Int} (h : ZW U v z) : ZW U.drew v z := h
theorem chnd0 (hb : Below U.drew.heap.size U.drew W) : Below U.heap.size U W := (Below.refl U.heap.size U).drew.trans hb
theorem chnd1 (o : Obj) (hb : Below (U.alloc o).drew.heap.size (U.alloc o).drew W) : Below U.heap.size U W := chn1 o (chnd0 hb)
theorem chnd2 (o o' : Obj) (hb : Below ((U.alloc o).alloc o').drew.heap.size ((U.alloc o).alloc o').drew W) : Below U.heap.size U W := chn2 o o' (chnd0 hb)
theorem boxd1 (hb : Below (U.alloc (.cells #[.int .i64 0, .slice none 0 0, .int .i64 0, .slice none 0 0] 41)).drew.heap.size (U.alloc (.cells #[.int .i64 0, .slice none 0 0, .int .i64 0, .slice none 0 0] 41)).drew W) : RBox W U.heap.size 0 (.slice none 0 0) 0 (.slice none 0 0) := box1 (chnd0 hb)
theorem boxd2a (hb : Below ((U.alloc (.cells #[.int .i64 0, .slice none 0 0, .int .i64 0, .slice none 0 0] 41)).alloc (.cells #[.int .i64 0, .slice none 0 0, .int .i64 0, .slice none 0 0] 41)).drew.heap.size ((U.alloc (.cells #[.int .i64 0, .slice none 0 0, .int .i64 0, .slice none 0 0] 41)).alloc (.cells #[.int .i64 0, .slice none 0 0, .int .i64 0, .slice none 0 0] 41)).drew W) : RBox W U.heap.size 0 (.slice none 0 0) 0 (.slice none 0 0) := box2a (chnd0 hb)
theorem boxd2b (hb : Below ((U.alloc (.cells #[.int .i64 0, .slice none 0 0, .int .i64 0, .slice none 0 0] 41)).alloc (.cells #[.int .i64 0, .slice none 0 0, .int .i64 0, .slice none 0 0] 41)).drew.heap.size ((U.alloc (.cells #[.int .i64 0, .slice none 0 0, .int .i64 0, .slice none 0 0] 41)).alloc (.cells #[.int .i64 0, .slice none 0 0, .int .i64 0, .slice none 0 0] 41)).drew W) : RBox W (U.heap.size + 1) 0 (.slice none 0 0) 0 (.slice none 0 0) := box2b (chnd0 hb)
/-- What lies in the two new boxes and the others behind the region. -/
def OvD (w : World) (g : Nat) (X Y : Int) (p5 p6 : Value) (wx : World) : Prop := ∃ K5 K6 s1 A1 n1 k1 s2 A2 n2 k2, p5 = .pointer (some ⟨K5, 0, none⟩) ∧ p6 = .pointer (some ⟨K6, 0, none⟩) ∧
  RBox wx K5 s1 (.slice A1 n1 k1) s2 (.slice A2 n2 k2) ∧ RBox wx K6 1 (.slice none 0 0) 1 (.slice none 0 0) ∧ (∃ s1 B1 k1 d1 s2 B2 k2 d2, RBox wx (g + 1 + 1) s1 (.slice B1 k1 d1) s2 (.slice B2 k2 d2)) ∧
  ZW wx (.agg #[.int .i64 s1, .slice A1 n1 k1]) X ∧ ZW wx (.agg #[.int .i64 s2, .slice A2 n2 k2]) Y ∧ Below g w wx ∧ g + 1 + 1 < K5 ∧ g + 1 + 1 < K6
theorem ov_end {K5 K6 : Nat} {s1 s2 X Y : Int} {A1 A2 : Option Addr} {n1 k1 n2 k2 : Nat} (hO : OB w V g s A n c t A' m c') (h5 : RBox V K5 0 (.slice none 0 0) 0 (.slice none 0 0)) (h6 : RBox V K6 0 (.slice none 0 0) 0 (.slice none 0 0)) (hne : K5 ≠ K6) (l5 : g + 1 + 1 < K5) (l6 : g + 1 + 1 < K6) (hx : ZW V (.agg #[.int .i64 s1, .slice A1 n1 k1]) X) (hy : ZW V (.agg #[.int .i64 s2, .slice A2 n2 k2]) Y) :
    OvD w g X Y (.pointer (some ⟨K5, 0, none⟩)) (.pointer (some ⟨K6, 0, none⟩)) ((((((((V.setCell ⟨K5, 0, none⟩ (.int .i64 s1)).setCell ⟨K5, 1, none⟩ (.slice A1 n1 k1)).setCell ⟨K5, 2, none⟩ (.int .i64 s2)).setCell ⟨K5, 3, none⟩ (.slice A2 n2 k2)).setCell ⟨K6, 0, none⟩ (.int .i64 1)).setCell ⟨K6, 1, none⟩ (.slice none 0 0)).setCell ⟨K6, 2, none⟩ (.int .i64 1)).setCell ⟨K6, 3, none⟩ (.slice none 0 0)) := by
  obtain ⟨p5, u5, b5⟩ := h5.put s1 s2 (.slice A1 n1 k1) (.slice A2 n2 k2)
  have h6' := (((h6.set (p := ⟨K5, 0, none⟩) (fun e => hne e.symm) (.int .i64 s1)).set (p := ⟨K5, 1, none⟩) (fun e => hne e.symm) (.slice A1 n1 k1)).set (p := ⟨K5, 2, none⟩) (fun e => hne e.symm) (.int .i64 s2)).set (p := ⟨K5, 3, none⟩) (fun e => hne e.symm) (.slice A2 n2 k2)
  obtain ⟨p6, u6, b6⟩ := h6'.put 1 1 (.slice none 0 0) (.slice none 0 0)
  have hO2 := (hO.set4 l5 (.int .i64 s1) (.slice A1 n1 k1) (.int .i64 s2) (.slice A2 n2 k2)).set4 l6 (.int .i64 1) (.slice none 0 0) (.int .i64 1) (.slice none 0 0)
  exact ⟨K5, K6, s1, A1, n1, k1, s2, A2, n2, k2, rfl, rfl, (((p5.set (p := ⟨K6, 0, none⟩) hne _).set (p := ⟨K6, 1, none⟩) hne _).set (p := ⟨K6, 2, none⟩) hne _).set (p := ⟨K6, 3, none⟩) hne _, p6, hO2.R, (hx.put u5).put u6, (hy.put u5).put u6, hO2.bel, l5, l6⟩
theorem ov_of {K5 K6 : Nat} {s1 s2 X Y : Int} {A1 A2 : Option Addr} {n1 k1 n2 k2 : Nat} (hO : OB w V g s A n c t A' m c') (h5 : RBox V K5 s1 (.slice A1 n1 k1) s2 (.slice A2 n2 k2)) (h6 : RBox V K6 1 (.slice none 0 0) 1 (.slice none 0 0)) (hx : ZW V (.agg #[.int .i64 s1, .slice A1 n1 k1]) X) (hy : ZW V (.agg #[.int .i64 s2, .slice A2 n2 k2]) Y) (l5 : g + 1 + 1 < K5) (l6 : g + 1 + 1 < K6) : OvD w g X Y (.pointer (some ⟨K5, 0, none⟩)) (.pointer (some ⟨K6, 0, none⟩)) V :=
  ⟨K5, K6, s1, A1, n1, k1, s2, A2, n2, k2, rfl, rfl, h5, h6, hO.R, hx, hy, hO.bel, l5, l6⟩
theorem RBox.new1 (V : World) (o : Obj) (s1 s2 : Int) (v1 v2 : Value) : RBox ((V.alloc o).alloc (.cells #[.int .i64 s1, v1, .int .i64 s2, v2] 41)) (V.heap.size + 1) s1 v1 s2 v2 := by
  have h := RBox.new (V.alloc o) s1 s2 v1 v2
  rwa [World.size_alloc] at h
theorem ov_1a {s1 s2 X Y : Int} {A1 A2 : Option Addr} {n1 k1 n2 k2 : Nat} (hO : OB w V g s A n c t A' m c') (hx : ZW V (.agg #[.int .i64 s1, .slice A1 n1 k1]) X) (hy : ZW V (.agg #[.int .i64 s2, .slice A2 n2 k2]) Y) :
    OvD w g X Y (.pointer (some ⟨V.heap.size, 0, none⟩)) (.pointer (some ⟨V.heap.size + 1, 0, none⟩)) ((V.alloc (.cells #[.int .i64 s1, .slice A1 n1 k1, .int .i64 s2, .slice A2 n2 k2] 41)).alloc (.cells #[.int .i64 1, .slice none 0 0, .int .i64 1, .slice none 0 0] 41)) :=
  ov_of ((hO.alloc _).alloc _) ((RBox.new V s1 s2 _ _).alloc _) (RBox.new1 V _ 1 1 _ _) (hx.below (ext2 V _ _)) (hy.below (ext2 V _ _)) (by have := hO.lt; omega) (by have := hO.lt; omega)
theorem ov_1b {s1 s2 X Y : Int} {A1 A2 : Option Addr} {n1 k1 n2 k2 : Nat} (hO : OB w V g s A n c t A' m c') (hx : ZW V (.agg #[.int .i64 s1, .slice A1 n1 k1]) X) (hy : ZW V (.agg #[.int .i64 s2, .slice A2 n2 k2]) Y) :
    OvD w g X Y (.pointer (some ⟨V.heap.size + 1, 0, none⟩)) (.pointer (some ⟨V.heap.size, 0, none⟩)) ((V.alloc (.cells #[.int .i64 1, .slice none 0 0, .int .i64 1, .slice none 0 0] 41)).alloc (.cells #[.int .i64 s1, .slice A1 n1 k1, .int .i64 s2, .slice A2 n2 k2] 41)) :=
  ov_of ((hO.alloc _).alloc _) (RBox.new1 V _ s1 s2 _ _) ((RBox.new V 1 1 _ _).alloc _) (hx.below (ext2 V _ _)) (hy.below (ext2 V _ _)) (by have := hO.lt; omega) (by have := hO.lt; omega)
theorem ov_2a {K5 : Nat} {s1 s2 X Y : Int} {A1 A2 : Option Addr} {n1 k1 n2 k2 : Nat} (hO : OB w V g s A n c t A' m c') (h5 : RBox V K5 0 (.slice none 0 0) 0 (.slice none 0 0)) (l5 : g + 1 + 1 < K5) (hx : ZW V (.agg #[.int .i64 s1, .slice A1 n1 k1]) X) (hy : ZW V (.agg #[.int .i64 s2, .slice A2 n2 k2]) Y) :
    OvD w g X Y (.pointer (some ⟨K5, 0, none⟩)) (.pointer (some ⟨V.heap.size, 0, none⟩)) (((((V.setCell ⟨K5, 0, none⟩ (.int .i64 s1)).setCell ⟨K5, 1, none⟩ (.slice A1 n1 k1)).setCell ⟨K5, 2, none⟩ (.int .i64 s2)).setCell ⟨K5, 3, none⟩ (.slice A2 n2 k2)).alloc (.cells #[.int .i64 1, .slice none 0 0, .int .i64 1, .slice none 0 0] 41)) := by
  obtain ⟨p5, u5, b5⟩ := h5.put s1 s2 (.slice A1 n1 k1) (.slice A2 n2 k2)
  have hn := RBox.new ((((V.setCell ⟨K5, 0, none⟩ (.int .i64 s1)).setCell ⟨K5, 1, none⟩ (.slice A1 n1 k1)).setCell ⟨K5, 2, none⟩ (.int .i64 s2)).setCell ⟨K5, 3, none⟩ (.slice A2 n2 k2)) 1 1 (.slice none 0 0) (.slice none 0 0)
  simp only [World.size_setCell] at hn
  exact ov_of ((hO.set4 l5 _ _ _ _).alloc _) (p5.alloc _) hn ((hx.put u5).below (ext1 _ _)) ((hy.put u5).below (ext1 _ _)) l5 hO.lt
theorem ov_2b {K6 : Nat} {s1 s2 X Y : Int} {A1 A2 : Option Addr} {n1 k1 n2 k2 : Nat} (hO : OB w V g s A n c t A' m c') (h6 : RBox V K6 0 (.slice none 0 0) 0 (.slice none 0 0)) (l6 : g + 1 + 1 < K6) (hx : ZW V (.agg #[.int .i64 s1, .slice A1 n1 k1]) X) (hy : ZW V (.agg #[.int .i64 s2, .slice A2 n2 k2]) Y) :
    OvD w g X Y (.pointer (some ⟨V.heap.size, 0, none⟩)) (.pointer (some ⟨K6, 0, none⟩)) (((((V.setCell ⟨K6, 0, none⟩ (.int .i64 1)).setCell ⟨K6, 1, none⟩ (.slice none 0 0)).setCell ⟨K6, 2, none⟩ (.int .i64 1)).setCell ⟨K6, 3, none⟩ (.slice none 0 0)).alloc (.cells #[.int .i64 s1, .slice A1 n1 k1, .int .i64 s2, .slice A2 n2 k2] 41)) := by
  obtain ⟨p6, u6, b6⟩ := h6.put 1 1 (.slice none 0 0) (.slice none 0 0)
  have hn := RBox.new ((((V.setCell ⟨K6, 0, none⟩ (.int .i64 1)).setCell ⟨K6, 1, none⟩ (.slice none 0 0)).setCell ⟨K6, 2, none⟩ (.int .i64 1)).setCell ⟨K6, 3, none⟩ (.slice none 0 0)) s1 s2 (.slice A1 n1 k1) (.slice A2 n2 k2)
  simp only [World.size_setCell] at hn
  exact ov_of ((hO.set4 l6 _ _ _ _).alloc _) hn (p6.alloc _) ((hx.put u6).below (ext1 _ _)) ((hy.put u6).below (ext1 _ _)) hO.lt l6
/-- The two new boxes and the result's, behind the first region. -/
structure OK2 (w w' : World) (g K5 : Nat) (s1 : Int) (A1 : Option Addr) (n1 k1 : Nat) (s2 : Int) (A2 : Option Addr) (n2 k2 : Nat) (K6 : Nat) : Prop where
  h5 : RBox w' K5 s1 (.slice A1 n1 k1) s2 (.slice A2 n2 k2)
  h6 : RBox w' K6 1 (.slice none 0 0) 1 (.slice none 0 0)
  R : ∃ r1 B1 i1 d1 r2 B2 i2 d2, RBox w' (g + 1 + 1) r1 (.slice B1 i1 d1) r2 (.slice B2 i2 d2)
  bel : Below g w w'
  l5 : g + 1 + 1 < K5
  l6 : g + 1 + 1 < K6
section
variable {K5 K6 n1 k1 n2 k2 : Nat} {s1 s2 : Int} {A1 A2 : Option Addr}
theorem OK2.below (h : OK2 w w1 g K5 s1 A1 n1 k1 s2 A2 n2 k2 K6) (hb : Below w1.heap.size w1 w2) : OK2 w w2 g K5 s1 A1 n1 k1 s2 A2 n2 k2 K6 := by
  obtain ⟨h5, h6, ⟨r1, B1, i1, d1, r2, B2, i2, d2, hr⟩, hbl, l5, l6⟩ := h
  have := hr.lt
  exact ⟨h5.below hb h5.lt, h6.below hb h6.lt, ⟨r1, B1, i1, d1, r2, B2, i2, d2, hr.below hb hr.lt⟩, hbl.trans (hb.mono (by omega)), l5, l6⟩
theorem OK2.drew (h : OK2 w w1 g K5 s1 A1 n1 k1 s2 A2 n2 k2 K6) : OK2 w w1.drew g K5 s1 A1 n1 k1 s2 A2 n2 k2 K6 := ⟨h.h5, h.h6, h.R, h.bel.drew, h.l5, h.l6⟩
theorem OK2.put (h : OK2 w w1 g K5 s1 A1 n1 k1 s2 A2 n2 k2 K6) (x1 x2 : Int) (u1 u2 : Value) (hu1 : ∃ B i d, u1 = .slice B i d) (hu2 : ∃ B i d, u2 = .slice B i d) : OK2 w ((((w1.setCell ⟨g + 1 + 1, 0, none⟩ (.int .i64 x1)).setCell ⟨g + 1 + 1, 1, none⟩ u1).setCell ⟨g + 1 + 1, 2, none⟩ (.int .i64 x2)).setCell ⟨g + 1 + 1, 3, none⟩ u2) g K5 s1 A1 n1 k1 s2 A2 n2 k2 K6 := by
  obtain ⟨h5, h6, ⟨r1, B1, i1, d1, r2, B2, i2, d2, hr⟩, hbl, l5, l6⟩ := h
  obtain ⟨C1, e1, f1, rfl⟩ := hu1
  obtain ⟨C2, e2, f2, rfl⟩ := hu2
  obtain ⟨pz, pu, pb⟩ := hr.put x1 x2 (.slice C1 e1 f1) (.slice C2 e2 f2)
  have N : ∀ {K : Nat} {i : Nat}, g + 1 + 1 < K → K ≠ (⟨g + 1 + 1, i, none⟩ : Addr).block := fun h => by show _ ≠ g + 1 + 1; omega
  exact ⟨(((h5.set (p := ⟨g + 1 + 1, 0, none⟩) (N l5) _).set (p := ⟨g + 1 + 1, 1, none⟩) (N l5) _).set (p := ⟨g + 1 + 1, 2, none⟩) (N l5) _).set (p := ⟨g + 1 + 1, 3, none⟩) (N l5) _, (((h6.set (p := ⟨g + 1 + 1, 0, none⟩) (N l6) _).set (p := ⟨g + 1 + 1, 1, none⟩) (N l6) _).set (p := ⟨g + 1 + 1, 2, none⟩) (N l6) _).set (p := ⟨g + 1 + 1, 3, none⟩) (N l6) _, ⟨x1, C1, e1, f1, x2, C2, e2, f2, pz⟩, pb hbl (by omega), l5, l6⟩
theorem OK2.S (h : OK2 w w1 g K5 s1 A1 n1 k1 s2 A2 n2 k2 K6) : OK2 w w1 g K5 s1 A1 n1 k1 s2 A2 n2 k2 K6 ∧ w1.cell? ⟨K5, 0, none⟩ = some (.int .i64 s1) ∧ w1.cell? ⟨K5, 1, none⟩ = some (.slice A1 n1 k1) ∧ w1.cell? ⟨K5, 2, none⟩ = some (.int .i64 s2) ∧ w1.cell? ⟨K5, 3, none⟩ = some (.slice A2 n2 k2) ∧ w1.cell? ⟨K6, 0, none⟩ = some (.int .i64 1) ∧ w1.cell? ⟨K6, 1, none⟩ = some (.slice none 0 0) ∧ w1.cell? ⟨K6, 2, none⟩ = some (.int .i64 1) ∧ w1.cell? ⟨K6, 3, none⟩ = some (.slice none 0 0) := ⟨h, h.h5.cells.1, h.h5.cells.2.1, h.h5.cells.2.2.1, h.h5.cells.2.2.2, h.h6.cells.1, h.h6.cells.2.1, h.h6.cells.2.2.1, h.h6.cells.2.2.2⟩
theorem OK2.of (h : OK2 w w1 g K5 s1 A1 n1 k1 s2 A2 n2 k2 K6 ∧ w1.cell? ⟨K5, 0, none⟩ = some (.int .i64 s1) ∧ w1.cell? ⟨K5, 1, none⟩ = some (.slice A1 n1 k1) ∧ w1.cell? ⟨K5, 2, none⟩ = some (.int .i64 s2) ∧ w1.cell? ⟨K5, 3, none⟩ = some (.slice A2 n2 k2) ∧ w1.cell? ⟨K6, 0, none⟩ = some (.int .i64 1) ∧ w1.cell? ⟨K6, 1, none⟩ = some (.slice none 0 0) ∧ w1.cell? ⟨K6, 2, none⟩ = some (.int .i64 1) ∧ w1.cell? ⟨K6, 3, none⟩ = some (.slice none 0 0)) : OK2 w w1 g K5 s1 A1 n1 k1 s2 A2 n2 k2 K6 := h.1
end
end
theorem one_W (V : World) : ZW V (.agg #[.int .i64 1, .slice none 0 0]) 1 := .inl ⟨by unfold Small; omega, rfl⟩
theorem new11 (V : World) : Calls Tryz.prog 22 #[.agg #[.int .i64 1, .slice none 0 0], .agg #[.int .i64 1, .slice none 0 0]] V fun e w' => e = .returned (.agg #[.int .i64 1, .slice none 0 0, .int .i64 1, .slice none 0 0]) ∧ Below V.heap.size V w' := new_any 1 1 (by unfold Small; omega) (by unfold Small; omega) (by omega) V

set_option maxRecDepth 100000 in
set_option maxHeartbeats 8000000 in
theorem overW (x y : Int) (s : Int) (A : Option Addr) (n c : Nat) (t : Int) (A' : Option Addr) (m c' : Nat) (w : World) (hx : ZW w (.agg #[.int .i64 s, .slice A n c]) x) (hy : ZW w (.agg #[.int .i64 t, .slice A' m c']) y) (hxl : x.natAbs ≤ 9223372036854775808) (hyl : y.natAbs ≤ 9223372036854775808) (h0 : y ≠ 0) :
    Calls Tryz.prog 11 #[.agg #[.int .i64 s, .slice A n c, .int .i64 1, .slice none 0 0], .agg #[.int .i64 t, .slice A' m c', .int .i64 1, .slice none 0 0]] w (RetQW ((sgnN x y).tdiv (Int.gcd x y)) ((sgnN y y).tdiv (Int.gcd x y)) w) := by
  generalize hg : w.heap.size = g
  have O0 := OB.new (s := s) (A := A) (n := n) (c := c) (t := t) (A' := A') (m := m) (c' := c') hg
  have hbw : Below w.heap.size w (((w.alloc (.cells #[.int .i64 s, .slice A n c, .int .i64 1, .slice none 0 0] 41)).alloc (.cells #[.int .i64 t, .slice A' m c', .int .i64 1, .slice none 0 0] 41)).alloc (.cells #[.int .i64 0, .slice none 0 0, .int .i64 0, .slice none 0 0] 41)) := by rw [hg]; exact O0.bel
  have HZ0 := Lib.hid (And.intro (hx.below hbw) (hy.below hbw))
  have NW := fun V (h1 : ZW V (.agg #[.int .i64 s, .slice A n c]) x) (h2 : ZW V (.agg #[.int .i64 t, .slice A' m c']) y) => Lib.hid (newW_any x y _ _ V h1 h2 hxl hyl h0)
  have DA := fun V => Lib.hid (denW s A n c 1 none 0 0 1 V (one_W V) (by omega))
  have DB := fun V => Lib.hid (denW t A' m c' 1 none 0 0 1 V (one_W V) (by omega))
  have N1 := fun V => Lib.hid (new11 V)
  have TX := fun V v (h : ZW V v ((sgnN x y).tdiv (Int.gcd x y))) => ztimes_oneW _ v V h
  have TY := fun V v (h : ZW V v ((sgnN y y).tdiv (Int.gcd x y))) => ztimes_oneW _ v V h
  generalize (sgnN x y).tdiv (Int.gcd x y) = QX at *
  generalize (sgnN y y).tdiv (Int.gcd x y) = QY at *
  unfold SI at TX TY
  have TX := fun V v h => Lib.hid (TX V v h)
  have TY := fun V v h => Lib.hid (TY V v h)
  clear hx hy hxl hyl h0 hbw
  go_enter Tryz.func11, Tryz.ntmps11
  go_upto_region 1 with (fail)
  generalize ((w.alloc (.cells #[.int .i64 s, .slice A n c, .int .i64 1, .slice none 0 0] 41)).alloc (.cells #[.int .i64 t, .slice A' m c', .int .i64 1, .slice none 0 0] 41)).alloc (.cells #[.int .i64 0, .slice none 0 0, .int .i64 0, .slice none 0 0] 41) = w0 at *
  obtain ⟨a0, a1, a2, a3⟩ := O0.bA.cells
  obtain ⟨b0, b1, b2, b3⟩ := O0.bB.cells
  have hl0 := O0.lt
  go_cut [5, 6] from 7 to 16 (fun p5 p6 wx => OvD w g QX QY p5 p6 wx)
  case first =>
    clear a0 a1 a2 a3 b0 b1 b2 b3 TX TY
    go_region_held3 (fun w' => OB w w' g s A n c t A' m c' ∧ w'.cell? ⟨g, 0, none⟩ = some (.int .i64 s) ∧ w'.cell? ⟨g, 1, none⟩ = some (.slice A n c) ∧ w'.cell? ⟨g, 2, none⟩ = some (.int .i64 1) ∧ w'.cell? ⟨g, 3, none⟩ = some (.slice none 0 0) ∧ w'.cell? ⟨g + 1, 0, none⟩ = some (.int .i64 t) ∧ w'.cell? ⟨g + 1, 1, none⟩ = some (.slice A' m c') ∧ w'.cell? ⟨g + 1, 2, none⟩ = some (.int .i64 1) ∧ w'.cell? ⟨g + 1, 3, none⟩ = some (.slice none 0 0))
      (with_reducible (refine OB.S ?_; (first | (first | assumption | (refine OB.of ?_; assumption)) | (refine OB.drew ?_; (first | (first | assumption | (refine OB.of ?_; assumption)) | (refine OB.alloc ?_ _; (first | (first | assumption | (refine OB.of ?_; assumption)) | (refine OB.alloc ?_ _; (first | assumption | (refine OB.of ?_; assumption))))) | (refine OB.set4 ?_ ?_ _ _ _ _; (first | assumption | (refine OB.of ?_; assumption)); omega))) | (refine OB.alloc ?_ _; (first | (first | assumption | (refine OB.of ?_; assumption)) | (refine OB.alloc ?_ _; (first | (first | assumption | (refine OB.of ?_; assumption)) | (refine OB.alloc ?_ _; (first | assumption | (refine OB.of ?_; assumption))))) | (refine OB.set4 ?_ ?_ _ _ _ _; (first | assumption | (refine OB.of ?_; assumption)); omega))) | (refine OB.set4 ?_ ?_ _ _ _ _; (first | (first | assumption | (refine OB.of ?_; assumption)) | (refine OB.set4 ?_ ?_ _ _ _ _; (first | assumption | (refine OB.of ?_; assumption)); omega)); omega))))
      (first | (go_at_call 22; (with_reducible refine ((N1 _).out).mono ?_); rintro e w4 ⟨rfl, hb4⟩; have O4 := OB.below (w := w) (g := g) (s := s) (A := A) (n := n) (c := c) (t := t) (A' := A') (m := m) (c' := c') (OB.of (by assumption)) hb4; have hl4 := O4.lt; (with_reducible first | (have C := chn0 (U := w3) hb4) | (have C := chn1 (U := w3) _ hb4) | (have C := chn2 (U := w3) _ _ hb4)); (with_reducible first | (have kA := box2a (U := w3) hb4; have kB := box2b (U := w3) hb4) | (have hAB := kA.lt; have kB := box1 (U := w3) hb4; replace kA := RBox.below kA C kA.lt) | (have kA := box1 (U := w3) hb4) | (replace kA := RBox.below kA C kA.lt; replace kB := RBox.below kB C kB.lt) | (replace kA := RBox.below kA C kA.lt) | skip); have HX4 : Hid (ZW w4 (.agg #[.int .i64 s1, .slice A1 n1 k1]) QX ∧ ZW w4 (.agg #[.int .i64 s2, .slice A2 n2 k2]) QY) := Lib.hid ⟨HX3.out.1.below C, HX3.out.2.below C⟩; clear hb4 C O3 HX3; (try obtain ⟨ka0, ka1, ka2, ka3⟩ := kA.cells); (try have kaf0 := kA.frozen 0); (try have kaf1 := kA.frozen 1); (try have kaf2 := kA.frozen 2); (try have kaf3 := kA.frozen 3); (try obtain ⟨kb0, kb1, kb2, kb3⟩ := kB.cells); (try have kbf0 := kB.frozen 0); (try have kbf1 := kB.frozen 1); (try have kbf2 := kB.frozen 2); (try have kbf3 := kB.frozen 3); (try have hAl := kA.lt); (try have hAn1 := Nat.ne_of_lt hAl); (try have hAn2 := Ne.symm hAn1); (try have hBl := kB.lt); (try have hBn1 := Nat.ne_of_lt hBl); (try have hBn2 := Ne.symm hBn1); (try have hAB1 := Nat.ne_of_lt hAB); (try have hAB2 := Ne.symm hAB1)) | (go_at_call 23; (with_reducible refine ((DA _).out).mono ?_); rintro e w3 ⟨rfl, hb3⟩; have O3 := OB.below (w := w) (g := g) (s := s) (A := A) (n := n) (c := c) (t := t) (A' := A') (m := m) (c' := c') (OB.of (by assumption)) hb3; have hl3 := O3.lt; (with_reducible first | (have C := chn0 (U := w2) hb3) | (have C := chn1 (U := w2) _ hb3) | (have C := chn2 (U := w2) _ _ hb3)); (with_reducible first | (have kA := box2a (U := w2) hb3; have kB := box2b (U := w2) hb3) | (have hAB := kA.lt; have kB := box1 (U := w2) hb3; replace kA := RBox.below kA C kA.lt) | (have kA := box1 (U := w2) hb3) | (replace kA := RBox.below kA C kA.lt; replace kB := RBox.below kB C kB.lt) | (replace kA := RBox.below kA C kA.lt) | skip); have HX3 : Hid (ZW w3 (.agg #[.int .i64 s1, .slice A1 n1 k1]) QX ∧ ZW w3 (.agg #[.int .i64 s2, .slice A2 n2 k2]) QY) := Lib.hid ⟨HX2.out.1.below C, HX2.out.2.below C⟩; clear hb3 C O2 HX2) | (go_at_call 23; (with_reducible refine ((DB _).out).mono ?_); rintro e w2 ⟨rfl, hb2⟩; have O2 := OB.below (w := w) (g := g) (s := s) (A := A) (n := n) (c := c) (t := t) (A' := A') (m := m) (c' := c') (OB.of (by assumption)) hb2; have hl2 := O2.lt; (with_reducible first | (have C := chn0 (U := w1) hb2) | (have C := chn1 (U := w1) _ hb2) | (have C := chn2 (U := w1) _ _ hb2)); (with_reducible first | (have kA := box2a (U := w1) hb2; have kB := box2b (U := w1) hb2) | (have hAB := kA.lt; have kB := box1 (U := w1) hb2; replace kA := RBox.below kA C kA.lt) | (have kA := box1 (U := w1) hb2) | (replace kA := RBox.below kA C kA.lt; replace kB := RBox.below kB C kB.lt) | (replace kA := RBox.below kA C kA.lt) | skip); have HX2 : Hid (ZW w2 (.agg #[.int .i64 s1, .slice A1 n1 k1]) QX ∧ ZW w2 (.agg #[.int .i64 s2, .slice A2 n2 k2]) QY) := Lib.hid ⟨HX1.out.1.below C, HX1.out.2.below C⟩; clear hb2 C O1 HX1) | (go_at_call 22; (with_reducible refine ((NW _ ?_ ?_).out).mono ?_); (with_reducible first | exact ZW.drw HZ0.out.1 | exact ZW.drw (ZW.below HZ0.out.1 (ext1 w0 _)) | exact ZW.drw (ZW.below HZ0.out.1 (ext2 w0 _ _))); (with_reducible first | exact ZW.drw HZ0.out.2 | exact ZW.drw (ZW.below HZ0.out.2 (ext1 w0 _)) | exact ZW.drw (ZW.below HZ0.out.2 (ext2 w0 _ _))); rintro e w1 ⟨s1, A1, n1, k1, s2, A2, n2, k2, rfl, h11, h12, hb1⟩; have O1 := OB.below (w := w) (g := g) (s := s) (A := A) (n := n) (c := c) (t := t) (A' := A') (m := m) (c' := c') (OB.of (by assumption)) hb1; have hl1 := O1.lt; (with_reducible first | (have C := chnd0 (U := w0) hb1) | (have C := chnd1 (U := w0) _ hb1) | (have C := chnd2 (U := w0) _ _ hb1)); (with_reducible first | (have kA := boxd2a (U := w0) hb1; have kB := boxd2b (U := w0) hb1) | (have hAB := kA.lt; have kB := boxd1 (U := w0) hb1; replace kA := RBox.below kA C kA.lt) | (have kA := boxd1 (U := w0) hb1) | (replace kA := RBox.below kA C kA.lt; replace kB := RBox.below kB C kB.lt) | (replace kA := RBox.below kA C kA.lt) | skip); have HX1 := Lib.hid (And.intro h11 h12); clear h11 h12 hb1 C))
    all_goals go_wp2_with fail
    all_goals go_meet
    all_goals with_reducible first
      | exact ov_1a O4 HX4.out.1 HX4.out.2
      | exact ov_1b O4 HX4.out.1 HX4.out.2
      | exact ov_2a O4 kA (by omega) HX4.out.1 HX4.out.2
      | exact ov_2b O4 kA (by omega) HX4.out.1 HX4.out.2
      | exact ov_end O4 kA kB (by omega) (by omega) (by omega) HX4.out.1 HX4.out.2
      | exact ov_end O4 kB kA (by omega) (by omega) (by omega) HX4.out.1 HX4.out.2
  case rest =>
    clear O0 HZ0 a0 a1 a2 a3 b0 b1 b2 b3 hl0 NW DA DB N1
    obtain ⟨K5, K6, s1, A1, n1, k1, s2, A2, n2, k2, rfl, rfl, h5, h6, hR, hx, hy, hb, l5, l6⟩ := hcut
    have O1 : OK2 w wc g K5 s1 A1 n1 k1 s2 A2 n2 k2 K6 := ⟨h5, h6, hR, hb, l5, l6⟩
    have HX0 : Hid (ZW (World.drew wc) (.agg #[.int .i64 s1, .slice A1 n1 k1]) QX ∧ ZW (World.drew wc) (.agg #[.int .i64 s2, .slice A2 n2 k2]) QY) := Lib.hid ⟨hx, hy⟩
    clear h5 h6 hR hx hy hb
    go_upto_region 2 with (fail)
    go_region_held3 (fun w' => OK2 w w' g K5 s1 A1 n1 k1 s2 A2 n2 k2 K6 ∧ w'.cell? ⟨K5, 0, none⟩ = some (.int .i64 s1) ∧ w'.cell? ⟨K5, 1, none⟩ = some (.slice A1 n1 k1) ∧ w'.cell? ⟨K5, 2, none⟩ = some (.int .i64 s2) ∧ w'.cell? ⟨K5, 3, none⟩ = some (.slice A2 n2 k2) ∧ w'.cell? ⟨K6, 0, none⟩ = some (.int .i64 1) ∧ w'.cell? ⟨K6, 1, none⟩ = some (.slice none 0 0) ∧ w'.cell? ⟨K6, 2, none⟩ = some (.int .i64 1) ∧ w'.cell? ⟨K6, 3, none⟩ = some (.slice none 0 0))
      (first | exact OK2.S (by assumption) | exact OK2.S (OK2.drew (by assumption)) | exact OK2.S (OK2.put (by assumption) _ _ _ _ ⟨_, _, _, rfl⟩ ⟨_, _, _, rfl⟩))
      (first | (go_at_call 24; (with_reducible refine ((TY _ _ ?_).out).mono ?_); (first | exact HX1.out.2); rintro e w2 ⟨s4, A4, n4, k4, rfl, hz4, hb2⟩; have O3 := OK2.below (w := w) (g := g) (K5 := K5) (s1 := s1) (A1 := A1) (n1 := n1) (k1 := k1) (s2 := s2) (A2 := A2) (n2 := n2) (k2 := k2) (K6 := K6) (OK2.of (by assumption)) hb2; have HY2 := Lib.hid hz4; have HX2 := Lib.hid (HX1.out.1.below hb2); obtain ⟨q1, C1, i1, d1, q2, C2, i2, d2, hr⟩ := O3.R; obtain ⟨r0, r1, r2, r3⟩ := hr.cells; have f0 := hr.frozen 0; have f1 := hr.frozen 1; have f2 := hr.frozen 2; have f3 := hr.frozen 3; have HR := Lib.hid hr; clear hz4 hr) | (go_at_call 24; (with_reducible refine ((TX _ _ ?_).out).mono ?_); (first | exact HX0.out.1); rintro e w1 ⟨s3, A3, n3, k3, rfl, hz3, hb1⟩; have O2 := OK2.below (w := w) (g := g) (K5 := K5) (s1 := s1) (A1 := A1) (n1 := n1) (k1 := k1) (s2 := s2) (A2 := A2) (n2 := n2) (k2 := k2) (K6 := K6) (OK2.of (by assumption)) hb1; have HX1 := Lib.hid (And.intro hz3 (HX0.out.2.below hb1)); clear hz3))
    all_goals (obtain ⟨pz, pu, pb⟩ := HR.out.put s3 s4 (.slice A3 n3 k3) (.slice A4 n4 k4); obtain ⟨p0, p1, p2, p3⟩ := pz.cells)
    all_goals go_wp2_with fail
    all_goals (refine bodyPost_ret (v := .agg #[.int .i64 s3, .slice A3 n3 k3, .int .i64 s4, .slice A4 n4 k4]) (by simp [results, Tryz.results11, go_sem, p0, p1, p2, p3]) rfl ?_)
    all_goals exact ⟨s3, A3, n3, k3, s4, A4, n4, k4, rfl, HX2.out.put pu, HY2.out.put pu, by rw [hg]; exact pb O3.bel (by omega)⟩
end Go.Proofs.YteicddmekhdjeaaGreatDoor
