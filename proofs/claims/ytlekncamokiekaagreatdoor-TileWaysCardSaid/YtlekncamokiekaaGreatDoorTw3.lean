/- Parts of the proof, one after the other: Area, DevBack, DevMeet, Simple, DevSimple, DevCmp, DevConvex, DevMath, DevSame, DevEq, HullMath, WaysMath, HullSpec, HullWrap, PtsOwn. -/
import Derived.Test.YtlekncamokiekaaGreatDoorTw1
import Derived.Deep.RegionHeld3
import Derived.Deep.DrawnRows
import Derived.Deep.DeepCutAuto
import Derived.Laws.StructEq
import Derived.KernelRfl
import Derived.StillTailTactics
import Derived.Maps.AppendAt
import Derived.Deep.AppendLies
import Derived.OwnWalk
import Derived.Laws.Rows
/- Twice the area: the reference's function. -/
namespace Go.Proofs.YtlekncamokiekaaGreatDoor
open Go.RowKit Go.Sort
attribute [local go_sem ↓] run_min_mn run_max_mx Go.wp_at_zero Go.wp_at_succ

/-- Two variables that hold points. -/
def TwoPts (wr : World) (x y qx qy : Int) (s t : Value) (wx : World) : Prop :=
  ∃ g h : Nat, s = .pointer (some ⟨g, 0, none⟩) ∧ t = .pointer (some ⟨h, 0, none⟩) ∧ PtAt wx g x y ∧ PtAt wx h qx qy ∧ Below wr.heap.size wr wx

end Go.Proofs.YtlekncamokiekaaGreatDoor

/- turnsBack: have two edges more in common than their corner? -/
namespace Go.Proofs.YtlekncamokiekaaGreatDoor
open Go.RowKit Go.Sort
attribute [local go_sem ↓] run_min_mn run_max_mx

section
variable {wr W w' : World} {N b : Nat} {v1 v2 v3 v4 v5 v6 : Value} {a c : Nat}
/-- Three points stay. -/
theorem keep3_call (p : Below wr.heap.size wr W ∧ W.cell? ⟨a, 0, none⟩ = some v1 ∧ W.cell? ⟨a, 1, none⟩ = some v2 ∧ W.cell? ⟨b, 0, none⟩ = some v3 ∧ W.cell? ⟨b, 1, none⟩ = some v4 ∧ W.cell? ⟨c, 0, none⟩ = some v5 ∧ W.cell? ⟨c, 1, none⟩ = some v6)
    (hB : a < wr.heap.size ∧ b < wr.heap.size ∧ c < wr.heap.size) (hb : Below W.heap.size W w') :
    Below wr.heap.size wr w' ∧ w'.cell? ⟨a, 0, none⟩ = some v1 ∧ w'.cell? ⟨a, 1, none⟩ = some v2 ∧ w'.cell? ⟨b, 0, none⟩ = some v3 ∧ w'.cell? ⟨b, 1, none⟩ = some v4 ∧ w'.cell? ⟨c, 0, none⟩ = some v5 ∧ w'.cell? ⟨c, 1, none⟩ = some v6 := by
  have hs := p.1.size
  obtain ⟨p0, p1, p2, p3, p4, p5, p6⟩ := p
  obtain ⟨h1, h2, h3⟩ := hB
  exact ⟨p0.trans (hb.mono hs), (hb.cell (p := ⟨a, _, none⟩) (Nat.lt_of_lt_of_le h1 hs)).trans p1, (hb.cell (p := ⟨a, _, none⟩) (Nat.lt_of_lt_of_le h1 hs)).trans p2,
    (hb.cell (p := ⟨b, _, none⟩) (Nat.lt_of_lt_of_le h2 hs)).trans p3, (hb.cell (p := ⟨b, _, none⟩) (Nat.lt_of_lt_of_le h2 hs)).trans p4,
    (hb.cell (p := ⟨c, _, none⟩) (Nat.lt_of_lt_of_le h3 hs)).trans p5, (hb.cell (p := ⟨c, _, none⟩) (Nat.lt_of_lt_of_le h3 hs)).trans p6⟩
theorem keep3_alloc (p : Below wr.heap.size wr W ∧ W.cell? ⟨a, 0, none⟩ = some v1 ∧ W.cell? ⟨a, 1, none⟩ = some v2 ∧ W.cell? ⟨b, 0, none⟩ = some v3 ∧ W.cell? ⟨b, 1, none⟩ = some v4 ∧ W.cell? ⟨c, 0, none⟩ = some v5 ∧ W.cell? ⟨c, 1, none⟩ = some v6)
    (hB : a < wr.heap.size ∧ b < wr.heap.size ∧ c < wr.heap.size) (o : Obj) :
    Below wr.heap.size wr (W.alloc o) ∧ (W.alloc o).cell? ⟨a, 0, none⟩ = some v1 ∧ (W.alloc o).cell? ⟨a, 1, none⟩ = some v2 ∧ (W.alloc o).cell? ⟨b, 0, none⟩ = some v3 ∧ (W.alloc o).cell? ⟨b, 1, none⟩ = some v4 ∧ (W.alloc o).cell? ⟨c, 0, none⟩ = some v5 ∧ (W.alloc o).cell? ⟨c, 1, none⟩ = some v6 :=
  keep3_call p hB ((Below.refl _ _).alloc (Nat.le_refl _) o)
theorem keep3_drew (p : Below wr.heap.size wr W ∧ W.cell? ⟨a, 0, none⟩ = some v1 ∧ W.cell? ⟨a, 1, none⟩ = some v2 ∧ W.cell? ⟨b, 0, none⟩ = some v3 ∧ W.cell? ⟨b, 1, none⟩ = some v4 ∧ W.cell? ⟨c, 0, none⟩ = some v5 ∧ W.cell? ⟨c, 1, none⟩ = some v6) :
    Below wr.heap.size wr W.drew ∧ W.drew.cell? ⟨a, 0, none⟩ = some v1 ∧ W.drew.cell? ⟨a, 1, none⟩ = some v2 ∧ W.drew.cell? ⟨b, 0, none⟩ = some v3 ∧ W.drew.cell? ⟨b, 1, none⟩ = some v4 ∧ W.drew.cell? ⟨c, 0, none⟩ = some v5 ∧ W.drew.cell? ⟨c, 1, none⟩ = some v6 :=
  ⟨p.1.drew, p.2⟩
theorem keep3_set (p : Below wr.heap.size wr W ∧ W.cell? ⟨a, 0, none⟩ = some v1 ∧ W.cell? ⟨a, 1, none⟩ = some v2 ∧ W.cell? ⟨b, 0, none⟩ = some v3 ∧ W.cell? ⟨b, 1, none⟩ = some v4 ∧ W.cell? ⟨c, 0, none⟩ = some v5 ∧ W.cell? ⟨c, 1, none⟩ = some v6)
    (hB : a < wr.heap.size ∧ b < wr.heap.size ∧ c < wr.heap.size) (q : Addr) (hq : wr.heap.size ≤ q.block) (u : Value) :
    Below wr.heap.size wr (W.setCell q u) ∧ (W.setCell q u).cell? ⟨a, 0, none⟩ = some v1 ∧ (W.setCell q u).cell? ⟨a, 1, none⟩ = some v2 ∧ (W.setCell q u).cell? ⟨b, 0, none⟩ = some v3 ∧ (W.setCell q u).cell? ⟨b, 1, none⟩ = some v4 ∧ (W.setCell q u).cell? ⟨c, 0, none⟩ = some v5 ∧ (W.setCell q u).cell? ⟨c, 1, none⟩ = some v6 := by
  obtain ⟨p0, p1, p2, p3, p4, p5, p6⟩ := p
  obtain ⟨h1, h2, h3⟩ := hB
  have f : ∀ (g o : Nat), g < wr.heap.size → (W.setCell q u).cell? ⟨g, o, none⟩ = W.cell? ⟨g, o, none⟩ := fun g o hg => World.cell?_setCell_other W q _ u (fun e => by subst e; simp at hq; omega)
  exact ⟨p0.setCell hq u, (f a 0 h1).trans p1, (f a 1 h1).trans p2, (f b 0 h2).trans p3, (f b 1 h2).trans p4, (f c 0 h3).trans p5, (f c 1 h3).trans p6⟩
end

def backB (ax ay bx by' cx cy : Int) : Bool :=
  ((ax - bx) * (cy - by') - (cx - bx) * (ay - by') == 0) && decide (0 < (ax - bx) * (cx - bx) + (ay - by') * (cy - by'))

end Go.Proofs.YtlekncamokiekaaGreatDoor

/- Do two edges meet? Package shape's way: by boxes and sides. -/
namespace Go.Proofs.YtlekncamokiekaaGreatDoor
open Go.RowKit Go.Sort
attribute [local go_sem ↓] run_min_mn run_max_mx

def boxB (ax ay bx by' cx cy dx dy : Int) : Bool :=
  decide (mx (mn ax bx) (mn cx dx) ≤ mn (mx ax bx) (mx cx dx)) && decide (mx (mn ay by') (mn cy dy) ≤ mn (mx ay by') (mx cy dy))
def reachB (ax ay bx by' cx cy dx dy : Int) : Bool :=
  decide (mn (cross ax ay bx by' cx cy) (cross ax ay bx by' dx dy) ≤ 0) && decide (0 ≤ mx (cross ax ay bx by' cx cy) (cross ax ay bx by' dx dy))
def meet2B (ax ay bx by' cx cy dx dy : Int) : Bool := (boxB ax ay bx by' cx cy dx dy && reachB ax ay bx by' cx cy dx dy) && reachB cx cy dx dy ax ay bx by'

end Go.Proofs.YtlekncamokiekaaGreatDoor

/- Is a polygon simple? The reference's function. -/
namespace Go.Proofs.YtlekncamokiekaaGreatDoor
open Go.RowKit Go.Sort
attribute [local go_sem ↓] run_min_mn run_max_mx Go.wp_at_zero Go.wp_at_succ

theorem eq_pt (a b c d : Int) (w : World) : (Op.equalIn 10000 41 (.agg #[.int .i64 a, .int .i64 b]) (.agg #[.int .i64 c, .int .i64 d])).run Tryz.prog w = .ok (eqI a b c d) w := by
  have u3 := Tryz.underlying3
  have hS : Tryz.prog.underlying 41 = some (.struct (Tryz.prog.fieldsOf 41)) := by kernel_rfl
  have hp : Tryz.prog.stoodInHeld 41 = false := by kernel_rfl
  rw [show (10000 : Nat) = 9999 + 1 from rfl, run_equalIn_agg w 9999 _ _ _ hS hp]
  simp only [Program.fieldsOf, Tryz.underlying41]
  go_simp
  by_cases h1 : a = c <;> by_cases h2 : b = d <;> simp [eqI, h1, h2]
theorem guard_pt : Tryz.prog.eqGuardType Tryz.prog.depth 41 = false := by kernel_rfl

end Go.Proofs.YtlekncamokiekaaGreatDoor

/- Is a polygon simple? Package shape's function. -/
namespace Go.Proofs.YtlekncamokiekaaGreatDoor
open Go.RowKit Go.Sort
attribute [local go_sem ↓] run_min_mn run_max_mx Go.wp_at_zero Go.wp_at_succ

def backP (a b c : Pt) : Bool := backB a.1 a.2 b.1 b.2 c.1 c.2
def meet2P (a b c d : Pt) : Bool := meet2B a.1 a.2 b.1 b.2 c.1 c.2 d.1 d.2
def backAt (l : List Pt) (i : Nat) : Bool := backP (gt l i) (nx l i) (nx l (i + 1))
def hit2At (l : List Pt) (i j : Nat) : Bool := !(i - j == l.length - 1) && meet2P (gt l i) (nx l i) (gt l j) (nx l j)
def simple2At (l : List Pt) (i : Nat) : Bool := !(zeroAt l i || backAt l i) && (List.range l.length).all fun j => decide (i < j + 2) || !hit2At l i j
def simple2B (l : List Pt) : Bool := (List.range l.length).all (simple2At l)

theorem simple2B_no {l : List Pt} {k : Nat} (hk : k < l.length) (h : simple2At l k = false) : simple2B l = false := by
  unfold simple2B
  rw [List.all_eq_false]; exact ⟨k, List.mem_range.2 hk, by simp [h]⟩
theorem simple2At_bad {l : List Pt} {k : Nat} (h : (zeroAt l k || backAt l k) = true) : simple2At l k = false := by simp [simple2At, h]
theorem simple2At_hit {l : List Pt} {k j : Nat} (hj : j < l.length) (h2 : j + 2 ≤ k) (h : hit2At l k j = true) : simple2At l k = false := by
  have : ((List.range l.length).all fun j => decide (k < j + 2) || !hit2At l k j) = false := by
    rw [List.all_eq_false]; refine ⟨j, List.mem_range.2 hj, ?_⟩
    rw [h, decide_eq_false (by omega)]; decide
  unfold simple2At
  rw [this, Bool.and_false]
theorem simple2At_yes {l : List Pt} {k : Nat} (h1 : (zeroAt l k || backAt l k) = false) (h2 : ∀ j, j + 2 ≤ k → hit2At l k j = false) : simple2At l k = true := by
  unfold simple2At
  rw [h1, Bool.not_false, Bool.true_and, List.all_eq_true]
  intro j _
  by_cases e : k < j + 2
  · rw [decide_eq_true e]; rfl
  · rw [h2 j (by omega)]; simp

end Go.Proofs.YtlekncamokiekaaGreatDoor

/- How package tile compares points. -/
namespace Go.Proofs.YtlekncamokiekaaGreatDoor
open Go.RowKit Go.Sort
attribute [local go_sem ↓] run_min_mn run_max_mx

def cmpI (x y : Int) : Int := if x < y then -1 else if y < x then 1 else 0
def orI (x y : Int) : Int := if x = 0 then y else x
def cmpP (ax ay bx by' : Int) : Int := orI (cmpI ay by') (cmpI ax bx)

theorem nan_any (x : Int) (w : World) : Calls Tryz.prog 82 #[.int .i64 x] w fun e w' => e = .returned (.bool false) ∧ w = w' := by
  go_enter Tryz.func82, Tryz.ntmps82
  go_wp2
  go_ret
  exact ⟨rfl, rfl⟩

theorem cmpI_any (x y : Int) (w : World) : Calls Tryz.prog 60 #[.int .i64 x, .int .i64 y] w fun e w' => e = .returned (.int .i64 (cmpI x y)) ∧ w = w' := by
  go_enter Tryz.func60, Tryz.ntmps60
  go_wp2_with (go_at_call 82; refine (nan_any _ _).mono ?_; rintro e w' ⟨rfl, rfl⟩)
  · rename_i h
    go_ret
    exact ⟨retS_int (by rw [cmpI, if_pos h]), rfl⟩
  · rename_i h h'
    go_ret
    exact ⟨retS_int (by rw [cmpI, if_neg (by omega), if_pos (by omega)]), rfl⟩
  · rename_i h h'
    go_ret
    exact ⟨retS_int (by rw [cmpI, if_neg (by omega), if_neg (by omega)]), rfl⟩

theorem or_any (g : Nat) (u v : Int) (w : World) (h0 : w.cell? ⟨g, 0, none⟩ = some (.int .i64 u)) (h1 : w.cell? ⟨g, 1, none⟩ = some (.int .i64 v)) :
    Calls Tryz.prog 59 #[.slice (some ⟨g, 0, none⟩) 2 2] w fun e w' => e = .returned (.int .i64 (orI u v)) ∧ w = w' := by
  by_cases hu : u = 0
  · subst hu
    by_cases hv : v = 0
    · subst hv
      go_enter Tryz.func59, Tryz.ntmps59
      go_wp2
      refine wp_loop_rounds 3 ?_; rw [rounds_succ]
      go_wp2
      rw [rounds_succ]
      go_wp2
      try (rw [rounds_succ]; go_wp2)
      go_ret
      exact ⟨retS_int rfl, rfl⟩
    · have hv' : (v != 0) = true := by simpa using hv
      clear hv
      go_enter Tryz.func59, Tryz.ntmps59
      go_wp2
      refine wp_loop_rounds 3 ?_; rw [rounds_succ]
      go_wp2
      rw [rounds_succ]
      go_wp2
      try (rw [rounds_succ]; go_wp2)
      go_ret
      exact ⟨retS_int rfl, rfl⟩
  · have hu' : (u != 0) = true := by simpa using hu
    have H : Hid (orI u v = u) := Lib.hid (by rw [orI, if_neg hu])
    clear hu
    go_enter Tryz.func59, Tryz.ntmps59
    go_wp2
    refine wp_loop_rounds 2 ?_; rw [rounds_succ]
    go_wp2
    go_ret
    exact ⟨retS_int H.out.symm, rfl⟩

set_option maxRecDepth 100000 in
set_option maxHeartbeats 1000000 in
theorem compare_any (ax ay bx by' : Int) (w : World) :
    Calls Tryz.prog 37 #[.agg #[.int .i64 ax, .int .i64 ay], .agg #[.int .i64 bx, .int .i64 by']] w fun e w' =>
      e = .returned (.int .i64 (cmpP ax ay bx by')) ∧ Below w.heap.size w w' := by
  have C1 := fun W => Lib.hid ((cmpI_any ay by' W).mono fun _ _ h => And.intro h.1 h.2.symm)
  have C2 := fun W => Lib.hid ((cmpI_any ax bx W).mono fun _ _ h => And.intro h.1 h.2.symm)
  have H : Hid (cmpP ax ay bx by' = orI (cmpI ay by') (cmpI ax bx)) := Lib.hid rfl
  generalize cmpI ay by' = u at *
  generalize cmpI ax bx = v at *
  generalize cmpP ax ay bx by' = r at *
  go_enter Tryz.func37, Tryz.ntmps37
  go_wp2_with fail
  have B := boxed2 w ax ay bx by'
  generalize ((w.alloc (Go.Proofs.YtlekncamokiekaaGreatDoor.bx ax ay)).alloc (Go.Proofs.YtlekncamokiekaaGreatDoor.bx bx by')) = W0 at *
  obtain ⟨⟨a1, a2⟩, ⟨b1, b2⟩, hb, hz⟩ := B
  have HB := Lib.hid hb
  have hz' := hb.size
  clear hb hz
  refine wp_region_still_tail 10 (by kernel_rfl) (by kernel_rfl) ?_
  simp only [List.take_succ_cons, List.take_zero, List.drop_succ_cons, List.drop_zero]
  change wpStill _ _ W0.drew _ _ _
  replace a1 : W0.drew.cell? _ = _ := a1
  replace a2 : W0.drew.cell? _ = _ := a2
  replace b1 : W0.drew.cell? _ = _ := b1
  replace b2 : W0.drew.cell? _ = _ := b2
  iterate 4 still_step
  still_call (C1 _).out
  iterate 4 still_step
  still_call (C2 _).out
  refine wpStill_nil ?_
  change wpList _ _ _ _ _ W0.drew
  go_wp2_with fail
  refine (or_any _ u v _ (by go_simp) (by go_simp)).mono ?_
  rintro e w' ⟨rfl, rfl⟩
  go_wp2
  go_ret
  exact ⟨retS_int H.out.symm, HB.out.drew.alloc (by simpa using hz') _⟩

end Go.Proofs.YtlekncamokiekaaGreatDoor

/- Is a polygon convex in normal form? Package shape's function. -/
namespace Go.Proofs.YtlekncamokiekaaGreatDoor
open Go.RowKit Go.Sort
attribute [local go_sem ↓] run_min_mn run_max_mx Go.wp_at_zero Go.wp_at_succ

def cmpQ (a b : Pt) : Int := cmpP a.1 a.2 b.1 b.2
def convex2At (l : List Pt) (i : Nat) : Bool := !(decide (crossP (gt l i) (nx l i) (nx l (i + 1)) ≤ 0) || decide (cmpQ (gt l i) (gt l 0) < 0))
def convex2B (l : List Pt) : Bool := (List.range l.length).all (convex2At l) && simple2B l
theorem convex2B_no {l : List Pt} {k : Nat} (hk : k < l.length) (h : convex2At l k = false) : convex2B l = false := by
  have : (List.range l.length).all (convex2At l) = false := by
    rw [List.all_eq_false]; exact ⟨k, List.mem_range.2 hk, by simp [h]⟩
  simp [convex2B, this]

end Go.Proofs.YtlekncamokiekaaGreatDoor

/- Two ways to say that edges meet, that they turn back, that a polygon is simple and convex: they are the same. Plain mathematics. -/
namespace Go.Proofs.YtlekncamokiekaaGreatDoor

/-- u lies between 0 and p. -/
def btw (u p : Int) : Prop := (0 ≤ u ∧ u ≤ p) ∨ (p ≤ u ∧ u ≤ 0)
theorem btw_of {D t u p : Int} (hD : 0 < D) (h : D * u = t * p) (h0 : 0 ≤ t) (h1 : t ≤ D) : btw u p := by
  rcases Int.le_total 0 p with hp | hp
  · have a : 0 ≤ t * p := Int.mul_nonneg h0 hp
    have b : t * p ≤ D * p := Int.mul_le_mul_of_nonneg_right h1 hp
    refine .inl ⟨?_, ?_⟩
    · rcases Int.lt_or_le u 0 with g | g
      · have := Int.mul_neg_of_pos_of_neg hD g; omega
      · exact g
    · exact Int.le_of_mul_le_mul_left (by omega) hD
  · have a : t * p ≤ 0 := Int.mul_nonpos_of_nonneg_of_nonpos h0 hp
    have b : D * p ≤ t * p := Int.mul_le_mul_of_nonpos_right h1 hp
    refine .inr ⟨?_, ?_⟩
    · exact Int.le_of_mul_le_mul_left (by omega) hD
    · rcases Int.lt_or_le 0 u with g | g
      · have := Int.mul_pos hD g; omega
      · exact g
theorem of_btw {D t u p : Int} (hD : 0 < D) (h : D * u = t * p) (hp : p ≠ 0) (hb : btw u p) : 0 ≤ t ∧ t ≤ D := by
  rcases hb with ⟨b1, b2⟩ | ⟨b1, b2⟩
  · have hp' : 0 < p := by omega
    have a : 0 ≤ D * u := Int.mul_nonneg (by omega) b1
    have b : D * u ≤ D * p := Int.mul_le_mul_of_nonneg_left b2 (by omega)
    refine ⟨?_, Int.le_of_mul_le_mul_right (by omega) hp'⟩
    rcases Int.lt_or_le t 0 with g | g
    · have := Int.mul_neg_of_neg_of_pos g hp'; omega
    · exact g
  · have hp' : 0 < -p := by omega
    have e : t * -p = D * -u := by rw [Int.mul_neg, Int.mul_neg, h]
    have a : 0 ≤ D * -u := Int.mul_nonneg (by omega) (by omega)
    have b : D * -u ≤ D * -p := Int.mul_le_mul_of_nonneg_left (by omega) (by omega)
    refine ⟨?_, Int.le_of_mul_le_mul_right (a := -p) (by omega) hp'⟩
    rcases Int.lt_or_le t 0 with g | g
    · have := Int.mul_neg_of_neg_of_pos g hp'; omega
    · exact g

/-- Weighted means: one cannot lie before all of the others. -/
theorem apart_no {D w t u r p : Int} (hD : 0 < D) (hw : 0 ≤ w) (hw' : w ≤ D) (ht : 0 ≤ t) (ht' : t ≤ D) (h : D * u + w * r = t * p) (h1 : u < 0) (h2 : u + r < 0) (h3 : u - p < 0) (h4 : u + r - p < 0) : False := by
  have k1 : D * u + w * r = (D - w) * u + w * (u + r) := by grind
  rcases Int.le_total 0 p with hp | hp
  · have a : 0 ≤ t * p := Int.mul_nonneg ht hp
    have b1 : (D - w) * u ≤ 0 := Int.mul_nonpos_of_nonneg_of_nonpos (by omega) (by omega)
    have b2 : w * (u + r) ≤ 0 := Int.mul_nonpos_of_nonneg_of_nonpos hw (by omega)
    rcases Int.lt_or_le 0 w with g | g
    · have := Int.mul_neg_of_pos_of_neg g h2; omega
    · have : 0 < D - w := by omega
      have := Int.mul_neg_of_pos_of_neg this h1; omega
  · have k2 : D * u + w * r - D * p = (D - w) * (u - p) + w * (u + r - p) := by grind
    have k3 : t * p - D * p = (D - t) * (-p) := by grind
    have a : 0 ≤ (D - t) * (-p) := Int.mul_nonneg (by omega) (by omega)
    have b1 : (D - w) * (u - p) ≤ 0 := Int.mul_nonpos_of_nonneg_of_nonpos (by omega) (by omega)
    have b2 : w * (u + r - p) ≤ 0 := Int.mul_nonpos_of_nonneg_of_nonpos hw (by omega)
    rcases Int.lt_or_le 0 w with g | g
    · have := Int.mul_neg_of_pos_of_neg g h4; omega
    · have : 0 < D - w := by omega
      have := Int.mul_neg_of_pos_of_neg this h3; omega
theorem apart_no' {D w t u r p : Int} (hD : 0 < D) (hw : 0 ≤ w) (hw' : w ≤ D) (ht : 0 ≤ t) (ht' : t ≤ D) (h : D * u + w * r = t * p) (h1 : 0 < u) (h2 : 0 < u + r) (h3 : 0 < u - p) (h4 : 0 < u + r - p) : False := by
  refine apart_no (u := -u) (r := -r) (p := -p) hD hw hw' ht ht' ?_ (by omega) (by omega) (by omega) (by omega)
  rw [Int.mul_neg, Int.mul_neg, Int.mul_neg, ← h]; omega

/-- Edges from (0, 0) to (p, q) and from (u, v) by (r, s). -/
def al (p q u v : Int) : Int := p * v - u * q
def opp (a b : Int) : Prop := mn a b ≤ 0 ∧ 0 ≤ mx a b
theorem opp_iff {a b : Int} : opp a b ↔ (a ≤ 0 ∧ 0 ≤ b) ∨ (b ≤ 0 ∧ 0 ≤ a) := by
  unfold opp mn mx
  by_cases h : b < a <;> by_cases h' : a < b <;> simp [h, h'] <;> omega
/-- Do the intervals 0..p and u..u+r overlap? -/
def ov (p u r : Int) : Prop := (mn 0 p ≤ mx u (u + r)) ∧ (mn u (u + r) ≤ mx 0 p)

theorem ov_of {D w t u r p : Int} (hD : 0 < D) (hw : 0 ≤ w) (hw' : w ≤ D) (ht : 0 ≤ t) (ht' : t ≤ D) (h : D * u + w * r = t * p) : ov p u r := by
  have a := apart_no hD hw hw' ht ht' h
  have b := apart_no' hD hw hw' ht ht' h
  unfold ov mn mx
  constructor
  · rcases Int.lt_or_le u 0 with g1 | g1 <;> rcases Int.lt_or_le (u + r) 0 with g2 | g2 <;> rcases Int.lt_or_le (u - p) 0 with g3 | g3 <;> rcases Int.lt_or_le (u + r - p) 0 with g4 | g4 <;> first | exact (a g1 g2 g3 g4).elim | (split <;> split <;> omega)
  · rcases Int.lt_or_le 0 u with g1 | g1 <;> rcases Int.lt_or_le 0 (u + r) with g2 | g2 <;> rcases Int.lt_or_le 0 (u - p) with g3 | g3 <;> rcases Int.lt_or_le 0 (u + r - p) with g4 | g4 <;> first | exact (b g1 g2 g3 g4).elim | (split <;> split <;> omega)

theorem cross_ids (p q r s u v : Int) :
    al p q (u + r) (v + s) = al p q u v + (p * s - r * q) ∧ (u * s - r * v) - (p * s - r * q) = r * (q - v) - (p - u) * s ∧
    (p * s - r * q) * u - al p q u v * r = (u * s - r * v) * p ∧ (p * s - r * q) * v - al p q u v * s = (u * s - r * v) * q := by
  unfold al
  refine ⟨by grind, by grind, by grind, by grind⟩

/-- If both edges reach both lines and the edges are not along each other, the boxes overlap. -/
theorem boxes_of {p q r s u v : Int} (hD : p * s - r * q ≠ 0) (h1 : opp (al p q u v) (al p q (u + r) (v + s))) (h2 : opp (u * s - r * v) (r * (q - v) - (p - u) * s)) : ov p u r ∧ ov q v s := by
  obtain ⟨i1, i2, i3, i4⟩ := cross_ids p q r s u v
  rw [opp_iff] at h1 h2
  rw [i1] at h1
  rw [← i2] at h2
  generalize al p q u v = a at *
  generalize u * s - r * v = c at *
  generalize p * s - r * q = D at *
  rcases Int.lt_or_lt_of_ne hD with g | g
  · exact ⟨ov_of (D := -D) (w := a) (t := -c) (by omega) (by omega) (by omega) (by omega) (by omega) (by rw [Int.neg_mul, Int.neg_mul]; omega), ov_of (D := -D) (w := a) (t := -c) (by omega) (by omega) (by omega) (by omega) (by omega) (by rw [Int.neg_mul, Int.neg_mul]; omega)⟩
  · exact ⟨ov_of (D := D) (w := -a) (t := c) (by omega) (by omega) (by omega) (by omega) (by omega) (by rw [Int.neg_mul]; omega), ov_of (D := D) (w := -a) (t := c) (by omega) (by omega) (by omega) (by omega) (by omega) (by rw [Int.neg_mul]; omega)⟩

/-- A point on the first edge: the second edge's line is reached. -/
theorem reach_of_on {p q r s u v : Int} (hne : p ≠ 0 ∨ q ≠ 0) (h0 : al p q u v = 0) (b1 : btw u p) (b2 : btw v q) : opp (u * s - r * v) (r * (q - v) - (p - u) * s) := by
  obtain ⟨i1, i2, i3, i4⟩ := cross_ids p q r s u v
  rw [h0, Int.zero_mul, Int.sub_zero] at i3 i4
  rw [opp_iff, ← i2]
  generalize u * s - r * v = c at *
  generalize p * s - r * q = D at *
  rcases Int.lt_trichotomy D 0 with g | g | g
  · rcases hne with hp | hp
    · have := of_btw (D := -D) (t := -c) (by omega) (by rw [Int.neg_mul, Int.neg_mul, i3]) hp b1; omega
    · have := of_btw (D := -D) (t := -c) (by omega) (by rw [Int.neg_mul, Int.neg_mul, i4]) hp b2; omega
  · rw [g, Int.zero_mul] at i3 i4
    have : c = 0 := by
      rcases hne with hp | hp
      · rcases Int.mul_eq_zero.1 i3.symm with h | h
        · exact h
        · exact absurd h hp
      · rcases Int.mul_eq_zero.1 i4.symm with h | h
        · exact h
        · exact absurd h hp
    omega
  · rcases hne with hp | hp
    · have := of_btw g i3 hp b1; omega
    · have := of_btw g i4 hp b2; omega

theorem btw_dim {p q x y : Int} (hp : p ≠ 0) (h : p * y = x * q) (hb : btw x p) : btw y q := by
  rcases Int.lt_or_lt_of_ne hp with g | g
  · refine btw_of (D := -p) (t := -x) (by omega) (by rw [Int.neg_mul, Int.neg_mul, h]) ?_ ?_ <;> (unfold btw at hb; omega)
  · refine btw_of (D := p) (t := x) g h ?_ ?_ <;> (unfold btw at hb; omega)

theorem ov_one {p u r : Int} (h : ov p u r) : btw u p ∨ btw (u + r) p ∨ (btw (-u) r ∧ r ≠ 0) := by
  unfold ov mn mx at h
  unfold btw
  obtain ⟨h1, h2⟩ := h
  split at h1 <;> split at h1 <;> split at h2 <;> split at h2 <;> omega

/-- All on one line: an end of one edge lies on the other. -/
theorem line_on {p q r s u v : Int} (hne : p ≠ 0 ∨ q ≠ 0) (h0 : p * v = u * q) (h1 : p * s = r * q) (h2 : u * s = r * v) (o1 : ov p u r) (o2 : ov q v s) :
    (btw u p ∧ btw v q) ∨ (btw (u + r) p ∧ btw (v + s) q) ∨ (btw (-u) r ∧ btw (-v) s) := by
  by_cases hp : p = 0
  · subst hp
    have hq : q ≠ 0 := by rcases hne with h | h; exact absurd rfl h; exact h
    have hu : u = 0 := by
      rcases Int.mul_eq_zero.1 (show u * q = 0 by omega) with h | h
      · exact h
      · exact absurd h hq
    have hr : r = 0 := by
      rcases Int.mul_eq_zero.1 (show r * q = 0 by omega) with h | h
      · exact h
      · exact absurd h hq
    subst hu hr
    have z : btw (0 : Int) 0 := .inl ⟨by omega, by omega⟩
    rcases ov_one o2 with h | h | ⟨h, -⟩
    · exact .inl ⟨z, h⟩
    · exact .inr (.inl ⟨z, h⟩)
    · exact .inr (.inr ⟨z, h⟩)
  · rcases ov_one o1 with h | h | ⟨h, hr⟩
    · exact .inl ⟨h, btw_dim hp h0 h⟩
    · refine .inr (.inl ⟨h, btw_dim hp ?_ h⟩)
      rw [Int.mul_add, Int.add_mul, h0, h1]
    · refine .inr (.inr ⟨h, btw_dim hr ?_ h⟩)
      rw [Int.mul_neg, Int.neg_mul, h2]

end Go.Proofs.YtlekncamokiekaaGreatDoor

/- Package shape and the reference find the same: edges that meet or turn back, simple polygons, convex polygons. -/
namespace Go.Proofs.YtlekncamokiekaaGreatDoor

theorem mn_spec (a b : Int) : mn a b ≤ a ∧ mn a b ≤ b ∧ (mn a b = a ∨ mn a b = b) := by
  unfold mn; split <;> omega
theorem mx_spec (a b : Int) : a ≤ mx a b ∧ b ≤ mx a b ∧ (mx a b = a ∨ mx a b = b) := by
  unfold mx; split <;> omega
theorem box1 (a p u r : Int) : (mx (mn a (a + p)) (mn (a + u) (a + u + r)) ≤ mn (mx a (a + p)) (mx (a + u) (a + u + r))) ↔ ov p u r := by
  unfold ov
  have h1 := mn_spec a (a + p)
  have h2 := mn_spec (a + u) (a + u + r)
  have h3 := mx_spec a (a + p)
  have h4 := mx_spec (a + u) (a + u + r)
  have h5 := mn_spec 0 p
  have h6 := mx_spec 0 p
  have h7 := mn_spec u (u + r)
  have h8 := mx_spec u (u + r)
  have h9 := mx_spec (mn a (a + p)) (mn (a + u) (a + u + r))
  have h10 := mn_spec (mx a (a + p)) (mx (a + u) (a + u + r))
  generalize mx (mn a (a + p)) (mn (a + u) (a + u + r)) = x1 at *
  generalize mn (mx a (a + p)) (mx (a + u) (a + u + r)) = x2 at *
  generalize mn a (a + p) = x3 at *
  generalize mn (a + u) (a + u + r) = x4 at *
  generalize mx a (a + p) = x5 at *
  generalize mx (a + u) (a + u + r) = x6 at *
  generalize mn 0 p = x7 at *
  generalize mx 0 p = x8 at *
  generalize mn u (u + r) = x9 at *
  generalize mx u (u + r) = x10 at *
  omega
theorem in1 (a p u : Int) : inB (a + u) (mn a (a + p)) (mx a (a + p)) = true ↔ btw u p := by
  rw [inB_true]; unfold btw mn mx; split <;> split <;> omega

theorem box_iff (ax ay p q u v r s : Int) : boxB ax ay (ax + p) (ay + q) (ax + u) (ay + v) (ax + u + r) (ay + v + s) = true ↔ ov p u r ∧ ov q v s := by
  unfold boxB
  rw [Bool.and_eq_true, decide_eq_true_eq, decide_eq_true_eq, box1, box1]
theorem reach_iff (ax ay bx by' cx cy dx dy : Int) : reachB ax ay bx by' cx cy dx dy = true ↔ opp (cross ax ay bx by' cx cy) (cross ax ay bx by' dx dy) := by
  unfold reachB opp
  rw [Bool.and_eq_true, decide_eq_true_eq, decide_eq_true_eq]
theorem on_iff (ax ay p q u v : Int) : onB ax ay (ax + p) (ay + q) (ax + u) (ay + v) = true ↔ al p q u v = 0 ∧ btw u p ∧ btw v q := by
  unfold onB
  rw [Bool.and_eq_true, Bool.and_eq_true, in1, in1, beq_iff_eq]
  have : cross ax ay (ax + p) (ay + q) (ax + u) (ay + v) = al p q u v := by unfold cross al; grind
  rw [this]
  exact and_assoc

theorem sgn_opp {a b : Int} : sgn a * sgn b < 0 ↔ opp a b ∧ a ≠ 0 ∧ b ≠ 0 := by
  rw [opp_iff]
  unfold sgn
  rcases Int.lt_trichotomy a 0 with h | h | h <;> rcases Int.lt_trichotomy b 0 with h' | h' | h'
  all_goals
    first
      | (rw [if_neg (by omega), if_pos (by omega), if_neg (by omega), if_pos (by omega)]; omega)
      | (rw [if_neg (by omega), if_pos (by omega), if_neg (by omega), if_neg (by omega)]; omega)
      | (rw [if_neg (by omega), if_pos (by omega), if_pos (by omega)]; omega)
      | (rw [if_neg (by omega), if_neg (by omega), if_neg (by omega), if_pos (by omega)]; omega)
      | (rw [if_neg (by omega), if_neg (by omega), if_neg (by omega), if_neg (by omega)]; omega)
      | (rw [if_neg (by omega), if_neg (by omega), if_pos (by omega)]; omega)
      | (rw [if_pos (by omega), if_neg (by omega), if_pos (by omega)]; omega)
      | (rw [if_pos (by omega), if_neg (by omega), if_neg (by omega)]; omega)
      | (rw [if_pos (by omega), if_pos (by omega)]; omega)

theorem opp_neg {a b : Int} : opp (-a) (-b) ↔ opp a b := by
  rw [opp_iff, opp_iff]; omega

/-- An end on the other edge's line, where both are reached, is on the edge. -/
theorem on_of_reach {p q r s u v : Int} (hD : p * s - r * q ≠ 0) (h0 : al p q u v = 0) (h2 : opp (u * s - r * v) (r * (q - v) - (p - u) * s)) : btw u p ∧ btw v q := by
  obtain ⟨i1, i2, i3, i4⟩ := cross_ids p q r s u v
  rw [h0, Int.zero_mul, Int.sub_zero] at i3 i4
  rw [opp_iff, ← i2] at h2
  generalize u * s - r * v = c at *
  generalize p * s - r * q = D at *
  rcases Int.lt_or_lt_of_ne hD with g | g
  · exact ⟨btw_of (D := -D) (t := -c) (by omega) (by rw [Int.neg_mul, Int.neg_mul, i3]) (by omega) (by omega), btw_of (D := -D) (t := -c) (by omega) (by rw [Int.neg_mul, Int.neg_mul, i4]) (by omega) (by omega)⟩
  · exact ⟨btw_of g i3 (by omega) (by omega), btw_of g i4 (by omega) (by omega)⟩

theorem meet_rel (p q r s u v : Int) (h1 : p ≠ 0 ∨ q ≠ 0) (h2 : r ≠ 0 ∨ s ≠ 0) :
    (((ov p u r ∧ ov q v s) ∧ opp (al p q u v) (al p q (u + r) (v + s))) ∧ opp (u * s - r * v) (r * (q - v) - (p - u) * s)) ↔
      ((((al p q u v = 0 ∧ btw u p ∧ btw v q) ∨ (al p q (u + r) (v + s) = 0 ∧ btw (u + r) p ∧ btw (v + s) q)) ∨ (u * s - r * v = 0 ∧ btw (-u) r ∧ btw (-v) s)) ∨ (r * (q - v) - (p - u) * s = 0 ∧ btw (p - u) r ∧ btw (q - v) s)) ∨
        ((opp (al p q u v) (al p q (u + r) (v + s)) ∧ al p q u v ≠ 0 ∧ al p q (u + r) (v + s) ≠ 0) ∧ opp (u * s - r * v) (r * (q - v) - (p - u) * s) ∧ u * s - r * v ≠ 0 ∧ r * (q - v) - (p - u) * s ≠ 0) := by
  obtain ⟨i1, i2, i3, i4⟩ := cross_ids p q r s u v
  have e1 : (u + r) * -s - -r * (v + s) = -(u * s - r * v) := by grind
  have e2 : -r * (q - (v + s)) - (p - (u + r)) * -s = -(r * (q - v) - (p - u) * s) := by grind
  have e3 : al r s (-u) (-v) = u * s - r * v := by unfold al; grind
  have e4 : -u * q - p * -v = al p q u v := by unfold al; grind
  have e5 : p * (s - -v) - (r - -u) * q = al p q (u + r) (v + s) := by unfold al; grind
  have e6 : al r s (p - u) (q - v) = r * (q - v) - (p - u) * s := by unfold al; grind
  have e7 : (p - u) * -q - -p * (q - v) = -al p q u v := by unfold al; grind
  have e8 : -p * (s - (q - v)) - (r - (p - u)) * -q = -al p q (u + r) (v + s) := by unfold al; grind
  constructor
  · rintro ⟨⟨⟨o1, o2⟩, op1⟩, op2⟩
    by_cases hD : p * s - r * q = 0
    · rw [hD] at i1 i2
      have a0 : al p q u v = 0 := by rw [i1, opp_iff] at op1; omega
      have c0 : u * s - r * v = 0 := by rw [← i2, opp_iff] at op2; omega
      rcases line_on h1 (show p * v = u * q by unfold al at a0; omega) (by omega) (by omega) o1 o2 with h | h | h
      · exact .inl (.inl (.inl (.inl ⟨a0, h⟩)))
      · exact .inl (.inl (.inl (.inr ⟨by rw [i1, a0]; rfl, h⟩)))
      · exact .inl (.inl (.inr ⟨c0, h⟩))
    · by_cases a0 : al p q u v = 0
      · exact .inl (.inl (.inl (.inl ⟨a0, on_of_reach hD a0 op2⟩)))
      · by_cases b0 : al p q (u + r) (v + s) = 0
        · refine .inl (.inl (.inl (.inr ⟨b0, on_of_reach (r := -r) (s := -s) ?_ b0 ?_⟩)))
          · have : p * -s - -r * q = -(p * s - r * q) := by grind
            omega
          · rw [e1, e2, opp_neg]; exact op2
        · by_cases c0 : u * s - r * v = 0
          · refine .inl (.inl (.inr ⟨c0, on_of_reach (p := r) (q := s) (r := p) (s := q) ?_ (by rw [e3]; exact c0) ?_⟩))
            · have : r * q - p * s = -(p * s - r * q) := by grind
              omega
            · rw [e4, e5]; exact op1
          · by_cases d0 : r * (q - v) - (p - u) * s = 0
            · refine .inl (.inr ⟨d0, on_of_reach (p := r) (q := s) (r := -p) (s := -q) ?_ (by rw [e6]; exact d0) ?_⟩)
              · have : r * -q - -p * s = p * s - r * q := by grind
                omega
              · rw [e7, e8, opp_neg]; exact op1
            · exact .inr ⟨⟨op1, a0, b0⟩, op2, c0, d0⟩
  · rintro ((((⟨a0, b1, b2⟩ | ⟨a0, b1, b2⟩) | ⟨a0, b1, b2⟩) | ⟨a0, b1, b2⟩) | ⟨⟨op1, a0, b0⟩, op2, c0, d0⟩)
    · refine ⟨⟨⟨?_, ?_⟩, ?_⟩, reach_of_on h1 a0 b1 b2⟩
      · unfold ov; have := mn_spec 0 p; have := mx_spec 0 p; have := mn_spec u (u + r); have := mx_spec u (u + r); unfold btw at b1; omega
      · unfold ov; have := mn_spec 0 q; have := mx_spec 0 q; have := mn_spec v (v + s); have := mx_spec v (v + s); unfold btw at b2; omega
      · rw [opp_iff, a0]; omega
    · have k := reach_of_on (r := -r) (s := -s) h1 a0 b1 b2
      rw [e1, e2, opp_neg] at k
      refine ⟨⟨⟨?_, ?_⟩, ?_⟩, k⟩
      · unfold ov; have := mn_spec 0 p; have := mx_spec 0 p; have := mn_spec u (u + r); have := mx_spec u (u + r); unfold btw at b1; omega
      · unfold ov; have := mn_spec 0 q; have := mx_spec 0 q; have := mn_spec v (v + s); have := mx_spec v (v + s); unfold btw at b2; omega
      · rw [opp_iff, a0]; omega
    · have k := reach_of_on (p := r) (q := s) (r := p) (s := q) h2 (by rw [e3]; exact a0) b1 b2
      rw [e4, e5] at k
      refine ⟨⟨⟨?_, ?_⟩, k⟩, by rw [opp_iff, a0]; omega⟩
      · unfold ov; have := mn_spec 0 p; have := mx_spec 0 p; have := mn_spec u (u + r); have := mx_spec u (u + r); unfold btw at b1; omega
      · unfold ov; have := mn_spec 0 q; have := mx_spec 0 q; have := mn_spec v (v + s); have := mx_spec v (v + s); unfold btw at b2; omega
    · have k := reach_of_on (p := r) (q := s) (r := -p) (s := -q) h2 (by rw [e6]; exact a0) b1 b2
      rw [e7, e8, opp_neg] at k
      refine ⟨⟨⟨?_, ?_⟩, k⟩, by rw [opp_iff, a0]; omega⟩
      · unfold ov; have := mn_spec 0 p; have := mx_spec 0 p; have := mn_spec u (u + r); have := mx_spec u (u + r); unfold btw at b1; omega
      · unfold ov; have := mn_spec 0 q; have := mx_spec 0 q; have := mn_spec v (v + s); have := mx_spec v (v + s); unfold btw at b2; omega
    · have hD : p * s - r * q ≠ 0 := by
        intro e
        rw [e] at i1
        rw [i1, opp_iff] at op1
        omega
      exact ⟨⟨boxes_of hD op1 op2, op1⟩, op2⟩

theorem meet_same {a b c d : Pt} (h1 : eqP a b = false) (h2 : eqP c d = false) : meet2P a b c d = meetP a b c d := by
  obtain ⟨ax, ay⟩ := a
  obtain ⟨bx, by'⟩ := b
  obtain ⟨cx, cy⟩ := c
  obtain ⟨dx, dy⟩ := d
  obtain ⟨p, rfl⟩ : ∃ p, bx = ax + p := ⟨bx - ax, by omega⟩
  obtain ⟨q, rfl⟩ : ∃ q, by' = ay + q := ⟨by' - ay, by omega⟩
  obtain ⟨u, rfl⟩ : ∃ u, cx = ax + u := ⟨cx - ax, by omega⟩
  obtain ⟨v, rfl⟩ : ∃ v, cy = ay + v := ⟨cy - ay, by omega⟩
  obtain ⟨r, rfl⟩ : ∃ r, dx = ax + u + r := ⟨dx - ax - u, by omega⟩
  obtain ⟨s, rfl⟩ : ∃ s, dy = ay + v + s := ⟨dy - ay - v, by omega⟩
  have g1 : p ≠ 0 ∨ q ≠ 0 := by
    unfold eqP eqI at h1
    rw [Bool.and_eq_false_iff, beq_eq_false_iff_ne, beq_eq_false_iff_ne] at h1
    simp only at h1; omega
  have g2 : r ≠ 0 ∨ s ≠ 0 := by
    unfold eqP eqI at h2
    rw [Bool.and_eq_false_iff, beq_eq_false_iff_ne, beq_eq_false_iff_ne] at h2
    simp only at h2; omega
  have c1 : cross ax ay (ax + p) (ay + q) (ax + u) (ay + v) = al p q u v := by unfold cross al; grind
  have c2 : cross ax ay (ax + p) (ay + q) (ax + u + r) (ay + v + s) = al p q (u + r) (v + s) := by unfold cross al; grind
  have c3 : cross (ax + u) (ay + v) (ax + u + r) (ay + v + s) ax ay = u * s - r * v := by unfold cross; grind
  have c4 : cross (ax + u) (ay + v) (ax + u + r) (ay + v + s) (ax + p) (ay + q) = r * (q - v) - (p - u) * s := by unfold cross; grind
  have o1 := on_iff ax ay p q u v
  have o2 : onB ax ay (ax + p) (ay + q) (ax + u + r) (ay + v + s) = true ↔ al p q (u + r) (v + s) = 0 ∧ btw (u + r) p ∧ btw (v + s) q := by
    have := on_iff ax ay p q (u + r) (v + s)
    rwa [← Int.add_assoc, ← Int.add_assoc] at this
  have o3 : onB (ax + u) (ay + v) (ax + u + r) (ay + v + s) ax ay = true ↔ u * s - r * v = 0 ∧ btw (-u) r ∧ btw (-v) s := by
    have := on_iff (ax + u) (ay + v) r s (-u) (-v)
    rw [show ax + u + -u = ax by omega, show ay + v + -v = ay by omega, show al r s (-u) (-v) = u * s - r * v by unfold al; grind] at this
    exact this
  have o4 : onB (ax + u) (ay + v) (ax + u + r) (ay + v + s) (ax + p) (ay + q) = true ↔ r * (q - v) - (p - u) * s = 0 ∧ btw (p - u) r ∧ btw (q - v) s := by
    have := on_iff (ax + u) (ay + v) r s (p - u) (q - v)
    rw [show ax + u + (p - u) = ax + p by omega, show ay + v + (q - v) = ay + q by omega, show al r s (p - u) (q - v) = r * (q - v) - (p - u) * s by unfold al; grind] at this
    exact this
  rw [Bool.eq_iff_iff]
  unfold meet2P meetP meet2B meetB
  simp only
  rw [Bool.and_eq_true, Bool.and_eq_true, box_iff, reach_iff, reach_iff, Bool.or_eq_true, Bool.or_eq_true, Bool.or_eq_true, Bool.or_eq_true, Bool.and_eq_true, decide_eq_true_eq, decide_eq_true_eq, sgn_opp, sgn_opp, c1, c2, c3, c4, o1, o2, o3, o4]
  exact meet_rel p q r s u v g1 g2

end Go.Proofs.YtlekncamokiekaaGreatDoor

/- Package shape and the reference find the same polygons simple and convex. -/
namespace Go.Proofs.YtlekncamokiekaaGreatDoor

theorem back_rel {p q r s : Int} (h1 : p ≠ 0 ∨ q ≠ 0) (h2 : r ≠ 0 ∨ s ≠ 0) (h : p * s = r * q) : 0 < p * r + q * s ↔ (btw r p ∧ btw s q) ∨ (btw p r ∧ btw q s) := by
  constructor
  · intro hd
    by_cases hp : p = 0
    · subst hp
      have hq : q ≠ 0 := by rcases h1 with h' | h'; exact absurd rfl h'; exact h'
      have hr : r = 0 := by
        rcases Int.mul_eq_zero.1 (show r * q = 0 by omega) with h' | h'
        · exact h'
        · exact absurd h' hq
      subst hr
      have hd' : 0 < q * s := by omega
      have hs : (0 < q ∧ 0 < s) ∨ (q < 0 ∧ s < 0) := by
        rcases Int.lt_trichotomy q 0 with g | g | g
        · right; refine ⟨g, ?_⟩
          rcases Int.lt_or_le s 0 with k | k
          · exact k
          · have := Int.mul_nonpos_of_nonpos_of_nonneg (Int.le_of_lt g) k; omega
        · exact absurd g hq
        · left; refine ⟨g, ?_⟩
          rcases Int.lt_or_le 0 s with k | k
          · exact k
          · have := Int.mul_nonpos_of_nonneg_of_nonpos (Int.le_of_lt g) k; omega
      unfold btw
      omega
    · have hr : r ≠ 0 := by
        intro e; subst e
        have hs : s = 0 := by
          rcases Int.mul_eq_zero.1 (show p * s = 0 by omega) with h' | h'
          · exact absurd h' hp
          · exact h'
        subst hs
        simp at h2
      have k1 : p * (p * r + q * s) = r * (p * p + q * q) := by
        have : q * (p * s) = q * (r * q) := by rw [h]
        grind
      have k2 : 0 < p * p + q * q := by
        have a : 0 < p * p := by
          rcases Int.lt_or_lt_of_ne hp with g | g
          · exact Int.mul_pos_of_neg_of_neg g g
          · exact Int.mul_pos g g
        have b : 0 ≤ q * q := by
          rcases Int.le_total 0 q with g | g
          · exact Int.mul_nonneg g g
          · exact Int.mul_nonneg_of_nonpos_of_nonpos g g
        omega
      generalize p * r + q * s = d at *
      generalize p * p + q * q = f at *
      have hs : (0 < p ∧ 0 < r) ∨ (p < 0 ∧ r < 0) := by
        rcases Int.lt_or_lt_of_ne hp with g | g
        · right; refine ⟨g, ?_⟩
          have := Int.mul_neg_of_neg_of_pos g hd
          rcases Int.lt_or_le r 0 with k | k
          · exact k
          · have := Int.mul_nonneg k (Int.le_of_lt k2); omega
        · left; refine ⟨g, ?_⟩
          have := Int.mul_pos g hd
          rcases Int.lt_or_le 0 r with k | k
          · exact k
          · have := Int.mul_nonpos_of_nonpos_of_nonneg k (Int.le_of_lt k2); omega
      have hb : btw r p ∨ btw p r := by unfold btw; omega
      rcases hb with hb | hb
      · exact .inl ⟨hb, btw_dim hp h hb⟩
      · exact .inr ⟨hb, btw_dim hr h.symm hb⟩
  · have key : ∀ x y : Int, btw x y → 0 ≤ y * x ∧ (y * x = 0 → x = 0) := by
      intro x y hb
      rcases hb with ⟨b1, b2⟩ | ⟨b1, b2⟩
      · refine ⟨Int.mul_nonneg (by omega) b1, fun e => ?_⟩
        rcases Int.mul_eq_zero.1 e with k | k <;> omega
      · refine ⟨Int.mul_nonneg_of_nonpos_of_nonpos (by omega) b2, fun e => ?_⟩
        rcases Int.mul_eq_zero.1 e with k | k <;> omega
    rintro (⟨b1, b2⟩ | ⟨b1, b2⟩)
    · obtain ⟨k1, k2⟩ := key _ _ b1
      obtain ⟨k3, k4⟩ := key _ _ b2
      rcases h2 with g | g <;> omega
    · obtain ⟨k1, k2⟩ := key _ _ b1
      obtain ⟨k3, k4⟩ := key _ _ b2
      rw [Int.mul_comm p r, Int.mul_comm q s]
      rcases h1 with g | g <;> omega

theorem back_same {a b c : Pt} (h1 : eqP a b = false) (h2 : eqP b c = false) : backP a b c = (onP a b c || onP b c a) := by
  obtain ⟨ax, ay⟩ := a
  obtain ⟨bx, by'⟩ := b
  obtain ⟨cx, cy⟩ := c
  obtain ⟨p, rfl⟩ : ∃ p, ax = bx + p := ⟨ax - bx, by omega⟩
  obtain ⟨q, rfl⟩ : ∃ q, ay = by' + q := ⟨ay - by', by omega⟩
  obtain ⟨r, rfl⟩ : ∃ r, cx = bx + r := ⟨cx - bx, by omega⟩
  obtain ⟨s, rfl⟩ : ∃ s, cy = by' + s := ⟨cy - by', by omega⟩
  have g1 : p ≠ 0 ∨ q ≠ 0 := by
    unfold eqP eqI at h1
    rw [Bool.and_eq_false_iff, beq_eq_false_iff_ne, beq_eq_false_iff_ne] at h1
    simp only at h1; omega
  have g2 : r ≠ 0 ∨ s ≠ 0 := by
    unfold eqP eqI at h2
    rw [Bool.and_eq_false_iff, beq_eq_false_iff_ne, beq_eq_false_iff_ne] at h2
    simp only at h2; omega
  have o1 : onB (bx + p) (by' + q) bx by' (bx + r) (by' + s) = true ↔ p * s - r * q = 0 ∧ btw r p ∧ btw s q := by
    have := on_iff (bx + p) (by' + q) (-p) (-q) (r - p) (s - q)
    rw [show bx + p + -p = bx by omega, show by' + q + -q = by' by omega, show bx + p + (r - p) = bx + r by omega, show by' + q + (s - q) = by' + s by omega, show al (-p) (-q) (r - p) (s - q) = -(p * s - r * q) by unfold al; grind] at this
    rw [this]; unfold btw; omega
  have o2 : onB bx by' (bx + r) (by' + s) (bx + p) (by' + q) = true ↔ p * s - r * q = 0 ∧ btw p r ∧ btw q s := by
    rw [on_iff]; unfold al
    exact ⟨fun ⟨e, h⟩ => ⟨by omega, h⟩, fun ⟨e, h⟩ => ⟨by omega, h⟩⟩
  have d1 : (bx + p - bx) * (by' + s - by') - (bx + r - bx) * (by' + q - by') = p * s - r * q := by grind
  have d2 : (bx + p - bx) * (bx + r - bx) + (by' + q - by') * (by' + s - by') = p * r + q * s := by grind
  rw [Bool.eq_iff_iff]
  unfold backP onP backB
  simp only
  rw [Bool.or_eq_true, Bool.and_eq_true, beq_iff_eq, decide_eq_true_eq, o1, o2, d1, d2]
  constructor
  · rintro ⟨e, hd⟩
    rcases (back_rel g1 g2 (by omega)).1 hd with h | h
    · exact .inl ⟨e, h⟩
    · exact .inr ⟨e, h⟩
  · rintro (⟨e, h⟩ | ⟨e, h⟩)
    · exact ⟨e, (back_rel g1 g2 (by omega)).2 (.inl h)⟩
    · exact ⟨e, (back_rel g1 g2 (by omega)).2 (.inr h)⟩

theorem meetP_comm (a b c d : Pt) : meetP a b c d = meetP c d a b := by
  unfold meetP meetB
  generalize onB a.1 a.2 b.1 b.2 c.1 c.2 = o1
  generalize onB a.1 a.2 b.1 b.2 d.1 d.2 = o2
  generalize onB c.1 c.2 d.1 d.2 a.1 a.2 = o3
  generalize onB c.1 c.2 d.1 d.2 b.1 b.2 = o4
  rw [Bool.and_comm]
  cases o1 <;> cases o2 <;> cases o3 <;> cases o4 <;> rfl

theorem eqP_iff {a b : Pt} : eqP a b = true ↔ a = b := by
  obtain ⟨x, y⟩ := a
  obtain ⟨u, v⟩ := b
  simp [eqP, eqI]

theorem simple2B_iff (l : List Pt) : simple2B l = true ↔ ∀ i, i < l.length → zeroAt l i = false ∧ backAt l i = false ∧ ∀ j, j + 2 ≤ i → hit2At l i j = false := by
  unfold simple2B simple2At
  simp only [List.all_eq_true, List.mem_range, Bool.and_eq_true, Bool.not_eq_true', Bool.or_eq_false_iff, Bool.or_eq_true, decide_eq_true_eq]
  constructor
  · intro h i hi
    obtain ⟨⟨a, b⟩, c⟩ := h i hi
    refine ⟨a, b, fun j hj => ?_⟩
    rcases c j (by omega) with k | k
    · omega
    · exact k
  · intro h i hi
    obtain ⟨a, b, c⟩ := h i hi
    refine ⟨⟨a, b⟩, fun j hj => ?_⟩
    by_cases e : i < j + 2
    · exact .inl e
    · exact .inr (c j (by omega))

theorem simpleB_iff (l : List Pt) : simpleB l = true ↔ (∀ i, i < l.length → zeroAt l i = false) ∧ ∀ i, i < l.length → foldAt l i = false ∧ ∀ k, k < l.length → i + 2 ≤ k → hitAt l i k = false := by
  constructor
  · unfold simpleB
    simp only [List.all_eq_true, List.mem_range, Bool.and_eq_true, Bool.not_eq_true', Bool.or_eq_true, decide_eq_true_eq]
    rintro ⟨h1, h2⟩
    refine ⟨h1, fun i hi => ⟨(h2 i hi).1, fun k hk hik => ?_⟩⟩
    rcases (h2 i hi).2 k hk with g | g
    · omega
    · exact g
  · rintro ⟨h1, h2⟩
    exact simpleB_yes h1 (fun j hj => ⟨(h2 j hj).1, fun k hjk hk => (h2 j hj).2 k hk hjk⟩)

theorem zero_next {l : List Pt} (h : ∀ i, i < l.length → zeroAt l i = false) (i : Nat) (hn : 0 < l.length) : eqP (nx l i) (nx l (i + 1)) = false := by
  have := h ((i + 1) % l.length) (Nat.mod_lt _ hn)
  unfold zeroAt at this
  rw [show gt l ((i + 1) % l.length) = nx l i from rfl] at this
  unfold nx at this ⊢
  rwa [Nat.mod_add_mod] at this

theorem hit_same {l : List Pt} {i j : Nat} (hi : i < l.length) (hj : j + 2 ≤ i) (z1 : zeroAt l i = false) (z2 : zeroAt l j = false) : hit2At l i j = hitAt l j i := by
  unfold hit2At hitAt
  rw [meet_same z1 z2, meetP_comm]
  have : (i - j == l.length - 1) = ((i + 1) % l.length == j) := by
    rw [Bool.eq_iff_iff, beq_iff_eq, beq_iff_eq]
    by_cases e : i + 1 = l.length
    · rw [e, Nat.mod_self]; omega
    · rw [Nat.mod_eq_of_lt (by omega)]; omega
  rw [this]

theorem simple_same (l : List Pt) : simple2B l = simpleB l := by
  rw [Bool.eq_iff_iff, simple2B_iff, simpleB_iff]
  constructor
  · intro h
    have hz : ∀ i, i < l.length → zeroAt l i = false := fun i hi => (h i hi).1
    refine ⟨hz, fun i hi => ⟨?_, fun k hk hik => ?_⟩⟩
    · have b := (h i hi).2.1
      unfold backAt at b
      rw [back_same (hz i hi) (zero_next hz i (by omega))] at b
      exact b
    · rw [← hit_same hk hik (hz k hk) (hz i hi)]
      exact (h k hk).2.2 i hik
  · rintro ⟨hz, h⟩ i hi
    refine ⟨hz i hi, ?_, fun j hj => ?_⟩
    · unfold backAt
      rw [back_same (hz i hi) (zero_next hz i (by omega))]
      exact (h i hi).1
    · rw [hit_same hi hj (hz i hi) (hz j (by omega))]
      exact (h j (by omega)).2 i hi hj

theorem cmpQ_first (a b : Pt) : decide (cmpQ a b < 0) = firstP a b := by
  obtain ⟨ax, ay⟩ := a
  obtain ⟨bx, by'⟩ := b
  rw [Bool.eq_iff_iff]
  simp only [cmpQ, cmpP, firstP, firstB, Bool.or_eq_true, Bool.and_eq_true, beq_iff_eq, decide_eq_true_eq]
  unfold orI cmpI
  by_cases h1 : ay < by' <;> by_cases h2 : by' < ay <;> by_cases h3 : ax < bx <;> by_cases h4 : bx < ax <;> simp [h1, h2, h3, h4] <;> omega

theorem onP_start (a b : Pt) : onP a b a = true := by
  obtain ⟨ax, ay⟩ := a
  obtain ⟨bx, by'⟩ := b
  simp only [onP, onB, cross, inB, mn, mx, Bool.and_eq_true, beq_iff_eq, decide_eq_true_eq]
  refine ⟨⟨by grind, ?_, ?_⟩, ?_, ?_⟩ <;> split <;> omega

/-- The first point of a simple polygon is no other one. -/
theorem first_alone {l : List Pt} (h : simpleB l = true) {i : Nat} (h0 : 0 < i) (hi : i < l.length) : gt l 0 ≠ gt l i := by
  intro e
  rw [simpleB_iff] at h
  obtain ⟨hz, hh⟩ := h
  by_cases e1 : i = 1
  · subst e1
    have := hz 0 (by omega)
    unfold zeroAt nx at this
    rw [Nat.zero_add, Nat.mod_eq_of_lt hi, show l.getD 1 (0, 0) = gt l 1 from rfl] at this
    rw [eqP_iff.2 e] at this
    cases this
  · by_cases e2 : i + 1 = l.length
    · have := hz i hi
      unfold zeroAt nx at this
      rw [e2, Nat.mod_self, show l.getD 0 (0, 0) = gt l 0 from rfl] at this
      rw [eqP_iff.2 e.symm] at this
      cases this
    · have := (hh 0 (by omega)).2 i hi (by omega)
      unfold hitAt at this
      rw [Nat.mod_eq_of_lt (by omega), ← e] at this
      have o := onP_start (gt l 0) (nx l 0)
      have m : meetP (gt l 0) (nx l 0) (gt l 0) (nx l i) = true := by
        unfold onP at o
        unfold meetP meetB
        rw [o]; simp
      rw [m] at this
      simp at this

theorem convex_same (l : List Pt) : convex2B l = convexB l := by
  unfold convex2B convexB
  rw [simple_same, Bool.and_comm]
  cases hs : simpleB l
  · rfl
  · rw [Bool.true_and, Bool.true_and, Bool.eq_iff_iff, List.all_eq_true, List.all_eq_true]
    have k : ∀ i, i < l.length → convex2At l i = convexAt l i := by
      intro i hi
      unfold convex2At convexAt
      rw [cmpQ_first, Bool.not_or]
      congr 1
      by_cases e0 : i = 0
      · subst e0
        have : firstP (gt l 0) (gt l 0) = false := by simp [firstP, firstB]
        rw [this]; rfl
      · have ne := first_alone hs (Nat.pos_of_ne_zero e0) hi
        rw [show (i == 0) = false by simp [e0], Bool.false_or]
        generalize gt l 0 = a at *
        generalize gt l i = b at *
        obtain ⟨ax, ay⟩ := a
        obtain ⟨bx, by'⟩ := b
        have ne' : ¬ (ax = bx ∧ ay = by') := fun ⟨e1, e2⟩ => ne (by rw [e1, e2])
        rw [Bool.eq_iff_iff]
        simp only [firstP, firstB, Bool.not_eq_true', Bool.or_eq_false_iff, Bool.or_eq_true, Bool.and_eq_true, Bool.and_eq_false_iff, beq_iff_eq, beq_eq_false_iff_ne, decide_eq_true_eq, decide_eq_false_iff_not]
        omega
    constructor
    · intro h i hi
      rw [← k i (List.mem_range.1 hi)]; exact h i hi
    · intro h i hi
      rw [k i (List.mem_range.1 hi)]; exact h i hi
end Go.Proofs.YtlekncamokiekaaGreatDoor

/- Plain mathematics of convex hulls: the monotone chain. -/
namespace Go.Proofs.YtlekncamokiekaaGreatDoor

/-- The cross product of two vectors. -/
def xr (u v : Pt) : Int := u.1 * v.2 - v.1 * u.2
def subP (a b : Pt) : Pt := (a.1 - b.1, a.2 - b.2)
/-- Upward, or to the right. -/
def Up (v : Pt) : Prop := 0 < v.2 ∨ (v.2 = 0 ∧ 0 < v.1)
/-- From below, then from the left. -/
def ltP (a b : Pt) : Prop := a.2 < b.2 ∨ (a.2 = b.2 ∧ a.1 < b.1)
def leP (a b : Pt) : Prop := a = b ∨ ltP a b

theorem up_sub {a b : Pt} : Up (subP b a) ↔ ltP a b := by unfold Up subP ltP; simp only; omega
theorem ltP_trans {a b c : Pt} (h : ltP a b) (k : ltP b c) : ltP a c := by unfold ltP at *; omega
theorem ltP_irrefl (a : Pt) : ¬ ltP a a := by unfold ltP; omega
theorem ltP_asymm {a b : Pt} (h : ltP a b) : ¬ ltP b a := by unfold ltP at *; omega
theorem leP_trans {a b c : Pt} (h : leP a b) (k : leP b c) : leP a c := by
  rcases h with rfl | h
  · exact k
  · rcases k with rfl | k
    · exact .inr h
    · exact .inr (ltP_trans h k)
theorem leP_refl (a : Pt) : leP a a := .inl rfl
theorem ltP_leP {a b c : Pt} (h : ltP a b) (k : leP b c) : ltP a c := by
  rcases k with rfl | k
  · exact h
  · exact ltP_trans h k
theorem leP_ltP {a b c : Pt} (h : leP a b) (k : ltP b c) : ltP a c := by
  rcases h with rfl | h
  · exact k
  · exact ltP_trans h k
theorem leP_total (a b : Pt) : leP a b ∨ ltP b a := by
  obtain ⟨x, y⟩ := a
  obtain ⟨u, v⟩ := b
  unfold leP ltP
  simp only [Prod.mk.injEq]
  omega
theorem leP_anti {a b : Pt} (h : leP a b) (k : leP b a) : a = b := by
  rcases h with h | h
  · exact h
  · rcases k with k | k
    · exact k.symm
    · exact absurd k (ltP_asymm h)

theorem nonneg_of_mul {v z s : Int} (hv : 0 < v) (h : v * z = s) (hs : 0 ≤ s) : 0 ≤ z := by
  rcases Int.lt_or_le z 0 with g | g
  · have := Int.mul_neg_of_pos_of_neg hv g; omega
  · exact g
theorem pos_of_mul {v z s : Int} (hv : 0 < v) (h : v * z = s) (hs : 0 < s) : 0 < z := by
  rcases Int.lt_or_le 0 z with g | g
  · exact g
  · have := Int.mul_nonpos_of_nonneg_of_nonpos (Int.le_of_lt hv) g; omega
theorem up_y {u : Pt} (h : Up u) : 0 ≤ u.2 := by unfold Up at h; omega

/-- In the upper half plane the angles are ordered. -/
theorem xr_trans {u v w : Pt} (hu : Up u) (hv : Up v) (hw : Up w) (h : 0 ≤ xr u v) (k : 0 ≤ xr v w) : 0 ≤ xr u w := by
  have e : v.2 * xr u w = w.2 * xr u v + u.2 * xr v w := by unfold xr; grind
  have a1 := Int.mul_nonneg (up_y hw) h
  have a2 := Int.mul_nonneg (up_y hu) k
  rcases hv with g | ⟨g, g'⟩
  · exact nonneg_of_mul g e (by omega)
  · have e2 : xr u v = - (v.1 * u.2) := by unfold xr; rw [g]; grind
    have e3 : xr v w = v.1 * w.2 := by unfold xr; rw [g]; grind
    have u0 : u.2 = 0 := by
      rcases Int.lt_or_le 0 u.2 with q | q
      · have := Int.mul_pos g' q; omega
      · have := up_y hu; omega
    have e4 : xr u w = u.1 * w.2 := by unfold xr; rw [u0]; grind
    have hu1 : 0 < u.1 := by unfold Up at hu; omega
    rw [e4]
    exact Int.mul_nonneg (Int.le_of_lt hu1) (up_y hw)
theorem xr_trans1 {u v w : Pt} (hu : Up u) (hv : Up v) (hw : Up w) (h : 0 < xr u v) (k : 0 ≤ xr v w) : 0 < xr u w := by
  have e : v.2 * xr u w = w.2 * xr u v + u.2 * xr v w := by unfold xr; grind
  have hv2 : 0 < v.2 := by
    rcases hv with g | ⟨g, g'⟩
    · exact g
    · have e2 : xr u v = - (v.1 * u.2) := by unfold xr; rw [g]; grind
      have := Int.mul_nonneg (Int.le_of_lt g') (up_y hu)
      omega
  have hw2 : 0 < w.2 := by
    rcases hw with g | ⟨g, g'⟩
    · exact g
    · have e2 : xr v w = - (w.1 * v.2) := by unfold xr; rw [g]; grind
      have := Int.mul_pos g' hv2
      omega
  have a1 := Int.mul_pos hw2 h
  have a2 := Int.mul_nonneg (up_y hu) k
  exact pos_of_mul hv2 e (by omega)
theorem xr_trans2 {u v w : Pt} (hu : Up u) (hv : Up v) (hw : Up w) (h : 0 ≤ xr u v) (k : 0 < xr v w) : 0 < xr u w := by
  have e : v.2 * xr u w = w.2 * xr u v + u.2 * xr v w := by unfold xr; grind
  have hw2 : 0 < w.2 := by
    rcases hw with g | ⟨g, g'⟩
    · exact g
    · have e2 : xr v w = - (w.1 * v.2) := by unfold xr; rw [g]; grind
      have := Int.mul_nonneg (Int.le_of_lt g') (up_y hv)
      omega
  rcases hv with g | ⟨g, g'⟩
  · rcases hu with q | ⟨q, q'⟩
    · have a1 := Int.mul_nonneg (up_y (.inl hw2)) h
      have a2 := Int.mul_pos q k
      exact pos_of_mul g e (by omega)
    · have e2 : xr u v = u.1 * v.2 := by unfold xr; rw [q]; grind
      have e3 : xr u w = u.1 * w.2 := by unfold xr; rw [q]; grind
      rw [e3]; exact Int.mul_pos q' hw2
  · have e2 : xr u v = - (v.1 * u.2) := by unfold xr; rw [g]; grind
    have u0 : u.2 = 0 := by
      rcases Int.lt_or_le 0 u.2 with q | q
      · have := Int.mul_pos g' q; omega
      · have := up_y hu; omega
    have e4 : xr u w = u.1 * w.2 := by unfold xr; rw [u0]; grind
    have hu1 : 0 < u.1 := by unfold Up at hu; omega
    rw [e4]; exact Int.mul_pos hu1 hw2

theorem crossP_xr (a b c : Pt) : crossP a b c = xr (subP b a) (subP c a) := by unfold crossP cross xr subP; grind
theorem crossP_xr2 (a b c : Pt) : crossP a b c = xr (subP b a) (subP c b) := by unfold crossP cross xr subP; grind

/-- A point is to the left of an edge, or on it. -/
def LeftOn (a b p : Pt) : Prop := 0 < crossP a b p ∨ onP a b p = true
theorem onP_cross {a b p : Pt} (h : onP a b p = true) : crossP a b p = 0 := by
  unfold onP onB at h
  simp only [Bool.and_eq_true, beq_iff_eq] at h
  exact h.1.1
theorem LeftOn.nonneg {a b p : Pt} (h : LeftOn a b p) : 0 ≤ crossP a b p := by
  rcases h with h | h
  · omega
  · rw [onP_cross h]; omega
/-- On a line, what lies between in the order lies between. -/
theorem on_of_between {a b p : Pt} (h : crossP a b p = 0) (h1 : leP a p) (h2 : leP p b) : onP a b p = true := by
  obtain ⟨ax, ay⟩ := a
  obtain ⟨bx, by'⟩ := b
  obtain ⟨px, py⟩ := p
  rcases h1 with e | h1
  · rw [← e]; exact onP_start _ _
  · rcases h2 with e | h2
    · rw [e]
      have := (on_iff ax ay (bx - ax) (by' - ay) (bx - ax) (by' - ay)).2 ⟨by unfold al; grind, by unfold btw; omega, by unfold btw; omega⟩
      rw [show ax + (bx - ax) = bx by omega, show ay + (by' - ay) = by' by omega] at this
      exact this
    · have hc : (bx - ax) * (py - ay) = (px - ax) * (by' - ay) := by unfold crossP cross at h; simp only at h; omega
      have key := (on_iff ax ay (bx - ax) (by' - ay) (px - ax) (py - ay))
      rw [show ax + (bx - ax) = bx by omega, show ay + (by' - ay) = by' by omega, show ax + (px - ax) = px by omega, show ay + (py - ay) = py by omega] at key
      refine key.2 ⟨by unfold al; omega, ?_⟩
      unfold ltP at h1 h2
      simp only at h1 h2
      have hy : btw (py - ay) (by' - ay) := by unfold btw; omega
      by_cases e : by' - ay = 0
      · refine ⟨?_, hy⟩
        unfold btw; omega
      · exact ⟨btw_dim e (by rw [Int.mul_comm, ← hc, Int.mul_comm]) hy, hy⟩


theorem onP_end (a b : Pt) (h : leP a b) : onP a b b = true := on_of_between (by unfold crossP cross; grind) h (leP_refl b)

/-- The edges of a chain whose last point stands first. -/
def edges : List Pt → List (Pt × Pt)
  | b :: a :: r => (a, b) :: edges (a :: r)
  | _ => []
def EdgeOK (P : List Pt) (a b : Pt) : Prop := ∀ p ∈ P, LeftOn a b p
def vec (e : Pt × Pt) : Pt := subP e.2 e.1
def Chn (P : List Pt) : List Pt → Prop
  | b :: a :: r => Chn P (a :: r) ∧ ltP a b ∧ EdgeOK P a b ∧ ∀ e ∈ edges (a :: r), 0 < xr (vec e) (subP b a)
  | _ => True
def popW (x : Pt) : List Pt → List Pt
  | b :: a :: r => if crossP a b x ≤ 0 then popW x (a :: r) else b :: a :: r
  | l => l
def pushW (st : List Pt) (x : Pt) : List Pt := x :: popW x st
def chainW (l : List Pt) : List Pt := l.foldl pushW []

theorem chn_edges {P : List Pt} : ∀ {st : List Pt}, Chn P st → ∀ e ∈ edges st, ltP e.1 e.2 ∧ EdgeOK P e.1 e.2
  | [], _, _, h => by cases h
  | [_], _, _, h => by cases h
  | b :: a :: r, hc, e, h => by
    obtain ⟨h1, h2, h3, _⟩ := hc
    rcases List.mem_cons.1 h with rfl | h
    · exact ⟨h2, h3⟩
    · exact chn_edges h1 e h
theorem chn_more {P : List Pt} {x : Pt} : ∀ {st : List Pt}, Chn P st → (∀ e ∈ edges st, LeftOn e.1 e.2 x) → Chn (x :: P) st
  | [], _, _ => trivial
  | [_], _, _ => trivial
  | b :: a :: r, hc, h => by
    obtain ⟨h1, h2, h3, h4⟩ := hc
    refine ⟨chn_more h1 (fun e he => h e (List.mem_cons_of_mem _ he)), h2, fun p hp => ?_, h4⟩
    rcases List.mem_cons.1 hp with rfl | hp
    · exact h (a, b) (List.mem_cons_self)
    · exact h3 p hp
theorem edges_mem : ∀ {st : List Pt} {e : Pt × Pt}, e ∈ edges st → e.1 ∈ st ∧ e.2 ∈ st
  | [], _, h => by cases h
  | [_], _, h => by cases h
  | b :: a :: r, e, h => by
    rcases List.mem_cons.1 h with rfl | h
    · exact ⟨by simp, by simp⟩
    · obtain ⟨h1, h2⟩ := edges_mem h
      exact ⟨List.mem_cons_of_mem _ h1, List.mem_cons_of_mem _ h2⟩

theorem q_step {P : List Pt} {a t x : Pt} (h1 : ltP a t) (h2 : ltP t x) (hx : ∀ p ∈ P, leP p x) (hc : crossP a t x ≤ 0) (he : EdgeOK P a t) (hq : ∀ p ∈ P, leP t p → LeftOn t x p) :
    ∀ p ∈ P, leP a p → LeftOn a x p := by
  intro p hp hap
  have hax := ltP_trans h1 h2
  have hpx := hx p hp
  have hA : Up (subP t a) := up_sub.2 h1
  have hB : Up (subP x t) := up_sub.2 h2
  have hAB : Up (subP x a) := up_sub.2 hax
  have hBA : 0 ≤ xr (subP x t) (subP t a) := by
    have : crossP a t x = - xr (subP x t) (subP t a) := by unfold crossP cross xr subP; grind
    omega
  have key : 0 ≤ crossP a x p := by
    rcases leP_total t p with g | g
    · rcases hpx with rfl | hpx
      · rw [show crossP a p p = 0 by unfold crossP cross; grind]; omega
      · have hD : Up (subP x p) := up_sub.2 hpx
        have k1 := (hq p hp g).nonneg
        have e1 : crossP t x p = xr (subP x p) (subP x t) := by unfold crossP cross xr subP; grind
        have e2 : crossP a x p = xr (subP x p) (subP t a) + xr (subP x p) (subP x t) := by unfold crossP cross xr subP; grind
        have := xr_trans hD hB hA (by omega) hBA
        omega
    · have k1 := (he p hp).nonneg
      rcases hap with rfl | hap
      · rw [show crossP a x a = 0 by unfold crossP cross; grind]; omega
      · have hC : Up (subP p a) := up_sub.2 hap
        have e1 : crossP a t p = xr (subP t a) (subP p a) := crossP_xr a t p
        have e2 : xr (subP x a) (subP t a) = xr (subP x t) (subP t a) := by unfold xr subP; grind
        rw [crossP_xr]
        exact xr_trans hAB hA hC (by omega) (by omega)
  rcases Int.lt_or_eq_of_le key with g | g
  · exact .inl g
  · exact .inr (on_of_between g.symm hap hpx)

/-- What popping leaves. -/
structure Popped (P : List Pt) (x : Pt) (t : Pt) (r : List Pt) : Prop where
  chn : Chn P (t :: r)
  lt : ltP t x
  q : ∀ p ∈ P, leP t p → LeftOn t x p
  turn : ∀ a r', r = a :: r' → 0 < crossP a t x

theorem pop_ok {P : List Pt} {x : Pt} (hx : ∀ p ∈ P, leP p x) : ∀ (t : Pt) (r : List Pt), Chn P (t :: r) → ltP t x → (∀ p ∈ P, leP t p → LeftOn t x p) →
    ∃ t' r', popW x (t :: r) = t' :: r' ∧ Popped P x t' r' ∧ (t' :: r') <:+ (t :: r)
  | t, [], hc, hl, hq => ⟨t, [], rfl, ⟨hc, hl, hq, fun _ _ h => by cases h⟩, List.suffix_refl _⟩
  | t, a :: r, hc, hl, hq => by
    by_cases h : crossP a t x ≤ 0
    · obtain ⟨h1, h2, h3, h4⟩ := hc
      obtain ⟨t', r', e, hp, hs⟩ := pop_ok hx a r h1 (ltP_trans h2 hl) (q_step h2 hl hx h h3 hq)
      refine ⟨t', r', ?_, hp, hs.trans (List.suffix_cons _ _)⟩
      rw [popW, if_pos h]; exact e
    · refine ⟨t, a :: r, ?_, ⟨hc, hl, hq, fun a' r' e => ?_⟩, List.suffix_refl _⟩
      · rw [popW, if_neg h]
      · obtain ⟨rfl, rfl⟩ : a = a' ∧ r = r' := by simpa using e
        omega

theorem push_ok {P : List Pt} {x s0 t : Pt} {r : List Pt} (h : Popped P x t r) (hin : ∀ s ∈ t :: r, s ∈ P) (hx : ∀ p ∈ P, leP p x) (hlast : (t :: r).getLast? = some s0) (hlow : ∀ p ∈ P, leP s0 p) :
    Chn (x :: P) (x :: t :: r) := by
  have hB : Up (subP x t) := up_sub.2 h.lt
  have turns : ∀ e ∈ edges (t :: r), 0 < xr (vec e) (subP x t) := by
    intro e he
    cases r with
    | nil => cases he
    | cons a r =>
      have ht := h.turn a r rfl
      obtain ⟨h1, h2, h3, h4⟩ := h.chn
      have e0 : crossP a t x = xr (subP t a) (subP x t) := crossP_xr2 a t x
      rcases List.mem_cons.1 he with rfl | he
      · show 0 < xr (subP t a) (subP x t); omega
      · have hv : Up (vec e) := up_sub.2 (chn_edges h1 e he).1
        exact xr_trans1 hv (up_sub.2 h2) hB (h4 e he) (by omega)
  have old : ∀ e ∈ edges (t :: r), LeftOn e.1 e.2 x := by
    intro e he
    left
    have k1 := ((chn_edges h.chn e he).2 t (hin t (by simp))).nonneg
    have k2 := turns e he
    have e0 : crossP e.1 e.2 x = crossP e.1 e.2 t + xr (vec e) (subP x t) := by unfold crossP cross xr vec subP; grind
    omega
  refine ⟨chn_more h.chn old, h.lt, fun p hp => ?_, turns⟩
  rcases List.mem_cons.1 hp with rfl | hp
  · exact .inr (onP_end _ _ (.inr h.lt))
  · rcases leP_total t p with g | g
    · exact h.q p hp g
    · left
      cases r with
      | nil =>
        obtain rfl : t = s0 := by simpa using hlast
        exact absurd (leP_ltP (hlow p hp) g) (ltP_irrefl _)
      | cons a r =>
        have ht := h.turn a r rfl
        obtain ⟨h1, h2, h3, h4⟩ := h.chn
        have k1 := (h3 p hp).nonneg
        have e1 : crossP a t p = xr (subP t p) (subP t a) := by unfold crossP cross xr subP; grind
        have e2 : crossP a t x = xr (subP t a) (subP x t) := crossP_xr2 a t x
        have e3 : crossP t x p = xr (subP t p) (subP x t) := by unfold crossP cross xr subP; grind
        have := xr_trans2 (up_sub.2 g) (up_sub.2 h2) hB (by omega) (by omega)
        omega

/-- A chain over points that are not all one. -/
structure Good (P : List Pt) (s0 : Pt) (st : List Pt) : Prop where
  chn : Chn P st
  two : 2 ≤ st.length
  top : ∃ t r, st = t :: r ∧ ∀ p ∈ P, leP p t
  last : st.getLast? = some s0
  low : ∀ p ∈ P, leP s0 p
  sub : ∀ s ∈ st, s ∈ P
/-- .. and over points that are. -/
def Same (P : List Pt) (s0 : Pt) (st : List Pt) : Prop := (∀ p ∈ P, p = s0) ∧ s0 ∈ P ∧ (st = [s0] ∨ st = [s0, s0])

theorem same_push {P : List Pt} {s0 : Pt} {st : List Pt} (h : Same P s0 st) {x : Pt} (hx : leP s0 x) : Same (x :: P) s0 (pushW st x) ∨ Good (x :: P) s0 (pushW st x) := by
  obtain ⟨h1, h2, h3⟩ := h
  have e0 : ∀ q, crossP s0 s0 q = 0 := fun q => by unfold crossP cross; grind
  have hp : pushW st x = [x, s0] := by
    rcases h3 with rfl | rfl
    · rfl
    · show x :: popW x [s0, s0] = _
      rw [popW, if_pos (by rw [e0]; omega)]; rfl
  rw [hp]
  rcases hx with rfl | hx
  · left
    exact ⟨fun p hp => by rcases List.mem_cons.1 hp with h | h; exact h; exact h1 p h, by simp, .inr rfl⟩
  · right
    refine ⟨⟨trivial, hx, fun p hp => ?_, fun e he => by cases he⟩, by simp, ⟨x, [s0], rfl, fun p hp => ?_⟩, rfl, fun p hp => ?_, fun s hs => ?_⟩
    · rcases List.mem_cons.1 hp with rfl | hp
      · exact .inr (onP_end _ _ (.inr hx))
      · rw [h1 p hp]; exact .inr (onP_start _ _)
    · rcases List.mem_cons.1 hp with rfl | hp
      · exact leP_refl _
      · rw [h1 p hp]; exact .inr hx
    · rcases List.mem_cons.1 hp with rfl | hp
      · exact .inr hx
      · rw [h1 p hp]; exact leP_refl _
    · rcases List.mem_cons.1 hs with rfl | hs
      · simp
      · have : s = s0 := by simpa using hs
        subst this; exact List.mem_cons_of_mem _ h2

theorem good_push {P : List Pt} {s0 : Pt} {st : List Pt} (h : Good P s0 st) {x : Pt} (hx : ∀ p ∈ P, leP p x) : Good (x :: P) s0 (pushW st x) := by
  obtain ⟨t, r, rfl, htop⟩ := h.top
  have fin : ∀ t' r', popW x (t :: r) = t' :: r' → Popped P x t' r' → (t' :: r') <:+ (t :: r) → Good (x :: P) s0 (pushW (t :: r) x) := by
    intro t' r' e hp hs
    have hl : (t' :: r').getLast? = some s0 := by
      obtain ⟨pre, hpre⟩ := hs
      have := h.last
      rw [← hpre, List.getLast?_append] at this
      cases e2 : (t' :: r').getLast? with
      | none => simp at e2
      | some y => rw [e2] at this; simpa using this
    have hin : ∀ s ∈ t' :: r', s ∈ P := fun s hs' => h.sub s (hs.subset hs')
    have hne : pushW (t :: r) x = x :: t' :: r' := by unfold pushW; rw [e]
    rw [hne]
    refine ⟨push_ok hp hin hx hl h.low, by simp, ⟨x, _, rfl, fun p hp' => ?_⟩, ?_, fun p hp' => ?_, fun s hs' => ?_⟩
    · rcases List.mem_cons.1 hp' with rfl | hp'
      · exact leP_refl _
      · exact hx p hp'
    · rw [List.getLast?_cons_cons]; exact hl
    · rcases List.mem_cons.1 hp' with rfl | hp'
      · exact leP_trans (h.low t' (hin t' (by simp))) (.inr hp.lt)
      · exact h.low p hp'
    · rcases List.mem_cons.1 hs' with rfl | hs'
      · simp
      · exact List.mem_cons_of_mem _ (hin s hs')
  rcases hx t (h.sub t (by simp)) with e | hlt
  · subst e
    cases r with
    | nil => have := h.two; simp at this
    | cons a r =>
      obtain ⟨h1, h2, h3, h4⟩ := h.chn
      obtain ⟨t', r', e, hp, hs⟩ := pop_ok hx a r h1 h2 (fun p hp _ => h3 p hp)
      refine fin t' r' ?_ hp (hs.trans (List.suffix_cons _ _))
      rw [popW, if_pos (by rw [show crossP a t t = 0 by unfold crossP cross; grind]; omega)]; exact e
  · obtain ⟨t', r', e, hp, hs⟩ := pop_ok hx t r h.chn hlt (fun p hp hle => by
      have : p = t := leP_anti (htop p hp) hle
      subst this; exact .inr (onP_start _ _))
    exact fin t' r' e hp hs

/-- The chain over sorted points. -/
theorem chain_ok : ∀ (l P : List Pt) (s0 : Pt) (st : List Pt), (Same P s0 st ∨ Good P s0 st) → (∀ p ∈ P, ∀ x ∈ l, leP p x) → l.Pairwise leP → s0 ∈ P →
    ∃ Q, (∀ p, p ∈ Q ↔ p ∈ P ∨ p ∈ l) ∧ (Same Q s0 (l.foldl pushW st) ∨ Good Q s0 (l.foldl pushW st))
  | [], P, s0, st, h, _, _, _ => ⟨P, by simp, h⟩
  | x :: l, P, s0, st, h, hle, hs, h0 => by
    obtain ⟨h1, h2⟩ := List.pairwise_cons.1 hs
    have step : Same (x :: P) s0 (pushW st x) ∨ Good (x :: P) s0 (pushW st x) := by
      rcases h with h | h
      · exact same_push h (hle s0 h0 x (by simp))
      · exact .inr (good_push h (fun p hp => hle p hp x (by simp)))
    obtain ⟨Q, hQ, hr⟩ := chain_ok l (x :: P) s0 (pushW st x) step (fun p hp y hy => by
      rcases List.mem_cons.1 hp with rfl | hp
      · exact h1 y hy
      · exact hle p hp y (List.mem_cons_of_mem _ hy)) h2 (List.mem_cons_of_mem _ h0)
    refine ⟨Q, fun p => ?_, hr⟩
    rw [hQ]; simp only [List.mem_cons]
    constructor
    · rintro ((h | h) | h)
      · exact .inr (.inl h)
      · exact .inl h
      · exact .inr (.inr h)
    · rintro (h | h | h)
      · exact .inl (.inr h)
      · exact .inl (.inl h)
      · exact .inr h

end Go.Proofs.YtlekncamokiekaaGreatDoor

/- Orientations as plain mathematics. -/
namespace Go.Proofs.YtlekncamokiekaaGreatDoor

theorem firstPW_iff {a b : Pt} : firstP a b = true ↔ ltP a b := by
  unfold firstP firstB ltP
  simp only [Bool.or_eq_true, Bool.and_eq_true, decide_eq_true_eq, beq_iff_eq]
def insP (p : Pt) : List Pt → List Pt
  | [] => [p]
  | q :: l => if firstP q p = true then q :: insP p l else p :: q :: l
theorem insP_at (p : Pt) : ∀ (out : List Pt) (k : Nat), k ≤ out.length → (∀ i, i < k → firstP (gt out i) p = true) → (k < out.length → firstP (gt out k) p = false) → insP p out = out.take k ++ p :: out.drop k
  | [], k, h, _, _ => by
    obtain rfl : k = 0 := by simpa using h
    rfl
  | q :: l, 0, _, _, h => by
    have : firstP q p = false := h (by simp)
    unfold insP
    rw [if_neg (by rw [this]; simp)]; rfl
  | q :: l, k + 1, hk, h1, h2 => by
    have : firstP q p = true := h1 0 (by omega)
    unfold insP
    rw [if_pos this, insP_at p l k (by simpa using hk) (fun i hi => h1 (i + 1) (by omega)) (fun hl => h2 (by simpa using hl))]
    rfl
theorem insP_perm (p : Pt) : ∀ l, (insP p l).Perm (p :: l)
  | [] => List.Perm.refl _
  | q :: l => by
    unfold insP
    split
    · exact ((insP_perm p l).cons q).trans (List.Perm.swap p q l)
    · exact List.Perm.refl _
theorem insP_sorted (p : Pt) : ∀ l, l.Pairwise leP → (insP p l).Pairwise leP
  | [], _ => List.pairwise_singleton _ _
  | q :: l, h => by
    have hq := List.pairwise_cons.1 h
    unfold insP
    split
    · rename_i hf
      refine List.pairwise_cons.2 ⟨fun x hx => ?_, insP_sorted p l hq.2⟩
      rcases List.mem_cons.1 ((insP_perm p l).mem_iff.1 hx) with rfl | hx
      · exact .inr (firstPW_iff.1 hf)
      · exact hq.1 x hx
    · rename_i hf
      have hpq : leP p q := by
        rcases leP_total p q with g | g
        · exact g
        · exact absurd (firstPW_iff.2 g) hf
      refine List.pairwise_cons.2 ⟨fun x hx => ?_, h⟩
      rcases List.mem_cons.1 hx with rfl | hx
      · exact hpq
      · exact leP_trans hpq (hq.1 x hx)
/-- The first k points, put in order one by one. -/
def sortTo (l : List Pt) (k : Nat) : List Pt := (l.take k).foldl (fun out p => insP p out) []
def sortR (l : List Pt) : List Pt := sortTo l l.length
theorem sortTo_succ {l : List Pt} {k : Nat} (h : k < l.length) : sortTo l (k + 1) = insP (gt l k) (sortTo l k) := by
  unfold sortTo
  rw [List.take_succ_eq_append_getElem h, List.foldl_append]
  unfold gt
  rw [List.getD_eq_getElem?_getD, List.getElem?_eq_getElem h]
  rfl
theorem foldl_ins : ∀ (l out : List Pt), (l.foldl (fun out p => insP p out) out).Perm (l ++ out) ∧ (out.Pairwise leP → (l.foldl (fun out p => insP p out) out).Pairwise leP)
  | [], out => ⟨List.Perm.refl _, id⟩
  | p :: l, out => by
    obtain ⟨h1, h2⟩ := foldl_ins l (insP p out)
    refine ⟨h1.trans ?_, fun h => h2 (insP_sorted p out h)⟩
    refine ((insP_perm p out).append_left l).trans ?_
    exact List.perm_middle
theorem sortR_perm (l : List Pt) : (sortR l).Perm l := by
  have := (foldl_ins (l.take l.length) []).1
  rw [List.take_length, List.append_nil] at this
  unfold sortR sortTo
  rw [List.take_length]; exact this
theorem sortR_sorted (l : List Pt) : (sortR l).Pairwise leP := (foldl_ins (l.take l.length) []).2 List.Pairwise.nil
theorem sortTo_length (l : List Pt) {k : Nat} (h : k ≤ l.length) : (sortTo l k).length = k := by
  have := (foldl_ins (l.take k) []).1.length_eq
  unfold sortTo
  rw [this, List.append_nil, List.length_take]; omega
theorem sorted_unique : ∀ {a b : List Pt}, a.Perm b → a.Pairwise leP → b.Pairwise leP → a = b
  | [], b, h, _, _ => h.nil_eq
  | x :: a, [], h, _, _ => absurd h.length_eq (by simp)
  | x :: a, y :: b, h, ha, hb => by
    have ha' := List.pairwise_cons.1 ha
    have hb' := List.pairwise_cons.1 hb
    have hx : x ∈ y :: b := h.mem_iff.1 List.mem_cons_self
    have hy : y ∈ x :: a := h.mem_iff.2 List.mem_cons_self
    have e : x = y := by
      rcases List.mem_cons.1 hx with rfl | hx
      · rfl
      · rcases List.mem_cons.1 hy with rfl | hy
        · rfl
        · exact leP_anti (ha'.1 y hy) (hb'.1 x hx)
    subst e
    rw [sorted_unique h.cons_inv ha'.2 hb'.2]
theorem leP_sub {a b q : Pt} (h : leP a b) : leP (subP a q) (subP b q) := by
  rcases h with rfl | h
  · exact .inl rfl
  · refine .inr ?_
    unfold ltP subP at *
    simp only
    omega
/-- Cells in order, moved such that the first one is (0, 0). -/
def normP (l : List Pt) : List Pt := (sortR l).map fun p => subP p (gt (sortR l) 0)
def minTo (l : List Pt) : Nat → Pt
  | 0 => gt l 0
  | k + 1 => if firstP (gt l (k + 1)) (minTo l k) = true then gt l (k + 1) else minTo l k
def minL (l : List Pt) : Pt := minTo l (l.length - 1)
theorem gt_mem {l : List Pt} {k : Nat} (h : k < l.length) : gt l k ∈ l := by
  unfold gt
  rw [List.getD_eq_getElem?_getD, List.getElem?_eq_getElem h]
  exact List.getElem_mem h
theorem minTo_mem {l : List Pt} : ∀ {k : Nat}, k < l.length → minTo l k ∈ l
  | 0, h => gt_mem h
  | k + 1, h => by
    unfold minTo
    split
    · exact gt_mem h
    · exact minTo_mem (by omega)
theorem minTo_le {l : List Pt} : ∀ {k i : Nat}, i ≤ k → leP (minTo l k) (gt l i)
  | 0, i, h => by
    obtain rfl : i = 0 := by omega
    exact leP_refl _
  | k + 1, i, h => by
    unfold minTo
    split
    · rename_i hf
      by_cases e : i = k + 1
      · rw [e]; exact leP_refl _
      · exact leP_trans (.inr (firstPW_iff.1 hf)) (minTo_le (by omega))
    · rename_i hf
      by_cases e : i = k + 1
      · rw [e]
        rcases leP_total (minTo l k) (gt l (k + 1)) with g | g
        · exact g
        · exact absurd (firstPW_iff.2 g) hf
      · exact minTo_le (by omega)
theorem minL_le {l : List Pt} {x : Pt} (h : x ∈ l) : leP (minL l) x := by
  obtain ⟨i, hi, rfl⟩ := List.getElem_of_mem h
  have := minTo_le (l := l) (k := l.length - 1) (i := i) (by omega)
  unfold gt at this
  rw [List.getD_eq_getElem?_getD, List.getElem?_eq_getElem hi] at this
  exact this
theorem minL_mem {l : List Pt} (h : 0 < l.length) : minL l ∈ l := minTo_mem (by omega)
theorem sort_head {l : List Pt} (h : 0 < l.length) : gt (sortR l) 0 = minL l := by
  have hl : (sortR l).length = l.length := (sortR_perm l).length_eq
  have hp := sortR_sorted l
  have hm : minL l ∈ sortR l := (sortR_perm l).mem_iff.2 (minL_mem h)
  cases hs : sortR l with
  | nil => rw [hs] at hl; simp at hl; omega
  | cons x s =>
    rw [hs] at hp hm
    show x = minL l
    have h1 : leP (minL l) x := minL_le ((sortR_perm l).mem_iff.1 (by rw [hs]; exact List.mem_cons_self))
    rcases List.mem_cons.1 hm with e | hm
    · exact e.symm
    · exact leP_anti ((List.pairwise_cons.1 hp).1 _ hm) h1
/-- What the program does: move first, then sort. -/
theorem norm_eq {l s : List Pt} (h : 0 < l.length) (hp : s.Perm (l.map fun p => subP p (minL l))) (hs : s.Pairwise leP) : s = normP l := by
  refine sorted_unique (hp.trans ?_) hs ?_
  · unfold normP
    rw [sort_head h]
    exact ((sortR_perm l).map _).symm
  · unfold normP
    rw [List.pairwise_map]
    exact (sortR_sorted l).imp leP_sub
theorem normP_length (l : List Pt) : (normP l).length = l.length := by unfold normP; rw [List.length_map]; exact (sortR_perm l).length_eq

def rotP (p : Pt) : Pt := (-p.2, p.1)
def flipP (p : Pt) : Pt := (-p.1, p.2)
def rotN (l : List Pt) : Nat → List Pt
  | 0 => l
  | k + 1 => (rotN l k).map rotP
def hasW (out : List (List Pt)) (w : List Pt) : Bool := out.any fun b => decide (w = b)
def addW (out : List (List Pt)) (w : List Pt) : List (List Pt) := if hasW out w = true then out else out ++ [w]
/-- The orientations behind k turns. -/
def turnsTo (l : List Pt) (out : List (List Pt)) : Nat → List (List Pt)
  | 0 => out
  | k + 1 => addW (turnsTo l out k) (normP (rotN l k))
def turnsN (t : Bool) : Nat := if t = true then 4 else 1
def waysL (t f : Bool) (l : List Pt) : List (List Pt) :=
  if f = true then turnsTo (l.map flipP) (turnsTo l [] (turnsN t)) (turnsN t) else turnsTo l [] (turnsN t)
theorem rotN_length (l : List Pt) : ∀ k, (rotN l k).length = l.length
  | 0 => rfl
  | k + 1 => by unfold rotN; rw [List.length_map, rotN_length l k]
/-- Small points stay small. -/
def Sm (l : List Pt) : Prop := ∀ p ∈ l, (-5 ≤ p.1 ∧ p.1 ≤ 5) ∧ (-5 ≤ p.2 ∧ p.2 ≤ 5)
theorem Sm.rot {l : List Pt} (h : Sm l) : Sm (l.map rotP) := fun p hp => by
  obtain ⟨q, hq, rfl⟩ := List.mem_map.1 hp
  have := h q hq
  unfold rotP
  simp only
  omega
theorem Sm.flip {l : List Pt} (h : Sm l) : Sm (l.map flipP) := fun p hp => by
  obtain ⟨q, hq, rfl⟩ := List.mem_map.1 hp
  have := h q hq
  unfold flipP
  simp only
  omega
theorem Sm.rotN {l : List Pt} (h : Sm l) : ∀ k, Sm (rotN l k)
  | 0 => h
  | k + 1 => (h.rotN k).rot
theorem addW_mem {out : List (List Pt)} {w b : List Pt} (h : b ∈ addW out w) : b ∈ out ∨ b = w := by
  unfold addW at h
  split at h
  · exact .inl h
  · rcases List.mem_append.1 h with h | h
    · exact .inl h
    · exact .inr (List.mem_singleton.1 h)
theorem addW_length (out : List (List Pt)) (w : List Pt) : (addW out w).length ≤ out.length + 1 := by
  unfold addW
  split
  · omega
  · simp
theorem turnsTo_length (l : List Pt) (out : List (List Pt)) : ∀ k, (turnsTo l out k).length ≤ out.length + k
  | 0 => Nat.le_refl _
  | k + 1 => by
    have := addW_length (turnsTo l out k) (normP (rotN l k))
    have := turnsTo_length l out k
    show (addW _ _).length ≤ _
    omega
theorem turnsTo_mem {l : List Pt} {out : List (List Pt)} {n : Nat} (hl : l.length = n) (ho : ∀ b ∈ out, b.length = n) : ∀ k, ∀ b ∈ turnsTo l out k, b.length = n
  | 0, b, hb => ho b hb
  | k + 1, b, hb => by
    rcases addW_mem hb with h | rfl
    · exact turnsTo_mem hl ho k b h
    · rw [normP_length, rotN_length, hl]

/-- May a cutter be. -/
def cellB (p : Pt) : Bool := decide ((0 ≤ p.1 ∧ p.1 ≤ 5) ∧ (0 ≤ p.2 ∧ p.2 ≤ 5))
def hasB (l : List Pt) (p : Pt) : Bool := l.any fun q => decide (q = p)
def twiceTo (l : List Pt) (k : Nat) : Bool := (List.range k).any fun i => hasB (l.take i) (gt l i)
def cutterB (l : List Pt) : Bool := decide (1 ≤ l.length ∧ l.length ≤ 6) && l.all cellB && !twiceTo l l.length
theorem twiceTo_succ (l : List Pt) (k : Nat) : twiceTo l (k + 1) = (twiceTo l k || hasB (l.take k) (gt l k)) := by
  unfold twiceTo
  rw [List.range_succ, List.any_append]
  simp
theorem cutterB_sm {l : List Pt} (h : cutterB l = true) : 1 ≤ l.length ∧ l.length ≤ 6 ∧ Sm l := by
  unfold cutterB at h
  simp only [Bool.and_eq_true, decide_eq_true_eq, List.all_eq_true] at h
  refine ⟨h.1.1.1, h.1.1.2, fun p hp => ?_⟩
  have := h.1.2 p hp
  unfold cellB at this
  simp only [decide_eq_true_eq] at this
  omega
end Go.Proofs.YtlekncamokiekaaGreatDoor

/- Plain mathematics of convex hulls: what the chains make, and what wrapping finds. -/
namespace Go.Proofs.YtlekncamokiekaaGreatDoor

def negP (p : Pt) : Pt := (-p.1, -p.2)
theorem negP_negP (p : Pt) : negP (negP p) = p := by unfold negP; simp
theorem negP_inj {p q : Pt} (h : negP p = negP q) : p = q := by rw [← negP_negP p, h, negP_negP]
theorem crossP_neg (a b c : Pt) : crossP (negP a) (negP b) (negP c) = crossP a b c := by unfold crossP cross negP; grind
theorem ltP_neg {a b : Pt} : ltP (negP a) (negP b) ↔ ltP b a := by unfold ltP negP; simp only; omega
theorem leP_neg {a b : Pt} : leP (negP a) (negP b) ↔ leP b a := by
  unfold leP
  rw [ltP_neg]
  constructor
  · rintro (h | h)
    · exact .inl (negP_inj h).symm
    · exact .inr h
  · rintro (h | h)
    · exact .inl (by rw [h])
    · exact .inr h
theorem onP_iff (a b p : Pt) : onP a b p = true ↔ al (b.1 - a.1) (b.2 - a.2) (p.1 - a.1) (p.2 - a.2) = 0 ∧ btw (p.1 - a.1) (b.1 - a.1) ∧ btw (p.2 - a.2) (b.2 - a.2) := by
  have key := on_iff a.1 a.2 (b.1 - a.1) (b.2 - a.2) (p.1 - a.1) (p.2 - a.2)
  rw [show a.1 + (b.1 - a.1) = b.1 by omega, show a.2 + (b.2 - a.2) = b.2 by omega, show a.1 + (p.1 - a.1) = p.1 by omega, show a.2 + (p.2 - a.2) = p.2 by omega] at key
  exact key
theorem onP_neg (a b p : Pt) : onP (negP a) (negP b) (negP p) = onP a b p := by
  rw [Bool.eq_iff_iff, onP_iff, onP_iff]
  unfold negP al btw
  simp only
  rw [show (-b.1 - -a.1) * (-p.2 - -a.2) - (-p.1 - -a.1) * (-b.2 - -a.2) = (b.1 - a.1) * (p.2 - a.2) - (p.1 - a.1) * (b.2 - a.2) by grind]
  omega
theorem LeftOn_neg {a b p : Pt} : LeftOn (negP a) (negP b) (negP p) ↔ LeftOn a b p := by unfold LeftOn; rw [crossP_neg, onP_neg]

theorem popW_neg (x : Pt) : ∀ st : List Pt, popW (negP x) (st.map negP) = (popW x st).map negP
  | [] => rfl
  | [_] => rfl
  | b :: a :: r => by
    have ih := popW_neg x (a :: r)
    simp only [List.map_cons, popW, crossP_neg] at ih ⊢
    split
    · exact ih
    · rfl
theorem chainW_neg (l : List Pt) : chainW (l.map negP) = (chainW l).map negP := by
  have key : ∀ (l st : List Pt), (l.map negP).foldl pushW (st.map negP) = (l.foldl pushW st).map negP := by
    intro l
    induction l with
    | nil => intro st; rfl
    | cons x l ih =>
      intro st
      simp only [List.map_cons, List.foldl_cons]
      rw [← ih]
      congr 1
      unfold pushW
      rw [popW_neg]; rfl
  exact key l []

/-- An edge of the hull. -/
structure Hedge (P : List Pt) (a b : Pt) : Prop where
  ne : a ≠ b
  ok : ∀ p ∈ P, LeftOn a b p
  fst : a ∈ P
  snd : b ∈ P

/-- A chain, forward: from one end to the other. -/
structure Fwd (P L : List Pt) (s t : Pt) : Prop where
  two : 2 ≤ L.length
  first : L[0]? = some s
  last : L[L.length - 1]? = some t
  edge : ∀ i a b, L[i]? = some a → L[i + 1]? = some b → Hedge P a b

theorem edges_at {R : Pt → Pt → Prop} : ∀ {st : List Pt}, (∀ e ∈ edges st, R e.1 e.2) → ∀ j a b, st[j + 1]? = some a → st[j]? = some b → R a b
  | [], _, _, _, _, h, _ => by simp at h
  | [_], _, _, _, _, h, _ => by simp at h
  | y :: x :: r, h, 0, a, b, h1, h2 => by
    obtain rfl : x = a := by simpa using h1
    obtain rfl : y = b := by simpa using h2
    exact h (x, y) (by simp [edges])
  | y :: x :: r, h, j + 1, a, b, h1, h2 =>
    edges_at (st := x :: r) (fun e he => h e (List.mem_cons_of_mem _ he)) j a b (by simpa using h1) (by simpa using h2)

theorem Fwd.of_edges {P st : List Pt} {s t : Pt} {r : List Pt} (h2 : 2 ≤ st.length) (ht : st = t :: r) (hs : st.getLast? = some s) (he : ∀ e ∈ edges st, Hedge P e.1 e.2) : Fwd P st.reverse s t := by
  have hl : st.reverse.length = st.length := List.length_reverse
  refine ⟨by omega, ?_, ?_, fun i a b ha hb => ?_⟩
  · rw [List.getElem?_reverse (by omega), Nat.sub_zero, ← List.getLast?_eq_getElem?]; exact hs
  · rw [hl, List.getElem?_reverse (by omega), show st.length - 1 - (st.length - 1) = 0 by omega, ht]; rfl
  · have hi : i + 1 < st.length := by
      have := (List.getElem?_eq_some_iff.1 hb).1; omega
    rw [List.getElem?_reverse (by omega)] at ha hb
    exact edges_at he (st.length - 1 - (i + 1)) a b (by rw [show st.length - 1 - (i + 1) + 1 = st.length - 1 - i by omega]; exact ha) hb

def hullL (s : List Pt) : List Pt := (chainW s).reverse.dropLast ++ (chainW s.reverse).reverse.dropLast

/-- What a hull is: its points in their order round it. -/
structure Hull (P H : List Pt) (s0 : Pt) : Prop where
  first : gt H 0 = s0
  two : 2 ≤ H.length
  edge : ∀ i, i < H.length → Hedge P (gt H i) (nx H i)
  once : ∀ i, 0 < i → i < H.length → gt H i ≠ s0

theorem gt_of {l : List Pt} {i : Nat} {p : Pt} (h : l[i]? = some p) : gt l i = p := by
  unfold gt; rw [List.getD_eq_getElem?_getD, h]; rfl

theorem Hull.join {P U D : List Pt} {s t : Pt} (hu : Fwd P U s t) (hd : Fwd P D t s) (hu1 : ∀ i a, 0 < i → U[i]? = some a → a ≠ s) (hd1 : ∀ i a, i + 1 < D.length → D[i]? = some a → a ≠ s) : Hull P (U.dropLast ++ D.dropLast) s := by
  have lu := hu.two
  have ld := hd.two
  have hlen : (U.dropLast ++ D.dropLast).length = (U.length - 1) + (D.length - 1) := by simp
  have gu : ∀ i, i < U.length - 1 → (U.dropLast ++ D.dropLast)[i]? = U[i]? := fun i hi => by
    rw [List.getElem?_append_left (by simpa using hi), List.getElem?_dropLast, if_pos hi]
  have gd : ∀ j, j < D.length - 1 → (U.dropLast ++ D.dropLast)[(U.length - 1) + j]? = D[j]? := fun j hj => by
    rw [List.getElem?_append_right (by simp), List.length_dropLast, Nat.add_sub_cancel_left, List.getElem?_dropLast, if_pos hj]
  have some_u : ∀ i, i < U.length → ∃ a, U[i]? = some a := fun i hi => ⟨U[i], List.getElem?_eq_getElem hi⟩
  have some_d : ∀ i, i < D.length → ∃ a, D[i]? = some a := fun i hi => ⟨D[i], List.getElem?_eq_getElem hi⟩
  have f0 : (U.dropLast ++ D.dropLast)[0]? = some s := by rw [gu 0 (by omega)]; exact hu.first
  have nxg : ∀ i, nx (U.dropLast ++ D.dropLast) i = gt (U.dropLast ++ D.dropLast) ((i + 1) % (U.dropLast ++ D.dropLast).length) := fun _ => rfl
  refine ⟨gt_of f0, by omega, fun i hi => ?_, fun i h0 hi => ?_⟩
  · rw [hlen] at hi
    rcases Nat.lt_or_ge i (U.length - 1) with g | g
    · obtain ⟨a, ha⟩ := some_u i (by omega)
      obtain ⟨b, hb⟩ := some_u (i + 1) (by omega)
      have e1 : gt (U.dropLast ++ D.dropLast) i = a := gt_of ((gu i g).trans ha)
      have e2 : nx (U.dropLast ++ D.dropLast) i = b := by
        rw [nxg, hlen, Nat.mod_eq_of_lt (by omega)]
        rcases Nat.lt_or_ge (i + 1) (U.length - 1) with q | q
        · exact gt_of ((gu _ q).trans hb)
        · have : i + 1 = U.length - 1 := by omega
          have h1 := gd 0 (by omega)
          rw [Nat.add_zero, ← this, hd.first] at h1
          rw [this, hu.last] at hb
          rw [gt_of h1]; exact Option.some.inj hb
      rw [e1, e2]
      exact hu.edge i a b ha hb
    · obtain ⟨j, rfl⟩ : ∃ j, i = (U.length - 1) + j := ⟨i - (U.length - 1), by omega⟩
      obtain ⟨a, ha⟩ := some_d j (by omega)
      obtain ⟨b, hb⟩ := some_d (j + 1) (by omega)
      have e1 : gt (U.dropLast ++ D.dropLast) ((U.length - 1) + j) = a := gt_of ((gd j (by omega)).trans ha)
      have e2 : nx (U.dropLast ++ D.dropLast) ((U.length - 1) + j) = b := by
        rw [nxg, hlen]
        rcases Nat.lt_or_ge (j + 1) (D.length - 1) with q | q
        · rw [Nat.mod_eq_of_lt (by omega)]
          exact gt_of ((gd (j + 1) q).trans hb)
        · have hj : j + 1 = D.length - 1 := by omega
          rw [show U.length - 1 + j + 1 = U.length - 1 + (D.length - 1) by omega, Nat.mod_self, gt_of f0]
          rw [hj, hd.last] at hb
          exact Option.some.inj hb
      rw [e1, e2]
      exact hd.edge j a b ha hb
  · rw [hlen] at hi
    rcases Nat.lt_or_ge i (U.length - 1) with g | g
    · obtain ⟨a, ha⟩ := some_u i (by omega)
      rw [gt_of ((gu i g).trans ha)]
      exact hu1 i a h0 ha
    · obtain ⟨j, rfl⟩ : ∃ j, i = (U.length - 1) + j := ⟨i - (U.length - 1), by omega⟩
      obtain ⟨a, ha⟩ := some_d j (by omega)
      rw [gt_of ((gd j (by omega)).trans ha)]
      exact hd1 j a (by omega) ha

/-- Along a chain the points rise. -/
theorem rises {P : List Pt} : ∀ {st : List Pt}, Chn P st → ∀ (j : Nat) (a b : Pt), st[j]? = some b → ∀ i : Nat, j < i → st[i]? = some a → ltP a b
  | [], _, _, _, _, h, _, _, _ => by simp at h
  | [_], _, j, a, b, h, i, hi, h' => by
    have h1 := (List.getElem?_eq_some_iff.1 h').1
    simp at h1; omega
  | y :: x :: r, hc, j, a, b, h, i, hi, h' => by
    obtain ⟨h1, h2, h3, h4⟩ := hc
    obtain ⟨i, rfl⟩ : ∃ i', i = i' + 1 := ⟨i - 1, by omega⟩
    rw [List.getElem?_cons_succ] at h'
    cases j with
    | zero =>
      obtain rfl : y = b := by simpa using h
      cases i with
      | zero =>
        obtain rfl : x = a := by simpa using h'
        exact h2
      | succ i => exact ltP_trans (rises h1 0 a x rfl (i + 1) (by omega) h') h2
    | succ j =>
      rw [List.getElem?_cons_succ] at h
      exact rises h1 j a b h i (by omega) h'

theorem sorted_neg {s : List Pt} (h : s.Pairwise leP) : (s.reverse.map negP).Pairwise leP := by
  rw [List.pairwise_map, List.pairwise_reverse]
  exact h.imp fun hab => leP_neg.2 hab

/-- The chain over a sorted list. -/
theorem chain_sorted {x : Pt} {l : List Pt} (hs : (x :: l).Pairwise leP) :
    ∃ Q, (∀ p, p ∈ Q ↔ p ∈ x :: l) ∧ (Same Q x (chainW (x :: l)) ∨ Good Q x (chainW (x :: l))) := by
  obtain ⟨h1, h2⟩ := List.pairwise_cons.1 hs
  obtain ⟨Q, hQ, hr⟩ := chain_ok l [x] x [x] (.inl ⟨by simp, by simp, .inl rfl⟩) (fun p hp y hy => by
    have : p = x := by simpa using hp
    subst this; exact h1 y hy) h2 (by simp)
  exact ⟨Q, fun p => by rw [hQ]; simp, hr⟩

theorem hedge_same {P Q : List Pt} (h : ∀ p, p ∈ Q ↔ p ∈ P) {a b : Pt} (k : Hedge Q a b) : Hedge P a b :=
  ⟨k.ne, fun p hp => k.ok p ((h p).2 hp), (h a).1 k.fst, (h b).1 k.snd⟩

/-- THE HULL OF SORTED POINTS. -/
theorem hull_ok {x : Pt} {l : List Pt} (hs : (x :: l).Pairwise leP) :
    ((∀ p ∈ x :: l, p = x) ∧ (hullL (x :: l)).length ≤ 2) ∨ Hull (x :: l) (hullL (x :: l)) x := by
  obtain ⟨Q, hQ, hr⟩ := chain_sorted hs
  obtain ⟨h1, h2⟩ := List.pairwise_cons.1 hs
  have hlow : ∀ p ∈ x :: l, leP x p := fun p hp => by
    rcases List.mem_cons.1 hp with rfl | hp
    · exact leP_refl _
    · exact h1 p hp
  cases hrev : (x :: l).reverse with
  | nil => simp at hrev
  | cons y m =>
    have hmem : ∀ p, p ∈ y :: m ↔ p ∈ x :: l := fun p => by rw [← hrev]; exact List.mem_reverse
    have hns := sorted_neg hs
    rw [hrev, List.map_cons] at hns
    obtain ⟨R, hR, hr2⟩ := chain_sorted hns
    rw [← List.map_cons, chainW_neg] at hr2
    have hR2 : ∀ p, negP p ∈ R ↔ p ∈ x :: l := fun p => by
      rw [hR, ← List.map_cons, List.mem_map]
      constructor
      · rintro ⟨q, hq, e⟩
        rw [← negP_inj e]; exact (hmem q).1 hq
      · intro h; exact ⟨p, (hmem p).2 h, rfl⟩
    have hhigh : ∀ p ∈ x :: l, leP p y := fun p hp => by
      have := (List.pairwise_cons.1 hns).1
      rcases List.mem_cons.1 ((hmem p).2 hp) with e | e
      · rw [e]; exact leP_refl _
      · exact leP_neg.1 (this (negP p) (List.mem_map.2 ⟨p, e, rfl⟩))
    have hy : y ∈ x :: l := (hmem y).1 (by simp)
    unfold hullL
    rw [hrev]
    rcases hr with hr | hr
    · left
      have hall : ∀ p ∈ x :: l, p = x := fun p hp => hr.1 p ((hQ p).2 hp)
      refine ⟨hall, ?_⟩
      have l1 : (chainW (x :: l)).length ≤ 2 := by rcases hr.2.2 with e | e <;> rw [e] <;> simp
      have l2 : (chainW (y :: m)).length ≤ 2 := by
        rcases hr2 with hr2 | hr2
        · have : ((chainW (y :: m)).map negP).length ≤ 2 := by rcases hr2.2.2 with e | e <;> rw [e] <;> simp
          simpa using this
        · exfalso
          have t2 := hr2.two
          have c := hr2.chn
          match hst : (chainW (y :: m)).map negP, c with
          | [], _ => rw [hst] at t2; simp at t2
          | [_], _ => rw [hst] at t2; simp at t2
          | b :: a :: r, c =>
            have sb := hr2.sub
            rw [hst] at sb
            have ea := hall (negP a) ((hR2 _).1 (by rw [negP_negP]; exact sb a (by simp)))
            have eb := hall (negP b) ((hR2 _).1 (by rw [negP_negP]; exact sb b (by simp)))
            have := c.2.1
            rw [negP_inj (ea.trans eb.symm)] at this
            exact ltP_irrefl _ this
      simp only [List.length_append, List.length_dropLast, List.length_reverse]
      omega
    · right
      obtain ⟨t, r, ht, htop⟩ := hr.top
      have hin := hr.sub
      have tty : t = y := leP_anti (hhigh t ((hQ t).1 (hin t (by rw [ht]; simp)))) (htop y ((hQ y).2 hy))
      have hu : Fwd (x :: l) (chainW (x :: l)).reverse x y := by
        refine Fwd.of_edges (r := r) hr.two (by rw [ht, tty]) hr.last fun e he => ?_
        obtain ⟨k1, k2⟩ := chn_edges hr.chn e he
        obtain ⟨k3, k4⟩ := edges_mem he
        exact ⟨fun q => ltP_irrefl _ (q ▸ k1), fun p hp => k2 p ((hQ p).2 hp), (hQ _).1 (hin _ k3), (hQ _).1 (hin _ k4)⟩
      have hr3 : Good R (negP y) ((chainW (y :: m)).map negP) := by
        rcases hr2 with hr2 | hr2
        · exfalso
          have hall : ∀ p ∈ x :: l, p = y := fun p hp => negP_inj (hr2.1 _ ((hR2 p).2 hp))
          have c := hr.chn
          match hst : chainW (x :: l), c with
          | [], _ => have := hr.two; rw [hst] at this; simp at this
          | [_], _ => have := hr.two; rw [hst] at this; simp at this
          | b :: a :: r, c =>
            rw [hst] at hin
            have ea := hall a ((hQ a).1 (hin a (by simp)))
            have eb := hall b ((hQ b).1 (hin b (by simp)))
            have := c.2.1
            rw [ea, eb] at this
            exact ltP_irrefl _ this
        · exact hr2
      have ed : ∀ e ∈ edges ((chainW (y :: m)).map negP), Hedge (x :: l) (negP e.1) (negP e.2) := fun e he => by
        obtain ⟨k1, k2⟩ := chn_edges hr3.chn e he
        obtain ⟨k3, k4⟩ := edges_mem he
        refine ⟨fun q => ltP_irrefl _ ((negP_inj q) ▸ k1), fun p hp => ?_, (hR2 _).1 (by rw [negP_negP]; exact hr3.sub _ k3), (hR2 _).1 (by rw [negP_negP]; exact hr3.sub _ k4)⟩
        have := k2 (negP p) ((hR2 p).2 hp)
        rw [← LeftOn_neg, negP_negP, negP_negP]
        exact this
      obtain ⟨t', r', ht', htop'⟩ := hr3.top
      have tx : negP t' = x := by
        have g1 : t' ∈ R := hr3.sub t' (by rw [ht']; simp)
        have g2 : negP t' ∈ x :: l := (hR2 _).1 (by rw [negP_negP]; exact g1)
        have g3 := htop' (negP x) ((hR2 x).2 (by simp))
        rw [← negP_negP t', leP_neg] at g3
        exact leP_anti g3 (hlow _ g2)
      have hd0 : Fwd (x :: l) (chainW (y :: m)).reverse y x := by
        have l2 : 2 ≤ (chainW (y :: m)).length := by simpa using hr3.two
        cases hst : chainW (y :: m) with
        | nil => rw [hst] at l2; simp at l2
        | cons b r2 =>
          have e1 : b = x := by
            have : negP b = t' := by rw [hst] at ht'; simpa using (List.cons.inj ht').1
            rw [← tx, ← this, negP_negP]
          have elast : (b :: r2).getLast? = some y := by
            have := hr3.last
            rw [hst, List.getLast?_map] at this
            cases e : (b :: r2).getLast? with
            | none => rw [e] at this; cases this
            | some q => rw [e] at this; rw [negP_inj (Option.some.inj this)]
          refine Fwd.of_edges (r := r2) (by rw [← hst]; exact l2) (by rw [e1]) elast fun e he => ?_
          have em : ∀ (st : List Pt) (e : Pt × Pt), e ∈ edges st → (negP e.1, negP e.2) ∈ edges (st.map negP) := by
            intro st
            induction st with
            | nil => intro e h; cases h
            | cons b st ih =>
              intro e h
              cases st with
              | nil => cases h
              | cons a st =>
                rcases List.mem_cons.1 h with rfl | h
                · simp [edges]
                · have := ih e h
                  simp only [List.map_cons] at this ⊢
                  exact List.mem_cons_of_mem _ this
          have := ed _ (by rw [hst]; exact em _ e he)
          simpa only [negP_negP] using this
      refine Hull.join hu hd0 (fun i a h0 ha => ?_) (fun i a hi ha => ?_)
      · have hl : (chainW (x :: l)).reverse.length = (chainW (x :: l)).length := List.length_reverse
        have hi : i < (chainW (x :: l)).length := by have := (List.getElem?_eq_some_iff.1 ha).1; omega
        rw [List.getElem?_reverse hi] at ha
        have hlast := hr.last
        rw [List.getLast?_eq_getElem?] at hlast
        intro e
        rw [e] at ha
        exact ltP_irrefl _ (rises hr.chn _ x x ha ((chainW (x :: l)).length - 1) (by omega) hlast)
      · have hl : (chainW (y :: m)).reverse.length = (chainW (y :: m)).length := List.length_reverse
        rw [hl] at hi
        rw [List.getElem?_reverse (by omega)] at ha
        intro e
        have hch := hr3.chn
        have h0 : ((chainW (y :: m)).map negP)[0]? = some t' := by rw [ht']; rfl
        have hj : ((chainW (y :: m)).map negP)[(chainW (y :: m)).length - 1 - i]? = some (negP a) := by rw [List.getElem?_map, ha]; rfl
        have := rises hch 0 (negP a) t' h0 _ (by omega) hj
        rw [e, ← tx, negP_negP] at this
        exact ltP_irrefl _ this

end Go.Proofs.YtlekncamokiekaaGreatDoor

/- Plain mathematics of convex hulls: what wrapping finds; points on one line. -/
namespace Go.Proofs.YtlekncamokiekaaGreatDoor

theorem crossP_swap (a b c : Pt) : crossP a b c = - crossP a c b := by unfold crossP cross; grind
theorem on_both {a t p : Pt} (h1 : onP a t p = true) (h2 : onP a p t = true) : p = t := by
  rw [onP_iff] at h1 h2
  obtain ⟨x, y⟩ := p
  obtain ⟨u, v⟩ := t
  unfold btw at h1 h2
  simp only [Prod.mk.injEq] at *
  omega

/-- One step of wrapping: the point where the next edge may end. -/
def wrapStep (at_ cur p : Pt) : Pt :=
  if p = at_ then cur else if cur = at_ ∨ crossP at_ cur p < 0 ∨ (crossP at_ cur p = 0 ∧ onP at_ p cur = true) then p else cur
def wrap (at_ : Pt) (l : List Pt) : Pt := l.foldl (wrapStep at_) at_

theorem wrap_keep {at_ t p : Pt} (hne : at_ ≠ t) (h : LeftOn at_ t p) : wrapStep at_ t p = t := by
  unfold wrapStep
  split
  · rfl
  · split
    · rename_i h1 h2
      rcases h2 with h2 | h2 | ⟨h2, h3⟩
      · exact absurd h2.symm hne
      · have := h.nonneg; omega
      · rcases h with h | h
        · omega
        · exact on_both h h3
    · rfl
theorem wrap_take {at_ t cur : Pt} (hne : at_ ≠ t) (h : cur = at_ ∨ LeftOn at_ t cur) : wrapStep at_ cur t = t := by
  unfold wrapStep
  rw [if_neg (fun e => hne e.symm), if_pos]
  rcases h with h | h
  · exact .inl h
  · have e := crossP_swap at_ cur t
    rcases h with h | h
    · exact .inr (.inl (by omega))
    · exact .inr (.inr ⟨by have := onP_cross h; omega, h⟩)
theorem wrap_fold {P : List Pt} {at_ t : Pt} (he : Hedge P at_ t) : ∀ (l : List Pt) (cur : Pt), (∀ p ∈ l, p ∈ P) → (cur = at_ ∨ cur ∈ P) → (t ∈ l ∨ cur = t) → l.foldl (wrapStep at_) cur = t
  | [], cur, _, _, h => by
    rcases h with h | h
    · cases h
    · exact h
  | p :: l, cur, hl, hcur, h => by
    rw [List.foldl_cons]
    have hp : p ∈ P := hl p (by simp)
    have hl' : ∀ q ∈ l, q ∈ P := fun q hq => hl q (List.mem_cons_of_mem _ hq)
    by_cases e : cur = t
    · rw [e, wrap_keep he.ne (he.ok p hp)]
      exact wrap_fold he l t hl' (.inr he.snd) (.inr rfl)
    · by_cases e2 : p = t
      · rw [e2, wrap_take he.ne (hcur.imp id (fun h => he.ok cur h))]
        exact wrap_fold he l t hl' (.inr he.snd) (.inr rfl)
      · have ht : t ∈ l := by
          rcases h with h | h
          · rcases List.mem_cons.1 h with h | h
            · exact absurd h.symm e2
            · exact h
          · exact absurd h e
        refine wrap_fold he l _ hl' ?_ (.inl ht)
        unfold wrapStep
        split
        · exact hcur
        · split
          · exact .inr hp
          · exact hcur
theorem wrap_edge {P : List Pt} {at_ t : Pt} (he : Hedge P at_ t) : wrap at_ P = t :=
  wrap_fold he P at_ (fun _ h => h) (.inl rfl) (.inl he.snd)

/-- All points lie on one line. -/
def Flat (P : List Pt) (o : Pt) : Prop := ∀ a ∈ P, ∀ b ∈ P, crossP o a b = 0
theorem Flat.all {P : List Pt} {o : Pt} (h : Flat P o) {a b c : Pt} (ha : a ∈ P) (hb : b ∈ P) (hc : c ∈ P) : crossP a b c = 0 := by
  have e : crossP a b c = crossP o a b + crossP o b c + crossP o c a := by unfold crossP cross; grind
  rw [e, h a ha b hb, h b hb c hc, h c hc a ha]; omega

theorem line_all {a b p q r : Pt} (hne : a ≠ b) (hp : crossP a b p = 0) (hq : crossP a b q = 0) (hr : crossP a b r = 0) : crossP p q r = 0 := by
  have key : ∀ (u v : Pt), xr (subP b a) u = 0 → xr (subP b a) v = 0 → xr u v = 0 := by
    intro u v h1 h2
    have e1 : (subP b a).1 * xr u v = u.1 * xr (subP b a) v - v.1 * xr (subP b a) u := by unfold xr; grind
    have e2 : (subP b a).2 * xr u v = u.2 * xr (subP b a) v - v.2 * xr (subP b a) u := by unfold xr; grind
    rw [h1, h2] at e1 e2
    simp only [Int.mul_zero, Int.sub_self] at e1 e2
    rcases Int.mul_eq_zero.1 e1 with g | g
    · rcases Int.mul_eq_zero.1 e2 with k | k
      · exfalso; apply hne
        obtain ⟨ax, ay⟩ := a
        obtain ⟨bx, by'⟩ := b
        unfold subP at g k
        simp only [Prod.mk.injEq] at *
        omega
      · exact k
    · exact g
  rw [crossP_xr] at hp hq hr ⊢
  have e1 : xr (subP b a) (subP q p) = xr (subP b a) (subP q a) - xr (subP b a) (subP p a) := by unfold xr subP; grind
  have e2 : xr (subP b a) (subP r p) = xr (subP b a) (subP r a) - xr (subP b a) (subP p a) := by unfold xr subP; grind
  exact key _ _ (by omega) (by omega)

theorem gt_nx {H : List Pt} {i : Nat} (h : i + 1 < H.length) : nx H i = gt H (i + 1) := by
  show gt H ((i + 1) % H.length) = _
  rw [Nat.mod_eq_of_lt h]

/-- A hull has three points or more exactly if its points are not on one line. -/
theorem hull_flat {P H : List Pt} {s0 o : Pt} (h : Hull P H s0) (ho : o ∈ P) : Flat P o ↔ H.length < 3 := by
  have two := h.two
  constructor
  · intro hf
    rcases Nat.lt_or_ge H.length 3 with g | g
    · exact g
    · exfalso
      have e0 := h.edge 0 (by omega)
      have e1 := h.edge 1 (by omega)
      rw [gt_nx (by omega)] at e0 e1
      have k0 := hf.all e0.fst e0.snd e1.snd
      have k1 := hf.all e1.fst e1.snd e0.fst
      have o0 : onP (gt H 0) (gt H 1) (gt H 2) = true := by
        rcases e0.ok _ e1.snd with q | q
        · have q' : 0 < crossP (gt H 0) (gt H 1) (gt H 2) := q
          have k0' : crossP (gt H 0) (gt H (0 + 1)) (gt H (1 + 1)) = 0 := k0
          simp only [Nat.zero_add] at k0'
          omega
        · exact q
      have o1 : onP (gt H 1) (gt H 2) (gt H 0) = true := by
        rcases e1.ok _ e0.fst with q | q
        · have q' : 0 < crossP (gt H 1) (gt H 2) (gt H 0) := q
          have k1' : crossP (gt H 1) (gt H (1 + 1)) (gt H 0) = 0 := k1
          omega
        · exact q
      have hne := h.once 2 (by omega) (by omega)
      apply hne
      rw [← h.first]
      rw [onP_iff] at o0 o1
      generalize gt H 0 = a at *
      generalize gt H 1 = b at *
      generalize gt H 2 = c at *
      obtain ⟨a1, a2⟩ := a
      obtain ⟨b1, b2⟩ := b
      obtain ⟨c1, c2⟩ := c
      unfold btw at o0 o1
      simp only [Prod.mk.injEq] at *
      omega
  · intro hl
    have hl2 : H.length = 2 := by omega
    have e0 := h.edge 0 (by omega)
    have e1 := h.edge 1 (by omega)
    have n0 : nx H 0 = gt H 1 := gt_nx (by omega)
    have n1 : nx H 1 = gt H 0 := by show gt H ((1 + 1) % H.length) = _; rw [hl2]
    rw [n0] at e0
    rw [n1] at e1
    have z : ∀ p ∈ P, crossP (gt H 0) (gt H 1) p = 0 := fun p hp => by
      have a1 := (e0.ok p hp).nonneg
      have a2 := (e1.ok p hp).nonneg
      have : crossP (gt H 1) (gt H 0) p = - crossP (gt H 0) (gt H 1) p := by unfold crossP cross; grind
      omega
    intro a ha b hb
    exact line_all e0.ne (z o ho) (z a ha) (z b hb)

theorem flat_one {P : List Pt} {x o : Pt} (h : ∀ p ∈ P, p = x) (ho : o ∈ P) : Flat P o := fun a ha b hb => by
  rw [h a ha, h b hb, h o ho]; unfold crossP cross; grind

theorem Hedge.mem {P Q : List Pt} (h : ∀ p, p ∈ Q ↔ p ∈ P) {a b : Pt} (k : Hedge P a b) : Hedge Q a b :=
  ⟨k.ne, fun p hp => k.ok p ((h p).1 hp), (h a).2 k.fst, (h b).2 k.snd⟩
theorem Hull.mem {P Q H : List Pt} {s0 : Pt} (h : ∀ p, p ∈ Q ↔ p ∈ P) (k : Hull P H s0) : Hull Q H s0 :=
  ⟨k.first, k.two, fun i hi => (k.edge i hi).mem h, k.once⟩

/-- Points in their order, from below and then from the left. -/
def leB (a b : Pt) : Bool := decide (a.2 < b.2) || (decide (a.2 = b.2) && decide (a.1 ≤ b.1))
theorem leB_iff {a b : Pt} : leB a b = true ↔ leP a b := by
  obtain ⟨x, y⟩ := a
  obtain ⟨u, v⟩ := b
  unfold leB leP ltP
  simp only [Bool.or_eq_true, Bool.and_eq_true, decide_eq_true_eq, Prod.mk.injEq]
  omega

end Go.Proofs.YtlekncamokiekaaGreatDoor

/- Points in slices of a call's own, which grow by append; the law's cut. -/
namespace Go.Proofs.YtlekncamokiekaaGreatDoor
open Go.RowKit Go.Sort
attribute [local go_sem ↓] run_min_mn run_max_mx

def ptsV : List Pt → List Value
  | [] => []
  | p :: l => .int .i64 p.1 :: .int .i64 p.2 :: ptsV l
theorem ptsV_length : ∀ l, (ptsV l).length = l.length * 2
  | [] => rfl
  | p :: l => by simp only [ptsV, List.length_cons, ptsV_length l]; omega
theorem ptsV_append : ∀ a b, ptsV (a ++ b) = ptsV a ++ ptsV b
  | [], _ => rfl
  | p :: a, b => by simp only [ptsV, List.cons_append, ptsV_append a b]
theorem ptsV_get : ∀ (l : List Pt) (i : Nat) (p : Pt), l[i]? = some p → (ptsV l)[i * 2]? = some (.int .i64 p.1) ∧ (ptsV l)[i * 2 + 1]? = some (.int .i64 p.2)
  | [], _, _, h => by simp at h
  | q :: l, 0, p, h => by
    obtain rfl : q = p := by simpa using h
    exact ⟨rfl, rfl⟩
  | q :: l, i + 1, p, h => by
    have := ptsV_get l i p (by simpa using h)
    rw [show (i + 1) * 2 = i * 2 + 1 + 1 by omega]
    simpa only [ptsV, List.getElem?_cons_succ] using this
theorem ptsV_cell : ∀ (l : List Pt), ∀ u ∈ ptsV l, u.oneCell' = true
  | [], u, h => by cases h
  | p :: l, u, h => by
    simp only [ptsV, List.mem_cons] at h
    rcases h with rfl | rfl | h
    · rfl
    · rfl
    · exact ptsV_cell l u h
theorem ptsV_at {w : World} {b : Nat} : ∀ (l : List Pt) (off : Nat), PtsIn w b off l → ∀ j u, (ptsV l)[j]? = some u → w.cell? ⟨b, off + j, none⟩ = some u
  | [], _, _, _, _, h => by simp [ptsV] at h
  | p :: l, off, hp, 0, u, h => by
    have := (hp 0 p rfl).1
    obtain rfl : Value.int .i64 p.1 = u := by simpa [ptsV] using h
    simpa using this
  | p :: l, off, hp, 1, u, h => by
    have := (hp 0 p rfl).2
    obtain rfl : Value.int .i64 p.2 = u := by simpa [ptsV] using h
    simpa using this
  | p :: l, off, hp, j + 2, u, h => by
    have hq : PtsIn w b (off + 2) l := fun i q hq => by
      have := hp (i + 1) q (by simpa using hq)
      rw [show off + (i + 1) * 2 = off + 2 + i * 2 by omega] at this
      exact this
    have := ptsV_at l (off + 2) hq j u (by simpa [ptsV] using h)
    rw [show off + (j + 2) = off + 2 + j by omega]
    exact this

theorem PtsIn.take {w : World} {b off : Nat} {l : List Pt} (h : PtsIn w b off l) (k : Nat) : PtsIn w b off (l.take k) := fun i p hp => by
  rw [List.getElem?_take] at hp
  split at hp
  · exact h i p hp
  · cases hp
theorem PtsAt.take {w : World} {A : Option Addr} {l : List Pt} (h : PtsAt w A l) (k : Nat) : PtsAt w A (l.take k) := fun hne => by
  obtain ⟨b, off, e, hlt, hc⟩ := h (by intro e; subst e; simp at hne)
  exact ⟨b, off, e, hlt, hc.take k⟩

/-- A slice of the call's own: blocks from base on. -/
def PtsOwn (w : World) (base : Nat) (v : Value) (l : List Pt) : Prop := w.ownsRow base 41 2 v l.length (ptsV l)

theorem PtsOwn.slice {w : World} {base : Nat} {v : Value} {l : List Pt} (h : PtsOwn w base v l) :
    ∃ A c, v = .slice A l.length c ∧ l.length ≤ c ∧ PtsAt w A l ∧ (∀ a, A = some a → base ≤ a.block) := by
  rcases h.2 with ⟨rfl, hn⟩ | ⟨g, cap, cur, rfl, hb, hg, hnc, _, hsz, ht⟩
  · refine ⟨none, 0, by rw [hn], by omega, fun hne => absurd (List.eq_nil_of_length_eq_zero hn) hne, fun a ha => by cases ha⟩
  · refine ⟨_, cap, rfl, hnc, fun _ => ⟨g, 0, rfl, (Array.getElem?_eq_some_iff.1 hg).1, fun i p hp => ?_⟩, fun a ha => by cases ha; exact hb⟩
    obtain ⟨h1, h2⟩ := ptsV_get l i p hp
    rw [← ht, List.getElem?_take] at h1 h2
    constructor
    · rw [Nat.zero_add, cell_of_row w g _ cur _ (0, 0) hg]
      split at h1
      · simpa using h1
      · cases h1
    · rw [Nat.zero_add, cell_of_row w g _ cur _ (0, 0) hg]
      split at h2
      · simpa using h2
      · cases h2

theorem PtsOwn.empty (w : World) : PtsOwn (w.alloc (.cells #[] 41)) w.heap.size (.slice (some ⟨w.heap.size, 0, none⟩) 0 0) [] :=
  World.ownsRow_made w #[] 0 (Nat.le_refl _) (by simp [maxLen]) rfl

theorem info_pt : (Tryz.prog.info? 41).map (fun i => (i.zero, i.size, i.bytes)) = some (some (.agg #[.int .i64 0, .int .i64 0]), 2, 16) := by kernel_rfl
theorem info_pparts {o : Option TypeInfo} {z : Value} {s b : Nat} (h : o.map (fun i => (i.zero, i.size, i.bytes)) = some (some z, s, b)) : ∃ i, o = some i ∧ i.zero = some z ∧ i.size = s ∧ i.bytes = b := by
  cases o with
  | none => cases h
  | some i =>
    have e : (i.zero, i.size, i.bytes) = (some z, s, b) := by simpa using h
    simp only [Prod.mk.injEq] at e
    exact ⟨i, rfl, e.1, e.2.1, e.2.2⟩

/-- An append. -/
theorem papp_run {w : World} {base : Nat} {v : Value} {xs ys : List Pt} (h : PtsOwn w base v xs) {A : Option Addr} (c : Nat) (hy : PtsAt w A ys) (hlen : xs.length + ys.length ≤ 100000) (hb : base ≤ w.heap.size) (ty : TypeId) :
    ∃ v' w', (Builtin.append_ #[22, 22] ty #[v, .slice A ys.length c]).run Tryz.prog w = .ok v' w' ∧ PtsOwn w' base v' (xs ++ ys) ∧ w.grownBy w' v.ownBlock ∧
      (v'.ownBlock = v.ownBlock ∨ v'.ownBlock = some w.heap.size) := by
  obtain ⟨i0, hi0, hz0, hz1, hz2⟩ := info_pparts info_pt
  have e2 : (xs ++ ys).length = xs.length + ys.length := by simp
  have fin : ∀ ad : Addr, A = some ad → (∀ j u, (ptsV ys)[j]? = some u → w.cell? (ad.add j) = some u) →
      ∃ v' w', (Builtin.append_ #[22, 22] ty #[v, .slice A ys.length c]).run Tryz.prog w = .ok v' w' ∧ PtsOwn w' base v' (xs ++ ys) ∧ w.grownBy w' v.ownBlock ∧ (v'.ownBlock = v.ownBlock ∨ v'.ownBlock = some w.heap.size) := by
    intro ad e hc
    subst e
    obtain ⟨v', w', hr, h2, h3, _, h5⟩ := run_append_own_at (P := Tryz.prog) w base 22 ty 41 i0 _ 2 16 Tryz.underlying22 hi0 hz0 hz1 hz2 rfl (by omega) v xs.length (ptsV xs) h ad ys.length c (ptsV ys) (ptsV_length ys) hc (ptsV_cell ys) (by simp [maxLen]; omega) (by omega) hb
    exact ⟨v', w', hr, by unfold PtsOwn; rw [e2, ptsV_append]; exact h2, h3, h5⟩
  cases ys with
  | nil =>
    cases A with
    | none =>
      refine ⟨v, w, ?_, by simpa using h, World.grownBy.refl w _, .inl rfl⟩
      rcases h.2 with ⟨rfl, hn⟩ | ⟨g, cap, cur, rfl, _, _, hnc, _⟩
      · simp [Builtin.append_, run_underlying Tryz.underlying22, sizeOf, typeInfo, hi0, Builtin.lenOf, Builtin.firstCells]
      · simp [Builtin.append_, run_underlying Tryz.underlying22, sizeOf, typeInfo, hi0, Builtin.lenOf, Builtin.firstCells, hnc, storeCells]
    | some ad => exact fin ad rfl (fun j u hu => by simp [ptsV] at hu)
  | cons y ys =>
    obtain ⟨b, off, rfl, _, hc⟩ := hy (by simp)
    refine fin _ rfl fun j u hu => ?_
    have e : (⟨b, off, none⟩ : Addr).add j = ⟨b, off + j, none⟩ := by unfold Addr.add; split <;> simp_all
    rw [e]
    exact ptsV_at _ _ hc j u hu

theorem wpList_papp {w : World} {ops : Array Oper} {rest : List Oper} {o : Oper} {a : Act} {Q : Exit → Act → World → Prop} (hgd : o.guard = none) (s x : Operand)
    (ho : o.op = .call { callee := .builtin .append, args := #[s, x], argTypes := #[22, 22] }) (base : Nat) (v : Value) (xs ys : List Pt) (A : Option Addr) (m c : Nat)
    (hs : a.eval s = v) (hx : a.eval x = .slice A m c) (hown : PtsOwn w base v xs) (hm : ys.length = m) (hy : PtsAt w A ys) (hlen : xs.length + ys.length ≤ 100000) (hb : base ≤ w.heap.size)
    (h : ∀ v' w', PtsOwn w' base v' (xs ++ ys) → w.grownBy w' v.ownBlock → (v'.ownBlock = v.ownBlock ∨ v'.ownBlock = some w.heap.size) → wpList Tryz.prog ops Q rest (a.put o.dst v') w') : wpList Tryz.prog ops Q (o :: rest) a w :=
  wpList_plain hgd fun _ hK => by
    subst hm
    obtain ⟨v', w', hr, h2, h3, h4⟩ := papp_run hown c hy hlen hb o.type
    unfold Oper.wp execOp
    simp only [ho, resolve, invoke, builtin, Sem.run_bind, Sem.run_pure, Result.andThen_ok, List.map_toArray, List.map_cons, List.map_nil, hs, hx, hr]
    exact hK _ _ (h v' w' h2 h3 h4)
end Go.Proofs.YtlekncamokiekaaGreatDoor
