/- turnsBack: have two edges more in common than their corner? -/
import Derived.Test.YtnijcdphmibjaaaDevBox
import Derived.Test.YtnijcdphmibjaaaArea
namespace Go.Proofs.Ytnijcdphmibjaaa
open Go.RowKit Go.Sort
attribute [local go_sem ↓] run_min_mn run_max_mx

section
variable {wr W w' : World} {N b : Nat} {v1 v2 v3 v4 v5 v6 : Value} {a c : Nat}
/-- Three points stay. -/
theorem keep3_call (p : Below wr.heap.size wr W ∧ W.cell? ⟨a, 0, none⟩ = some v1 ∧ W.cell? ⟨a, 1, none⟩ = some v2 ∧ W.cell? ⟨b, 0, none⟩ = some v3 ∧ W.cell? ⟨b, 1, none⟩ = some v4 ∧ W.cell? ⟨c, 0, none⟩ = some v5 ∧ W.cell? ⟨c, 1, none⟩ = some v6)
    (hB : a < wr.heap.size ∧ b < wr.heap.size ∧ c < wr.heap.size) (hb : Below W.heap.size W w') :
    Below wr.heap.size wr w' ∧ w'.cell? ⟨a, 0, none⟩ = some v1 ∧ w'.cell? ⟨a, 1, none⟩ = some v2 ∧ w'.cell? ⟨b, 0, none⟩ = some v3 ∧ w'.cell? ⟨b, 1, none⟩ = some v4 ∧ w'.cell? ⟨c, 0, none⟩ = some v5 ∧ w'.cell? ⟨c, 1, none⟩ = some v6 := by
  have hs := p.1.size
  obtain ⟨p0, p1, p2, p3, p4, p5, p6⟩ := p
  obtain ⟨h1, h2, h3⟩ := hB
  exact ⟨p0.trans (hb.mono hs), (hb.cell (p := ⟨a, _, none⟩) (Nat.lt_of_lt_of_le h1 hs)).trans p1, (hb.cell (p := ⟨a, _, none⟩) (Nat.lt_of_lt_of_le h1 hs)).trans p2,
    (hb.cell (p := ⟨b, _, none⟩) (Nat.lt_of_lt_of_le h2 hs)).trans p3, (hb.cell (p := ⟨b, _, none⟩) (Nat.lt_of_lt_of_le h2 hs)).trans p4,
    (hb.cell (p := ⟨c, _, none⟩) (Nat.lt_of_lt_of_le h3 hs)).trans p5, (hb.cell (p := ⟨c, _, none⟩) (Nat.lt_of_lt_of_le h3 hs)).trans p6⟩
theorem keep3_alloc (p : Below wr.heap.size wr W ∧ W.cell? ⟨a, 0, none⟩ = some v1 ∧ W.cell? ⟨a, 1, none⟩ = some v2 ∧ W.cell? ⟨b, 0, none⟩ = some v3 ∧ W.cell? ⟨b, 1, none⟩ = some v4 ∧ W.cell? ⟨c, 0, none⟩ = some v5 ∧ W.cell? ⟨c, 1, none⟩ = some v6)
    (hB : a < wr.heap.size ∧ b < wr.heap.size ∧ c < wr.heap.size) (o : Obj) :
    Below wr.heap.size wr (W.alloc o) ∧ (W.alloc o).cell? ⟨a, 0, none⟩ = some v1 ∧ (W.alloc o).cell? ⟨a, 1, none⟩ = some v2 ∧ (W.alloc o).cell? ⟨b, 0, none⟩ = some v3 ∧ (W.alloc o).cell? ⟨b, 1, none⟩ = some v4 ∧ (W.alloc o).cell? ⟨c, 0, none⟩ = some v5 ∧ (W.alloc o).cell? ⟨c, 1, none⟩ = some v6 :=
  keep3_call p hB ((Below.refl _ _).alloc (Nat.le_refl _) o)
theorem keep3_drew (p : Below wr.heap.size wr W ∧ W.cell? ⟨a, 0, none⟩ = some v1 ∧ W.cell? ⟨a, 1, none⟩ = some v2 ∧ W.cell? ⟨b, 0, none⟩ = some v3 ∧ W.cell? ⟨b, 1, none⟩ = some v4 ∧ W.cell? ⟨c, 0, none⟩ = some v5 ∧ W.cell? ⟨c, 1, none⟩ = some v6) :
    Below wr.heap.size wr W.drew ∧ W.drew.cell? ⟨a, 0, none⟩ = some v1 ∧ W.drew.cell? ⟨a, 1, none⟩ = some v2 ∧ W.drew.cell? ⟨b, 0, none⟩ = some v3 ∧ W.drew.cell? ⟨b, 1, none⟩ = some v4 ∧ W.drew.cell? ⟨c, 0, none⟩ = some v5 ∧ W.drew.cell? ⟨c, 1, none⟩ = some v6 :=
  ⟨p.1.drew, p.2⟩
theorem keep3_set (p : Below wr.heap.size wr W ∧ W.cell? ⟨a, 0, none⟩ = some v1 ∧ W.cell? ⟨a, 1, none⟩ = some v2 ∧ W.cell? ⟨b, 0, none⟩ = some v3 ∧ W.cell? ⟨b, 1, none⟩ = some v4 ∧ W.cell? ⟨c, 0, none⟩ = some v5 ∧ W.cell? ⟨c, 1, none⟩ = some v6)
    (hB : a < wr.heap.size ∧ b < wr.heap.size ∧ c < wr.heap.size) (q : Addr) (hq : wr.heap.size ≤ q.block) (u : Value) :
    Below wr.heap.size wr (W.setCell q u) ∧ (W.setCell q u).cell? ⟨a, 0, none⟩ = some v1 ∧ (W.setCell q u).cell? ⟨a, 1, none⟩ = some v2 ∧ (W.setCell q u).cell? ⟨b, 0, none⟩ = some v3 ∧ (W.setCell q u).cell? ⟨b, 1, none⟩ = some v4 ∧ (W.setCell q u).cell? ⟨c, 0, none⟩ = some v5 ∧ (W.setCell q u).cell? ⟨c, 1, none⟩ = some v6 := by
  obtain ⟨p0, p1, p2, p3, p4, p5, p6⟩ := p
  obtain ⟨h1, h2, h3⟩ := hB
  have f : ∀ (g o : Nat), g < wr.heap.size → (W.setCell q u).cell? ⟨g, o, none⟩ = W.cell? ⟨g, o, none⟩ := fun g o hg => World.cell?_setCell_other W q _ u (fun e => by subst e; simp at hq; omega)
  exact ⟨p0.setCell hq u, (f a 0 h1).trans p1, (f a 1 h1).trans p2, (f b 0 h2).trans p3, (f b 1 h2).trans p4, (f c 0 h3).trans p5, (f c 1 h3).trans p6⟩
end

def backB (ax ay bx by' cx cy : Int) : Bool :=
  ((ax - bx) * (cy - by') - (cx - bx) * (ay - by') == 0) && decide (0 < (ax - bx) * (cx - bx) + (ay - by') * (cy - by'))

set_option maxHeartbeats 2000000 in
theorem turnsBack_any (ax ay bx by' cx cy : Int) (w : World)
    (h1 : -60000 ≤ ax ∧ ax ≤ 60000) (h2 : -60000 ≤ ay ∧ ay ≤ 60000) (h3 : -60000 ≤ bx ∧ bx ≤ 60000) (h4 : -60000 ≤ by' ∧ by' ≤ 60000) (h5 : -60000 ≤ cx ∧ cx ≤ 60000) (h6 : -60000 ≤ cy ∧ cy ≤ 60000) :
    Calls Try.prog 90 #[.agg #[.int .i64 ax, .int .i64 ay], .agg #[.int .i64 bx, .int .i64 by'], .agg #[.int .i64 cx, .int .i64 cy]] w fun e w' =>
      e = .returned (.bool (backB ax ay bx by' cx cy)) ∧ Below w.heap.size w w' := by
  have C := fun W => Lib.hid (crossD_any (ax - bx) (ay - by') (cx - bx) (cy - by') W (by omega) (by omega) (by omega) (by omega))
  have q1 : -14400000000 ≤ (ax - bx) * (cx - bx) ∧ (ax - bx) * (cx - bx) ≤ 14400000000 := mul_le_of_abs (K := 120000) (L := 120000) (by omega) (by omega)
  have q2 : -14400000000 ≤ (ay - by') * (cy - by') ∧ (ay - by') * (cy - by') ≤ 14400000000 := mul_le_of_abs (K := 120000) (L := 120000) (by omega) (by omega)
  go_enter Try.func90, Try.ntmps90
  go_wp2_with fail
  have B := boxed3 w ax ay bx by' cx cy
  generalize ((w.alloc (Go.Proofs.Ytnijcdphmibjaaa.bx ax ay)).alloc (Go.Proofs.Ytnijcdphmibjaaa.bx bx by')).alloc (Go.Proofs.Ytnijcdphmibjaaa.bx cx cy) = wr at *
  obtain ⟨⟨a1, a2⟩, ⟨b1, b2⟩, ⟨c1, c2⟩, hb, hz⟩ := B
  have HB := Lib.hid hb
  have hB : w.heap.size < wr.heap.size ∧ w.heap.size + 1 < wr.heap.size ∧ w.heap.size + 1 + 1 < wr.heap.size := by omega
  clear hb hz
  have n1 := World.new_ne wr _ a1
  have n2 := World.new_ne wr _ a2
  have n3 := World.new_ne wr _ b1
  have n4 := World.new_ne wr _ b2
  have n5 := World.new_ne wr _ c1
  have n6 := World.new_ne wr _ c2
  go_cut [7, 8] (fun s t wx => TwoPts wr (ax - bx) (ay - by') (cx - bx) (cy - by') s t wx)
  case first =>
    have lt2 : wr.heap.size < wr.heap.size + 1 + 1 := by omega
    go_region_held3 (fun w' => Below wr.heap.size wr w' ∧ w'.cell? ⟨w.heap.size, 0, none⟩ = some (.int .i64 ax) ∧ w'.cell? ⟨w.heap.size, 1, none⟩ = some (.int .i64 ay) ∧ w'.cell? ⟨w.heap.size + 1, 0, none⟩ = some (.int .i64 bx) ∧ w'.cell? ⟨w.heap.size + 1, 1, none⟩ = some (.int .i64 by') ∧ w'.cell? ⟨w.heap.size + 1 + 1, 0, none⟩ = some (.int .i64 cx) ∧ w'.cell? ⟨w.heap.size + 1 + 1, 1, none⟩ = some (.int .i64 cy))
      (((repeat (first | refine keep3_drew ?_ | refine keep3_alloc ?_ hB _ | refine keep3_set ?_ hB _ (by simp; try omega) _)); (first | assumption | exact hS | exact ⟨Below.refl _ _, a1, a2, b1, b2, c1, c2⟩)))
      (first
        | (go_at_call 104; have hS0 := hS; clear hS; refine (minus_any _ _ _ _ _ (by omega) (by omega) (by omega) (by omega)).mono ?_; rintro e w2 ⟨rfl, hb2⟩; have hS := keep3_call (by assumption) hB hb2; obtain ⟨hc2, hf2⟩ := old_cells hb2; have hz2 := hb2.size; (try simp at hz2); (try have zz0 : w2.heap.size < w2.heap.size + 1 + 1 := by omega); (try have zz1 : wr.heap.size < w2.heap.size := by omega); (try have zz2 : ¬ wr.heap.size = w2.heap.size := by omega); (try have zz3 : ¬ w2.heap.size = wr.heap.size := by omega); (try have zz4 : wr.heap.size < w2.heap.size + 1 := by omega); (try have zz5 : ¬ wr.heap.size = w2.heap.size + 1 := by omega); (try have zz6 : ¬ w2.heap.size + 1 = wr.heap.size := by omega); (try have zz7 : wr.heap.size < w2.heap.size + 1 + 1 := by omega); (try have zz8 : ¬ wr.heap.size = w2.heap.size + 1 + 1 := by omega); (try have zz9 : ¬ w2.heap.size + 1 + 1 = wr.heap.size := by omega); (try have zz10 : wr.heap.size + 1 < w2.heap.size := by omega); (try have zz11 : ¬ wr.heap.size + 1 = w2.heap.size := by omega); (try have zz12 : ¬ w2.heap.size = wr.heap.size + 1 := by omega); (try have zz13 : wr.heap.size + 1 < w2.heap.size + 1 := by omega); (try have zz14 : ¬ wr.heap.size + 1 = w2.heap.size + 1 := by omega); (try have zz15 : ¬ w2.heap.size + 1 = wr.heap.size + 1 := by omega); (try have zz16 : wr.heap.size + 1 < w2.heap.size + 1 + 1 := by omega); (try have zz17 : ¬ wr.heap.size + 1 = w2.heap.size + 1 + 1 := by omega); (try have zz18 : ¬ w2.heap.size + 1 + 1 = wr.heap.size + 1 := by omega); (try have zz19 : w1.heap.size < w2.heap.size := by omega); (try have zz20 : ¬ w1.heap.size = w2.heap.size := by omega); (try have zz21 : ¬ w2.heap.size = w1.heap.size := by omega); (try have zz22 : w1.heap.size < w2.heap.size + 1 := by omega); (try have zz23 : ¬ w1.heap.size = w2.heap.size + 1 := by omega); (try have zz24 : ¬ w2.heap.size + 1 = w1.heap.size := by omega); (try have zz25 : w1.heap.size < w2.heap.size + 1 + 1 := by omega); (try have zz26 : ¬ w1.heap.size = w2.heap.size + 1 + 1 := by omega); (try have zz27 : ¬ w2.heap.size + 1 + 1 = w1.heap.size := by omega); (try have zz28 : w1.heap.size + 1 < w2.heap.size := by omega); (try have zz29 : ¬ w1.heap.size + 1 = w2.heap.size := by omega); (try have zz30 : ¬ w2.heap.size = w1.heap.size + 1 := by omega); (try have zz31 : w1.heap.size + 1 < w2.heap.size + 1 := by omega); (try have zz32 : ¬ w1.heap.size + 1 = w2.heap.size + 1 := by omega); (try have zz33 : ¬ w2.heap.size + 1 = w1.heap.size + 1 := by omega); (try have zz34 : w1.heap.size + 1 < w2.heap.size + 1 + 1 := by omega); (try have zz35 : ¬ w1.heap.size + 1 = w2.heap.size + 1 + 1 := by omega); (try have zz36 : ¬ w2.heap.size + 1 + 1 = w1.heap.size + 1 := by omega))
        | (go_at_call 104; refine (minus_any _ _ _ _ _ (by omega) (by omega) (by omega) (by omega)).mono ?_; rintro e w1 ⟨rfl, hb1⟩; have hS := keep3_call (by assumption) hB hb1; obtain ⟨hc1, hf1⟩ := old_cells hb1; have hz1 := hb1.size; (try simp at hz1); (try have yy0 : w1.heap.size < w1.heap.size + 1 + 1 := by omega); (try have yy1 : wr.heap.size < w1.heap.size := by omega); (try have yy2 : ¬ wr.heap.size = w1.heap.size := by omega); (try have yy3 : ¬ w1.heap.size = wr.heap.size := by omega); (try have yy4 : wr.heap.size < w1.heap.size + 1 := by omega); (try have yy5 : ¬ wr.heap.size = w1.heap.size + 1 := by omega); (try have yy6 : ¬ w1.heap.size + 1 = wr.heap.size := by omega); (try have yy7 : wr.heap.size < w1.heap.size + 1 + 1 := by omega); (try have yy8 : ¬ wr.heap.size = w1.heap.size + 1 + 1 := by omega); (try have yy9 : ¬ w1.heap.size + 1 + 1 = wr.heap.size := by omega); (try have yy10 : wr.heap.size + 1 < w1.heap.size := by omega); (try have yy11 : ¬ wr.heap.size + 1 = w1.heap.size := by omega); (try have yy12 : ¬ w1.heap.size = wr.heap.size + 1 := by omega); (try have yy13 : wr.heap.size + 1 < w1.heap.size + 1 := by omega); (try have yy14 : ¬ wr.heap.size + 1 = w1.heap.size + 1 := by omega); (try have yy15 : ¬ w1.heap.size + 1 = wr.heap.size + 1 := by omega); (try have yy16 : wr.heap.size + 1 < w1.heap.size + 1 + 1 := by omega); (try have yy17 : ¬ wr.heap.size + 1 = w1.heap.size + 1 + 1 := by omega); (try have yy18 : ¬ w1.heap.size + 1 + 1 = wr.heap.size + 1 := by omega)))
    all_goals (go_wp2_with fail; go_meet)
    all_goals
      have hS1 := hS.1
      refine ⟨_, _, rfl, rfl, ?_, ?_, ?_⟩
      · constructor <;> (first | (go_simp; done))
      · constructor <;> (first | (go_simp; done))
      · go_grown
  case rest =>
    obtain ⟨g, h, rfl, rfl, P1, P2, hbc⟩ := hcut
    have hgb : g < wc.heap.size := block_lt_of_cell P1.1
    have hhb : h < wc.heap.size := block_lt_of_cell P2.1
    obtain ⟨g1, g2⟩ := P1
    obtain ⟨k1, k2⟩ := P2
    clear a1 a2 b1 b2 c1 c2 n1 n2 n3 n4 n5 n6
    go_wp2_with fail
    refine ((C _).out).mono ?_
    rintro e w3 ⟨rfl, hb3⟩
    obtain ⟨g1, g2⟩ := PtAt.below hb3 hgb ⟨g1, g2⟩
    obtain ⟨k1, k2⟩ := PtAt.below hb3 hhb ⟨k1, k2⟩
    have hbw : Below w.heap.size w w3 := HB.out.trans ((hbc.trans (hb3.mono hbc.size)).mono HB.out.size)
    have hd : backB ax ay bx by' cx cy = (((ax - bx) * (cy - by') - (cx - bx) * (ay - by') == 0) && decide (0 < (ax - bx) * (cx - bx) + (ay - by') * (cy - by'))) := rfl
    have HD := Lib.hid hd
    clear hd C
    clear h1 h2 h3 h4 h5 h6
    obtain ⟨q1, q1'⟩ := q1
    obtain ⟨q2, q2'⟩ := q2
    cases hz : ((ax - bx) * (cy - by') - (cx - bx) * (ay - by') == 0)
    · go_wp2
      go_ret
      exact ⟨ret_bool (by rw [HD.out, hz]; rfl), hbw⟩
    · go_wp2
      go_ret
      exact ⟨ret_bool (by rw [HD.out, hz]; simp), hbw⟩
end Go.Proofs.Ytnijcdphmibjaaa
