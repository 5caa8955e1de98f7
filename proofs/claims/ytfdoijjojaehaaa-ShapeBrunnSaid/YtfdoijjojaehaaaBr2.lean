/- Parts of the proof, one after the other: DevMath, DevSame, DevEq, Convex, DevTop, DevWhere, PtRow, RefWhere, WhereTop, DevBeyond, ApartTop, RefApart, PtsFold, HullMath, HullSpec. -/
import Derived.Test.YtfdoijjojaehaaaBr1
import Derived.Laws.MakeOwn
import Derived.Deep.AppendLies
/- Two ways to say that edges meet, that they turn back, that a polygon is simple and convex: they are the same. Plain mathematics. -/
namespace Go.Proofs.Ytfdoijjojaehaaa

/-- u lies between 0 and p. -/
def btw (u p : Int) : Prop := (0 ≤ u ∧ u ≤ p) ∨ (p ≤ u ∧ u ≤ 0)
theorem btw_of {D t u p : Int} (hD : 0 < D) (h : D * u = t * p) (h0 : 0 ≤ t) (h1 : t ≤ D) : btw u p := by
  rcases Int.le_total 0 p with hp | hp
  · have a : 0 ≤ t * p := Int.mul_nonneg h0 hp
    have b : t * p ≤ D * p := Int.mul_le_mul_of_nonneg_right h1 hp
    refine .inl ⟨?_, ?_⟩
    · rcases Int.lt_or_le u 0 with g | g
      · have := Int.mul_neg_of_pos_of_neg hD g; omega
      · exact g
    · exact Int.le_of_mul_le_mul_left (by omega) hD
  · have a : t * p ≤ 0 := Int.mul_nonpos_of_nonneg_of_nonpos h0 hp
    have b : D * p ≤ t * p := Int.mul_le_mul_of_nonpos_right h1 hp
    refine .inr ⟨?_, ?_⟩
    · exact Int.le_of_mul_le_mul_left (by omega) hD
    · rcases Int.lt_or_le 0 u with g | g
      · have := Int.mul_pos hD g; omega
      · exact g
theorem of_btw {D t u p : Int} (hD : 0 < D) (h : D * u = t * p) (hp : p ≠ 0) (hb : btw u p) : 0 ≤ t ∧ t ≤ D := by
  rcases hb with ⟨b1, b2⟩ | ⟨b1, b2⟩
  · have hp' : 0 < p := by omega
    have a : 0 ≤ D * u := Int.mul_nonneg (by omega) b1
    have b : D * u ≤ D * p := Int.mul_le_mul_of_nonneg_left b2 (by omega)
    refine ⟨?_, Int.le_of_mul_le_mul_right (by omega) hp'⟩
    rcases Int.lt_or_le t 0 with g | g
    · have := Int.mul_neg_of_neg_of_pos g hp'; omega
    · exact g
  · have hp' : 0 < -p := by omega
    have e : t * -p = D * -u := by rw [Int.mul_neg, Int.mul_neg, h]
    have a : 0 ≤ D * -u := Int.mul_nonneg (by omega) (by omega)
    have b : D * -u ≤ D * -p := Int.mul_le_mul_of_nonneg_left (by omega) (by omega)
    refine ⟨?_, Int.le_of_mul_le_mul_right (a := -p) (by omega) hp'⟩
    rcases Int.lt_or_le t 0 with g | g
    · have := Int.mul_neg_of_neg_of_pos g hp'; omega
    · exact g

/-- Weighted means: one cannot lie before all of the others. -/
theorem apart_no {D w t u r p : Int} (hD : 0 < D) (hw : 0 ≤ w) (hw' : w ≤ D) (ht : 0 ≤ t) (ht' : t ≤ D) (h : D * u + w * r = t * p) (h1 : u < 0) (h2 : u + r < 0) (h3 : u - p < 0) (h4 : u + r - p < 0) : False := by
  have k1 : D * u + w * r = (D - w) * u + w * (u + r) := by grind
  rcases Int.le_total 0 p with hp | hp
  · have a : 0 ≤ t * p := Int.mul_nonneg ht hp
    have b1 : (D - w) * u ≤ 0 := Int.mul_nonpos_of_nonneg_of_nonpos (by omega) (by omega)
    have b2 : w * (u + r) ≤ 0 := Int.mul_nonpos_of_nonneg_of_nonpos hw (by omega)
    rcases Int.lt_or_le 0 w with g | g
    · have := Int.mul_neg_of_pos_of_neg g h2; omega
    · have : 0 < D - w := by omega
      have := Int.mul_neg_of_pos_of_neg this h1; omega
  · have k2 : D * u + w * r - D * p = (D - w) * (u - p) + w * (u + r - p) := by grind
    have k3 : t * p - D * p = (D - t) * (-p) := by grind
    have a : 0 ≤ (D - t) * (-p) := Int.mul_nonneg (by omega) (by omega)
    have b1 : (D - w) * (u - p) ≤ 0 := Int.mul_nonpos_of_nonneg_of_nonpos (by omega) (by omega)
    have b2 : w * (u + r - p) ≤ 0 := Int.mul_nonpos_of_nonneg_of_nonpos hw (by omega)
    rcases Int.lt_or_le 0 w with g | g
    · have := Int.mul_neg_of_pos_of_neg g h4; omega
    · have : 0 < D - w := by omega
      have := Int.mul_neg_of_pos_of_neg this h3; omega
theorem apart_no' {D w t u r p : Int} (hD : 0 < D) (hw : 0 ≤ w) (hw' : w ≤ D) (ht : 0 ≤ t) (ht' : t ≤ D) (h : D * u + w * r = t * p) (h1 : 0 < u) (h2 : 0 < u + r) (h3 : 0 < u - p) (h4 : 0 < u + r - p) : False := by
  refine apart_no (u := -u) (r := -r) (p := -p) hD hw hw' ht ht' ?_ (by omega) (by omega) (by omega) (by omega)
  rw [Int.mul_neg, Int.mul_neg, Int.mul_neg, ← h]; omega

/-- Edges from (0, 0) to (p, q) and from (u, v) by (r, s). -/
def al (p q u v : Int) : Int := p * v - u * q
def opp (a b : Int) : Prop := mn a b ≤ 0 ∧ 0 ≤ mx a b
theorem opp_iff {a b : Int} : opp a b ↔ (a ≤ 0 ∧ 0 ≤ b) ∨ (b ≤ 0 ∧ 0 ≤ a) := by
  unfold opp mn mx
  by_cases h : b < a <;> by_cases h' : a < b <;> simp [h, h'] <;> omega
/-- Do the intervals 0..p and u..u+r overlap? -/
def ov (p u r : Int) : Prop := (mn 0 p ≤ mx u (u + r)) ∧ (mn u (u + r) ≤ mx 0 p)

theorem ov_of {D w t u r p : Int} (hD : 0 < D) (hw : 0 ≤ w) (hw' : w ≤ D) (ht : 0 ≤ t) (ht' : t ≤ D) (h : D * u + w * r = t * p) : ov p u r := by
  have a := apart_no hD hw hw' ht ht' h
  have b := apart_no' hD hw hw' ht ht' h
  unfold ov mn mx
  constructor
  · rcases Int.lt_or_le u 0 with g1 | g1 <;> rcases Int.lt_or_le (u + r) 0 with g2 | g2 <;> rcases Int.lt_or_le (u - p) 0 with g3 | g3 <;> rcases Int.lt_or_le (u + r - p) 0 with g4 | g4 <;> first | exact (a g1 g2 g3 g4).elim | (split <;> split <;> omega)
  · rcases Int.lt_or_le 0 u with g1 | g1 <;> rcases Int.lt_or_le 0 (u + r) with g2 | g2 <;> rcases Int.lt_or_le 0 (u - p) with g3 | g3 <;> rcases Int.lt_or_le 0 (u + r - p) with g4 | g4 <;> first | exact (b g1 g2 g3 g4).elim | (split <;> split <;> omega)

theorem cross_ids (p q r s u v : Int) :
    al p q (u + r) (v + s) = al p q u v + (p * s - r * q) ∧ (u * s - r * v) - (p * s - r * q) = r * (q - v) - (p - u) * s ∧
    (p * s - r * q) * u - al p q u v * r = (u * s - r * v) * p ∧ (p * s - r * q) * v - al p q u v * s = (u * s - r * v) * q := by
  unfold al
  refine ⟨by grind, by grind, by grind, by grind⟩

/-- If both edges reach both lines and the edges are not along each other, the boxes overlap. -/
theorem boxes_of {p q r s u v : Int} (hD : p * s - r * q ≠ 0) (h1 : opp (al p q u v) (al p q (u + r) (v + s))) (h2 : opp (u * s - r * v) (r * (q - v) - (p - u) * s)) : ov p u r ∧ ov q v s := by
  obtain ⟨i1, i2, i3, i4⟩ := cross_ids p q r s u v
  rw [opp_iff] at h1 h2
  rw [i1] at h1
  rw [← i2] at h2
  generalize al p q u v = a at *
  generalize u * s - r * v = c at *
  generalize p * s - r * q = D at *
  rcases Int.lt_or_lt_of_ne hD with g | g
  · exact ⟨ov_of (D := -D) (w := a) (t := -c) (by omega) (by omega) (by omega) (by omega) (by omega) (by rw [Int.neg_mul, Int.neg_mul]; omega), ov_of (D := -D) (w := a) (t := -c) (by omega) (by omega) (by omega) (by omega) (by omega) (by rw [Int.neg_mul, Int.neg_mul]; omega)⟩
  · exact ⟨ov_of (D := D) (w := -a) (t := c) (by omega) (by omega) (by omega) (by omega) (by omega) (by rw [Int.neg_mul]; omega), ov_of (D := D) (w := -a) (t := c) (by omega) (by omega) (by omega) (by omega) (by omega) (by rw [Int.neg_mul]; omega)⟩

/-- A point on the first edge: the second edge's line is reached. -/
theorem reach_of_on {p q r s u v : Int} (hne : p ≠ 0 ∨ q ≠ 0) (h0 : al p q u v = 0) (b1 : btw u p) (b2 : btw v q) : opp (u * s - r * v) (r * (q - v) - (p - u) * s) := by
  obtain ⟨i1, i2, i3, i4⟩ := cross_ids p q r s u v
  rw [h0, Int.zero_mul, Int.sub_zero] at i3 i4
  rw [opp_iff, ← i2]
  generalize u * s - r * v = c at *
  generalize p * s - r * q = D at *
  rcases Int.lt_trichotomy D 0 with g | g | g
  · rcases hne with hp | hp
    · have := of_btw (D := -D) (t := -c) (by omega) (by rw [Int.neg_mul, Int.neg_mul, i3]) hp b1; omega
    · have := of_btw (D := -D) (t := -c) (by omega) (by rw [Int.neg_mul, Int.neg_mul, i4]) hp b2; omega
  · rw [g, Int.zero_mul] at i3 i4
    have : c = 0 := by
      rcases hne with hp | hp
      · rcases Int.mul_eq_zero.1 i3.symm with h | h
        · exact h
        · exact absurd h hp
      · rcases Int.mul_eq_zero.1 i4.symm with h | h
        · exact h
        · exact absurd h hp
    omega
  · rcases hne with hp | hp
    · have := of_btw g i3 hp b1; omega
    · have := of_btw g i4 hp b2; omega

theorem btw_dim {p q x y : Int} (hp : p ≠ 0) (h : p * y = x * q) (hb : btw x p) : btw y q := by
  rcases Int.lt_or_lt_of_ne hp with g | g
  · refine btw_of (D := -p) (t := -x) (by omega) (by rw [Int.neg_mul, Int.neg_mul, h]) ?_ ?_ <;> (unfold btw at hb; omega)
  · refine btw_of (D := p) (t := x) g h ?_ ?_ <;> (unfold btw at hb; omega)

theorem ov_one {p u r : Int} (h : ov p u r) : btw u p ∨ btw (u + r) p ∨ (btw (-u) r ∧ r ≠ 0) := by
  unfold ov mn mx at h
  unfold btw
  obtain ⟨h1, h2⟩ := h
  split at h1 <;> split at h1 <;> split at h2 <;> split at h2 <;> omega

/-- All on one line: an end of one edge lies on the other. -/
theorem line_on {p q r s u v : Int} (hne : p ≠ 0 ∨ q ≠ 0) (h0 : p * v = u * q) (h1 : p * s = r * q) (h2 : u * s = r * v) (o1 : ov p u r) (o2 : ov q v s) :
    (btw u p ∧ btw v q) ∨ (btw (u + r) p ∧ btw (v + s) q) ∨ (btw (-u) r ∧ btw (-v) s) := by
  by_cases hp : p = 0
  · subst hp
    have hq : q ≠ 0 := by rcases hne with h | h; exact absurd rfl h; exact h
    have hu : u = 0 := by
      rcases Int.mul_eq_zero.1 (show u * q = 0 by omega) with h | h
      · exact h
      · exact absurd h hq
    have hr : r = 0 := by
      rcases Int.mul_eq_zero.1 (show r * q = 0 by omega) with h | h
      · exact h
      · exact absurd h hq
    subst hu hr
    have z : btw (0 : Int) 0 := .inl ⟨by omega, by omega⟩
    rcases ov_one o2 with h | h | ⟨h, -⟩
    · exact .inl ⟨z, h⟩
    · exact .inr (.inl ⟨z, h⟩)
    · exact .inr (.inr ⟨z, h⟩)
  · rcases ov_one o1 with h | h | ⟨h, hr⟩
    · exact .inl ⟨h, btw_dim hp h0 h⟩
    · refine .inr (.inl ⟨h, btw_dim hp ?_ h⟩)
      rw [Int.mul_add, Int.add_mul, h0, h1]
    · refine .inr (.inr ⟨h, btw_dim hr ?_ h⟩)
      rw [Int.mul_neg, Int.neg_mul, h2]

end Go.Proofs.Ytfdoijjojaehaaa

/- Package shape and the reference find the same: edges that meet or turn back, simple polygons, convex polygons. -/
namespace Go.Proofs.Ytfdoijjojaehaaa

theorem mn_spec (a b : Int) : mn a b ≤ a ∧ mn a b ≤ b ∧ (mn a b = a ∨ mn a b = b) := by
  unfold mn; split <;> omega
theorem mx_spec (a b : Int) : a ≤ mx a b ∧ b ≤ mx a b ∧ (mx a b = a ∨ mx a b = b) := by
  unfold mx; split <;> omega
theorem box1 (a p u r : Int) : (mx (mn a (a + p)) (mn (a + u) (a + u + r)) ≤ mn (mx a (a + p)) (mx (a + u) (a + u + r))) ↔ ov p u r := by
  unfold ov
  have h1 := mn_spec a (a + p)
  have h2 := mn_spec (a + u) (a + u + r)
  have h3 := mx_spec a (a + p)
  have h4 := mx_spec (a + u) (a + u + r)
  have h5 := mn_spec 0 p
  have h6 := mx_spec 0 p
  have h7 := mn_spec u (u + r)
  have h8 := mx_spec u (u + r)
  have h9 := mx_spec (mn a (a + p)) (mn (a + u) (a + u + r))
  have h10 := mn_spec (mx a (a + p)) (mx (a + u) (a + u + r))
  generalize mx (mn a (a + p)) (mn (a + u) (a + u + r)) = x1 at *
  generalize mn (mx a (a + p)) (mx (a + u) (a + u + r)) = x2 at *
  generalize mn a (a + p) = x3 at *
  generalize mn (a + u) (a + u + r) = x4 at *
  generalize mx a (a + p) = x5 at *
  generalize mx (a + u) (a + u + r) = x6 at *
  generalize mn 0 p = x7 at *
  generalize mx 0 p = x8 at *
  generalize mn u (u + r) = x9 at *
  generalize mx u (u + r) = x10 at *
  omega
theorem in1 (a p u : Int) : inB (a + u) (mn a (a + p)) (mx a (a + p)) = true ↔ btw u p := by
  rw [inB_true]; unfold btw mn mx; split <;> split <;> omega

theorem box_iff (ax ay p q u v r s : Int) : boxB ax ay (ax + p) (ay + q) (ax + u) (ay + v) (ax + u + r) (ay + v + s) = true ↔ ov p u r ∧ ov q v s := by
  unfold boxB
  rw [Bool.and_eq_true, decide_eq_true_eq, decide_eq_true_eq, box1, box1]
theorem reach_iff (ax ay bx by' cx cy dx dy : Int) : reachB ax ay bx by' cx cy dx dy = true ↔ opp (cross ax ay bx by' cx cy) (cross ax ay bx by' dx dy) := by
  unfold reachB opp
  rw [Bool.and_eq_true, decide_eq_true_eq, decide_eq_true_eq]
theorem on_iff (ax ay p q u v : Int) : onB ax ay (ax + p) (ay + q) (ax + u) (ay + v) = true ↔ al p q u v = 0 ∧ btw u p ∧ btw v q := by
  unfold onB
  rw [Bool.and_eq_true, Bool.and_eq_true, in1, in1, beq_iff_eq]
  have : cross ax ay (ax + p) (ay + q) (ax + u) (ay + v) = al p q u v := by unfold cross al; grind
  rw [this]
  exact and_assoc

theorem sgn_opp {a b : Int} : sgn a * sgn b < 0 ↔ opp a b ∧ a ≠ 0 ∧ b ≠ 0 := by
  rw [opp_iff]
  unfold sgn
  rcases Int.lt_trichotomy a 0 with h | h | h <;> rcases Int.lt_trichotomy b 0 with h' | h' | h'
  all_goals
    first
      | (rw [if_neg (by omega), if_pos (by omega), if_neg (by omega), if_pos (by omega)]; omega)
      | (rw [if_neg (by omega), if_pos (by omega), if_neg (by omega), if_neg (by omega)]; omega)
      | (rw [if_neg (by omega), if_pos (by omega), if_pos (by omega)]; omega)
      | (rw [if_neg (by omega), if_neg (by omega), if_neg (by omega), if_pos (by omega)]; omega)
      | (rw [if_neg (by omega), if_neg (by omega), if_neg (by omega), if_neg (by omega)]; omega)
      | (rw [if_neg (by omega), if_neg (by omega), if_pos (by omega)]; omega)
      | (rw [if_pos (by omega), if_neg (by omega), if_pos (by omega)]; omega)
      | (rw [if_pos (by omega), if_neg (by omega), if_neg (by omega)]; omega)
      | (rw [if_pos (by omega), if_pos (by omega)]; omega)

theorem opp_neg {a b : Int} : opp (-a) (-b) ↔ opp a b := by
  rw [opp_iff, opp_iff]; omega

/-- An end on the other edge's line, where both are reached, is on the edge. -/
theorem on_of_reach {p q r s u v : Int} (hD : p * s - r * q ≠ 0) (h0 : al p q u v = 0) (h2 : opp (u * s - r * v) (r * (q - v) - (p - u) * s)) : btw u p ∧ btw v q := by
  obtain ⟨i1, i2, i3, i4⟩ := cross_ids p q r s u v
  rw [h0, Int.zero_mul, Int.sub_zero] at i3 i4
  rw [opp_iff, ← i2] at h2
  generalize u * s - r * v = c at *
  generalize p * s - r * q = D at *
  rcases Int.lt_or_lt_of_ne hD with g | g
  · exact ⟨btw_of (D := -D) (t := -c) (by omega) (by rw [Int.neg_mul, Int.neg_mul, i3]) (by omega) (by omega), btw_of (D := -D) (t := -c) (by omega) (by rw [Int.neg_mul, Int.neg_mul, i4]) (by omega) (by omega)⟩
  · exact ⟨btw_of g i3 (by omega) (by omega), btw_of g i4 (by omega) (by omega)⟩

theorem meet_rel (p q r s u v : Int) (h1 : p ≠ 0 ∨ q ≠ 0) (h2 : r ≠ 0 ∨ s ≠ 0) :
    (((ov p u r ∧ ov q v s) ∧ opp (al p q u v) (al p q (u + r) (v + s))) ∧ opp (u * s - r * v) (r * (q - v) - (p - u) * s)) ↔
      ((((al p q u v = 0 ∧ btw u p ∧ btw v q) ∨ (al p q (u + r) (v + s) = 0 ∧ btw (u + r) p ∧ btw (v + s) q)) ∨ (u * s - r * v = 0 ∧ btw (-u) r ∧ btw (-v) s)) ∨ (r * (q - v) - (p - u) * s = 0 ∧ btw (p - u) r ∧ btw (q - v) s)) ∨
        ((opp (al p q u v) (al p q (u + r) (v + s)) ∧ al p q u v ≠ 0 ∧ al p q (u + r) (v + s) ≠ 0) ∧ opp (u * s - r * v) (r * (q - v) - (p - u) * s) ∧ u * s - r * v ≠ 0 ∧ r * (q - v) - (p - u) * s ≠ 0) := by
  obtain ⟨i1, i2, i3, i4⟩ := cross_ids p q r s u v
  have e1 : (u + r) * -s - -r * (v + s) = -(u * s - r * v) := by grind
  have e2 : -r * (q - (v + s)) - (p - (u + r)) * -s = -(r * (q - v) - (p - u) * s) := by grind
  have e3 : al r s (-u) (-v) = u * s - r * v := by unfold al; grind
  have e4 : -u * q - p * -v = al p q u v := by unfold al; grind
  have e5 : p * (s - -v) - (r - -u) * q = al p q (u + r) (v + s) := by unfold al; grind
  have e6 : al r s (p - u) (q - v) = r * (q - v) - (p - u) * s := by unfold al; grind
  have e7 : (p - u) * -q - -p * (q - v) = -al p q u v := by unfold al; grind
  have e8 : -p * (s - (q - v)) - (r - (p - u)) * -q = -al p q (u + r) (v + s) := by unfold al; grind
  constructor
  · rintro ⟨⟨⟨o1, o2⟩, op1⟩, op2⟩
    by_cases hD : p * s - r * q = 0
    · rw [hD] at i1 i2
      have a0 : al p q u v = 0 := by rw [i1, opp_iff] at op1; omega
      have c0 : u * s - r * v = 0 := by rw [← i2, opp_iff] at op2; omega
      rcases line_on h1 (show p * v = u * q by unfold al at a0; omega) (by omega) (by omega) o1 o2 with h | h | h
      · exact .inl (.inl (.inl (.inl ⟨a0, h⟩)))
      · exact .inl (.inl (.inl (.inr ⟨by rw [i1, a0]; rfl, h⟩)))
      · exact .inl (.inl (.inr ⟨c0, h⟩))
    · by_cases a0 : al p q u v = 0
      · exact .inl (.inl (.inl (.inl ⟨a0, on_of_reach hD a0 op2⟩)))
      · by_cases b0 : al p q (u + r) (v + s) = 0
        · refine .inl (.inl (.inl (.inr ⟨b0, on_of_reach (r := -r) (s := -s) ?_ b0 ?_⟩)))
          · have : p * -s - -r * q = -(p * s - r * q) := by grind
            omega
          · rw [e1, e2, opp_neg]; exact op2
        · by_cases c0 : u * s - r * v = 0
          · refine .inl (.inl (.inr ⟨c0, on_of_reach (p := r) (q := s) (r := p) (s := q) ?_ (by rw [e3]; exact c0) ?_⟩))
            · have : r * q - p * s = -(p * s - r * q) := by grind
              omega
            · rw [e4, e5]; exact op1
          · by_cases d0 : r * (q - v) - (p - u) * s = 0
            · refine .inl (.inr ⟨d0, on_of_reach (p := r) (q := s) (r := -p) (s := -q) ?_ (by rw [e6]; exact d0) ?_⟩)
              · have : r * -q - -p * s = p * s - r * q := by grind
                omega
              · rw [e7, e8, opp_neg]; exact op1
            · exact .inr ⟨⟨op1, a0, b0⟩, op2, c0, d0⟩
  · rintro ((((⟨a0, b1, b2⟩ | ⟨a0, b1, b2⟩) | ⟨a0, b1, b2⟩) | ⟨a0, b1, b2⟩) | ⟨⟨op1, a0, b0⟩, op2, c0, d0⟩)
    · refine ⟨⟨⟨?_, ?_⟩, ?_⟩, reach_of_on h1 a0 b1 b2⟩
      · unfold ov; have := mn_spec 0 p; have := mx_spec 0 p; have := mn_spec u (u + r); have := mx_spec u (u + r); unfold btw at b1; omega
      · unfold ov; have := mn_spec 0 q; have := mx_spec 0 q; have := mn_spec v (v + s); have := mx_spec v (v + s); unfold btw at b2; omega
      · rw [opp_iff, a0]; omega
    · have k := reach_of_on (r := -r) (s := -s) h1 a0 b1 b2
      rw [e1, e2, opp_neg] at k
      refine ⟨⟨⟨?_, ?_⟩, ?_⟩, k⟩
      · unfold ov; have := mn_spec 0 p; have := mx_spec 0 p; have := mn_spec u (u + r); have := mx_spec u (u + r); unfold btw at b1; omega
      · unfold ov; have := mn_spec 0 q; have := mx_spec 0 q; have := mn_spec v (v + s); have := mx_spec v (v + s); unfold btw at b2; omega
      · rw [opp_iff, a0]; omega
    · have k := reach_of_on (p := r) (q := s) (r := p) (s := q) h2 (by rw [e3]; exact a0) b1 b2
      rw [e4, e5] at k
      refine ⟨⟨⟨?_, ?_⟩, k⟩, by rw [opp_iff, a0]; omega⟩
      · unfold ov; have := mn_spec 0 p; have := mx_spec 0 p; have := mn_spec u (u + r); have := mx_spec u (u + r); unfold btw at b1; omega
      · unfold ov; have := mn_spec 0 q; have := mx_spec 0 q; have := mn_spec v (v + s); have := mx_spec v (v + s); unfold btw at b2; omega
    · have k := reach_of_on (p := r) (q := s) (r := -p) (s := -q) h2 (by rw [e6]; exact a0) b1 b2
      rw [e7, e8, opp_neg] at k
      refine ⟨⟨⟨?_, ?_⟩, k⟩, by rw [opp_iff, a0]; omega⟩
      · unfold ov; have := mn_spec 0 p; have := mx_spec 0 p; have := mn_spec u (u + r); have := mx_spec u (u + r); unfold btw at b1; omega
      · unfold ov; have := mn_spec 0 q; have := mx_spec 0 q; have := mn_spec v (v + s); have := mx_spec v (v + s); unfold btw at b2; omega
    · have hD : p * s - r * q ≠ 0 := by
        intro e
        rw [e] at i1
        rw [i1, opp_iff] at op1
        omega
      exact ⟨⟨boxes_of hD op1 op2, op1⟩, op2⟩

theorem meet_same {a b c d : Pt} (h1 : eqP a b = false) (h2 : eqP c d = false) : meet2P a b c d = meetP a b c d := by
  obtain ⟨ax, ay⟩ := a
  obtain ⟨bx, by'⟩ := b
  obtain ⟨cx, cy⟩ := c
  obtain ⟨dx, dy⟩ := d
  obtain ⟨p, rfl⟩ : ∃ p, bx = ax + p := ⟨bx - ax, by omega⟩
  obtain ⟨q, rfl⟩ : ∃ q, by' = ay + q := ⟨by' - ay, by omega⟩
  obtain ⟨u, rfl⟩ : ∃ u, cx = ax + u := ⟨cx - ax, by omega⟩
  obtain ⟨v, rfl⟩ : ∃ v, cy = ay + v := ⟨cy - ay, by omega⟩
  obtain ⟨r, rfl⟩ : ∃ r, dx = ax + u + r := ⟨dx - ax - u, by omega⟩
  obtain ⟨s, rfl⟩ : ∃ s, dy = ay + v + s := ⟨dy - ay - v, by omega⟩
  have g1 : p ≠ 0 ∨ q ≠ 0 := by
    unfold eqP eqI at h1
    rw [Bool.and_eq_false_iff, beq_eq_false_iff_ne, beq_eq_false_iff_ne] at h1
    simp only at h1; omega
  have g2 : r ≠ 0 ∨ s ≠ 0 := by
    unfold eqP eqI at h2
    rw [Bool.and_eq_false_iff, beq_eq_false_iff_ne, beq_eq_false_iff_ne] at h2
    simp only at h2; omega
  have c1 : cross ax ay (ax + p) (ay + q) (ax + u) (ay + v) = al p q u v := by unfold cross al; grind
  have c2 : cross ax ay (ax + p) (ay + q) (ax + u + r) (ay + v + s) = al p q (u + r) (v + s) := by unfold cross al; grind
  have c3 : cross (ax + u) (ay + v) (ax + u + r) (ay + v + s) ax ay = u * s - r * v := by unfold cross; grind
  have c4 : cross (ax + u) (ay + v) (ax + u + r) (ay + v + s) (ax + p) (ay + q) = r * (q - v) - (p - u) * s := by unfold cross; grind
  have o1 := on_iff ax ay p q u v
  have o2 : onB ax ay (ax + p) (ay + q) (ax + u + r) (ay + v + s) = true ↔ al p q (u + r) (v + s) = 0 ∧ btw (u + r) p ∧ btw (v + s) q := by
    have := on_iff ax ay p q (u + r) (v + s)
    rwa [← Int.add_assoc, ← Int.add_assoc] at this
  have o3 : onB (ax + u) (ay + v) (ax + u + r) (ay + v + s) ax ay = true ↔ u * s - r * v = 0 ∧ btw (-u) r ∧ btw (-v) s := by
    have := on_iff (ax + u) (ay + v) r s (-u) (-v)
    rw [show ax + u + -u = ax by omega, show ay + v + -v = ay by omega, show al r s (-u) (-v) = u * s - r * v by unfold al; grind] at this
    exact this
  have o4 : onB (ax + u) (ay + v) (ax + u + r) (ay + v + s) (ax + p) (ay + q) = true ↔ r * (q - v) - (p - u) * s = 0 ∧ btw (p - u) r ∧ btw (q - v) s := by
    have := on_iff (ax + u) (ay + v) r s (p - u) (q - v)
    rw [show ax + u + (p - u) = ax + p by omega, show ay + v + (q - v) = ay + q by omega, show al r s (p - u) (q - v) = r * (q - v) - (p - u) * s by unfold al; grind] at this
    exact this
  rw [Bool.eq_iff_iff]
  unfold meet2P meetP meet2B meetB
  simp only
  rw [Bool.and_eq_true, Bool.and_eq_true, box_iff, reach_iff, reach_iff, Bool.or_eq_true, Bool.or_eq_true, Bool.or_eq_true, Bool.or_eq_true, Bool.and_eq_true, decide_eq_true_eq, decide_eq_true_eq, sgn_opp, sgn_opp, c1, c2, c3, c4, o1, o2, o3, o4]
  exact meet_rel p q r s u v g1 g2

end Go.Proofs.Ytfdoijjojaehaaa

/- Package shape and the reference find the same polygons simple and convex. -/
namespace Go.Proofs.Ytfdoijjojaehaaa

theorem back_rel {p q r s : Int} (h1 : p ≠ 0 ∨ q ≠ 0) (h2 : r ≠ 0 ∨ s ≠ 0) (h : p * s = r * q) : 0 < p * r + q * s ↔ (btw r p ∧ btw s q) ∨ (btw p r ∧ btw q s) := by
  constructor
  · intro hd
    by_cases hp : p = 0
    · subst hp
      have hq : q ≠ 0 := by rcases h1 with h' | h'; exact absurd rfl h'; exact h'
      have hr : r = 0 := by
        rcases Int.mul_eq_zero.1 (show r * q = 0 by omega) with h' | h'
        · exact h'
        · exact absurd h' hq
      subst hr
      have hd' : 0 < q * s := by omega
      have hs : (0 < q ∧ 0 < s) ∨ (q < 0 ∧ s < 0) := by
        rcases Int.lt_trichotomy q 0 with g | g | g
        · right; refine ⟨g, ?_⟩
          rcases Int.lt_or_le s 0 with k | k
          · exact k
          · have := Int.mul_nonpos_of_nonpos_of_nonneg (Int.le_of_lt g) k; omega
        · exact absurd g hq
        · left; refine ⟨g, ?_⟩
          rcases Int.lt_or_le 0 s with k | k
          · exact k
          · have := Int.mul_nonpos_of_nonneg_of_nonpos (Int.le_of_lt g) k; omega
      unfold btw
      omega
    · have hr : r ≠ 0 := by
        intro e; subst e
        have hs : s = 0 := by
          rcases Int.mul_eq_zero.1 (show p * s = 0 by omega) with h' | h'
          · exact absurd h' hp
          · exact h'
        subst hs
        simp at h2
      have k1 : p * (p * r + q * s) = r * (p * p + q * q) := by
        have : q * (p * s) = q * (r * q) := by rw [h]
        grind
      have k2 : 0 < p * p + q * q := by
        have a : 0 < p * p := by
          rcases Int.lt_or_lt_of_ne hp with g | g
          · exact Int.mul_pos_of_neg_of_neg g g
          · exact Int.mul_pos g g
        have b : 0 ≤ q * q := by
          rcases Int.le_total 0 q with g | g
          · exact Int.mul_nonneg g g
          · exact Int.mul_nonneg_of_nonpos_of_nonpos g g
        omega
      generalize p * r + q * s = d at *
      generalize p * p + q * q = f at *
      have hs : (0 < p ∧ 0 < r) ∨ (p < 0 ∧ r < 0) := by
        rcases Int.lt_or_lt_of_ne hp with g | g
        · right; refine ⟨g, ?_⟩
          have := Int.mul_neg_of_neg_of_pos g hd
          rcases Int.lt_or_le r 0 with k | k
          · exact k
          · have := Int.mul_nonneg k (Int.le_of_lt k2); omega
        · left; refine ⟨g, ?_⟩
          have := Int.mul_pos g hd
          rcases Int.lt_or_le 0 r with k | k
          · exact k
          · have := Int.mul_nonpos_of_nonpos_of_nonneg k (Int.le_of_lt k2); omega
      have hb : btw r p ∨ btw p r := by unfold btw; omega
      rcases hb with hb | hb
      · exact .inl ⟨hb, btw_dim hp h hb⟩
      · exact .inr ⟨hb, btw_dim hr h.symm hb⟩
  · have key : ∀ x y : Int, btw x y → 0 ≤ y * x ∧ (y * x = 0 → x = 0) := by
      intro x y hb
      rcases hb with ⟨b1, b2⟩ | ⟨b1, b2⟩
      · refine ⟨Int.mul_nonneg (by omega) b1, fun e => ?_⟩
        rcases Int.mul_eq_zero.1 e with k | k <;> omega
      · refine ⟨Int.mul_nonneg_of_nonpos_of_nonpos (by omega) b2, fun e => ?_⟩
        rcases Int.mul_eq_zero.1 e with k | k <;> omega
    rintro (⟨b1, b2⟩ | ⟨b1, b2⟩)
    · obtain ⟨k1, k2⟩ := key _ _ b1
      obtain ⟨k3, k4⟩ := key _ _ b2
      rcases h2 with g | g <;> omega
    · obtain ⟨k1, k2⟩ := key _ _ b1
      obtain ⟨k3, k4⟩ := key _ _ b2
      rw [Int.mul_comm p r, Int.mul_comm q s]
      rcases h1 with g | g <;> omega

theorem back_same {a b c : Pt} (h1 : eqP a b = false) (h2 : eqP b c = false) : backP a b c = (onP a b c || onP b c a) := by
  obtain ⟨ax, ay⟩ := a
  obtain ⟨bx, by'⟩ := b
  obtain ⟨cx, cy⟩ := c
  obtain ⟨p, rfl⟩ : ∃ p, ax = bx + p := ⟨ax - bx, by omega⟩
  obtain ⟨q, rfl⟩ : ∃ q, ay = by' + q := ⟨ay - by', by omega⟩
  obtain ⟨r, rfl⟩ : ∃ r, cx = bx + r := ⟨cx - bx, by omega⟩
  obtain ⟨s, rfl⟩ : ∃ s, cy = by' + s := ⟨cy - by', by omega⟩
  have g1 : p ≠ 0 ∨ q ≠ 0 := by
    unfold eqP eqI at h1
    rw [Bool.and_eq_false_iff, beq_eq_false_iff_ne, beq_eq_false_iff_ne] at h1
    simp only at h1; omega
  have g2 : r ≠ 0 ∨ s ≠ 0 := by
    unfold eqP eqI at h2
    rw [Bool.and_eq_false_iff, beq_eq_false_iff_ne, beq_eq_false_iff_ne] at h2
    simp only at h2; omega
  have o1 : onB (bx + p) (by' + q) bx by' (bx + r) (by' + s) = true ↔ p * s - r * q = 0 ∧ btw r p ∧ btw s q := by
    have := on_iff (bx + p) (by' + q) (-p) (-q) (r - p) (s - q)
    rw [show bx + p + -p = bx by omega, show by' + q + -q = by' by omega, show bx + p + (r - p) = bx + r by omega, show by' + q + (s - q) = by' + s by omega, show al (-p) (-q) (r - p) (s - q) = -(p * s - r * q) by unfold al; grind] at this
    rw [this]; unfold btw; omega
  have o2 : onB bx by' (bx + r) (by' + s) (bx + p) (by' + q) = true ↔ p * s - r * q = 0 ∧ btw p r ∧ btw q s := by
    rw [on_iff]; unfold al
    exact ⟨fun ⟨e, h⟩ => ⟨by omega, h⟩, fun ⟨e, h⟩ => ⟨by omega, h⟩⟩
  have d1 : (bx + p - bx) * (by' + s - by') - (bx + r - bx) * (by' + q - by') = p * s - r * q := by grind
  have d2 : (bx + p - bx) * (bx + r - bx) + (by' + q - by') * (by' + s - by') = p * r + q * s := by grind
  rw [Bool.eq_iff_iff]
  unfold backP onP backB
  simp only
  rw [Bool.or_eq_true, Bool.and_eq_true, beq_iff_eq, decide_eq_true_eq, o1, o2, d1, d2]
  constructor
  · rintro ⟨e, hd⟩
    rcases (back_rel g1 g2 (by omega)).1 hd with h | h
    · exact .inl ⟨e, h⟩
    · exact .inr ⟨e, h⟩
  · rintro (⟨e, h⟩ | ⟨e, h⟩)
    · exact ⟨e, (back_rel g1 g2 (by omega)).2 (.inl h)⟩
    · exact ⟨e, (back_rel g1 g2 (by omega)).2 (.inr h)⟩

theorem meetP_comm (a b c d : Pt) : meetP a b c d = meetP c d a b := by
  unfold meetP meetB
  generalize onB a.1 a.2 b.1 b.2 c.1 c.2 = o1
  generalize onB a.1 a.2 b.1 b.2 d.1 d.2 = o2
  generalize onB c.1 c.2 d.1 d.2 a.1 a.2 = o3
  generalize onB c.1 c.2 d.1 d.2 b.1 b.2 = o4
  rw [Bool.and_comm]
  cases o1 <;> cases o2 <;> cases o3 <;> cases o4 <;> rfl

theorem eqP_iff {a b : Pt} : eqP a b = true ↔ a = b := by
  obtain ⟨x, y⟩ := a
  obtain ⟨u, v⟩ := b
  simp [eqP, eqI]

theorem simple2B_iff (l : List Pt) : simple2B l = true ↔ ∀ i, i < l.length → zeroAt l i = false ∧ backAt l i = false ∧ ∀ j, j + 2 ≤ i → hit2At l i j = false := by
  unfold simple2B simple2At
  simp only [List.all_eq_true, List.mem_range, Bool.and_eq_true, Bool.not_eq_true', Bool.or_eq_false_iff, Bool.or_eq_true, decide_eq_true_eq]
  constructor
  · intro h i hi
    obtain ⟨⟨a, b⟩, c⟩ := h i hi
    refine ⟨a, b, fun j hj => ?_⟩
    rcases c j (by omega) with k | k
    · omega
    · exact k
  · intro h i hi
    obtain ⟨a, b, c⟩ := h i hi
    refine ⟨⟨a, b⟩, fun j hj => ?_⟩
    by_cases e : i < j + 2
    · exact .inl e
    · exact .inr (c j (by omega))

theorem simpleB_iff (l : List Pt) : simpleB l = true ↔ (∀ i, i < l.length → zeroAt l i = false) ∧ ∀ i, i < l.length → foldAt l i = false ∧ ∀ k, k < l.length → i + 2 ≤ k → hitAt l i k = false := by
  constructor
  · unfold simpleB
    simp only [List.all_eq_true, List.mem_range, Bool.and_eq_true, Bool.not_eq_true', Bool.or_eq_true, decide_eq_true_eq]
    rintro ⟨h1, h2⟩
    refine ⟨h1, fun i hi => ⟨(h2 i hi).1, fun k hk hik => ?_⟩⟩
    rcases (h2 i hi).2 k hk with g | g
    · omega
    · exact g
  · rintro ⟨h1, h2⟩
    exact simpleB_yes h1 (fun j hj => ⟨(h2 j hj).1, fun k hjk hk => (h2 j hj).2 k hk hjk⟩)

theorem zero_next {l : List Pt} (h : ∀ i, i < l.length → zeroAt l i = false) (i : Nat) (hn : 0 < l.length) : eqP (nx l i) (nx l (i + 1)) = false := by
  have := h ((i + 1) % l.length) (Nat.mod_lt _ hn)
  unfold zeroAt at this
  rw [show gt l ((i + 1) % l.length) = nx l i from rfl] at this
  unfold nx at this ⊢
  rwa [Nat.mod_add_mod] at this

theorem hit_same {l : List Pt} {i j : Nat} (hi : i < l.length) (hj : j + 2 ≤ i) (z1 : zeroAt l i = false) (z2 : zeroAt l j = false) : hit2At l i j = hitAt l j i := by
  unfold hit2At hitAt
  rw [meet_same z1 z2, meetP_comm]
  have : (i - j == l.length - 1) = ((i + 1) % l.length == j) := by
    rw [Bool.eq_iff_iff, beq_iff_eq, beq_iff_eq]
    by_cases e : i + 1 = l.length
    · rw [e, Nat.mod_self]; omega
    · rw [Nat.mod_eq_of_lt (by omega)]; omega
  rw [this]

theorem simple_same (l : List Pt) : simple2B l = simpleB l := by
  rw [Bool.eq_iff_iff, simple2B_iff, simpleB_iff]
  constructor
  · intro h
    have hz : ∀ i, i < l.length → zeroAt l i = false := fun i hi => (h i hi).1
    refine ⟨hz, fun i hi => ⟨?_, fun k hk hik => ?_⟩⟩
    · have b := (h i hi).2.1
      unfold backAt at b
      rw [back_same (hz i hi) (zero_next hz i (by omega))] at b
      exact b
    · rw [← hit_same hk hik (hz k hk) (hz i hi)]
      exact (h k hk).2.2 i hik
  · rintro ⟨hz, h⟩ i hi
    refine ⟨hz i hi, ?_, fun j hj => ?_⟩
    · unfold backAt
      rw [back_same (hz i hi) (zero_next hz i (by omega))]
      exact (h i hi).1
    · rw [hit_same hi hj (hz i hi) (hz j (by omega))]
      exact (h j (by omega)).2 i hi hj

theorem cmpQ_first (a b : Pt) : decide (cmpQ a b < 0) = firstP a b := by
  obtain ⟨ax, ay⟩ := a
  obtain ⟨bx, by'⟩ := b
  rw [Bool.eq_iff_iff]
  simp only [cmpQ, cmpP, firstP, firstB, Bool.or_eq_true, Bool.and_eq_true, beq_iff_eq, decide_eq_true_eq]
  unfold orI cmpI
  by_cases h1 : ay < by' <;> by_cases h2 : by' < ay <;> by_cases h3 : ax < bx <;> by_cases h4 : bx < ax <;> simp [h1, h2, h3, h4] <;> omega

theorem onP_start (a b : Pt) : onP a b a = true := by
  obtain ⟨ax, ay⟩ := a
  obtain ⟨bx, by'⟩ := b
  simp only [onP, onB, cross, inB, mn, mx, Bool.and_eq_true, beq_iff_eq, decide_eq_true_eq]
  refine ⟨⟨by grind, ?_, ?_⟩, ?_, ?_⟩ <;> split <;> omega

/-- The first point of a simple polygon is no other one. -/
theorem first_alone {l : List Pt} (h : simpleB l = true) {i : Nat} (h0 : 0 < i) (hi : i < l.length) : gt l 0 ≠ gt l i := by
  intro e
  rw [simpleB_iff] at h
  obtain ⟨hz, hh⟩ := h
  by_cases e1 : i = 1
  · subst e1
    have := hz 0 (by omega)
    unfold zeroAt nx at this
    rw [Nat.zero_add, Nat.mod_eq_of_lt hi, show l.getD 1 (0, 0) = gt l 1 from rfl] at this
    rw [eqP_iff.2 e] at this
    cases this
  · by_cases e2 : i + 1 = l.length
    · have := hz i hi
      unfold zeroAt nx at this
      rw [e2, Nat.mod_self, show l.getD 0 (0, 0) = gt l 0 from rfl] at this
      rw [eqP_iff.2 e.symm] at this
      cases this
    · have := (hh 0 (by omega)).2 i hi (by omega)
      unfold hitAt at this
      rw [Nat.mod_eq_of_lt (by omega), ← e] at this
      have o := onP_start (gt l 0) (nx l 0)
      have m : meetP (gt l 0) (nx l 0) (gt l 0) (nx l i) = true := by
        unfold onP at o
        unfold meetP meetB
        rw [o]; simp
      rw [m] at this
      simp at this

theorem convex_same (l : List Pt) : convex2B l = convexB l := by
  unfold convex2B convexB
  rw [simple_same, Bool.and_comm]
  cases hs : simpleB l
  · rfl
  · rw [Bool.true_and, Bool.true_and, Bool.eq_iff_iff, List.all_eq_true, List.all_eq_true]
    have k : ∀ i, i < l.length → convex2At l i = convexAt l i := by
      intro i hi
      unfold convex2At convexAt
      rw [cmpQ_first, Bool.not_or]
      congr 1
      by_cases e0 : i = 0
      · subst e0
        have : firstP (gt l 0) (gt l 0) = false := by simp [firstP, firstB]
        rw [this]; rfl
      · have ne := first_alone hs (Nat.pos_of_ne_zero e0) hi
        rw [show (i == 0) = false by simp [e0], Bool.false_or]
        generalize gt l 0 = a at *
        generalize gt l i = b at *
        obtain ⟨ax, ay⟩ := a
        obtain ⟨bx, by'⟩ := b
        have ne' : ¬ (ax = bx ∧ ay = by') := fun ⟨e1, e2⟩ => ne (by rw [e1, e2])
        rw [Bool.eq_iff_iff]
        simp only [firstP, firstB, Bool.not_eq_true', Bool.or_eq_false_iff, Bool.or_eq_true, Bool.and_eq_true, Bool.and_eq_false_iff, beq_iff_eq, beq_eq_false_iff_ne, decide_eq_true_eq, decide_eq_false_iff_not]
        omega
    constructor
    · intro h i hi
      rw [← k i (List.mem_range.1 hi)]; exact h i hi
    · intro h i hi
      rw [k i (List.mem_range.1 hi)]; exact h i hi
end Go.Proofs.Ytfdoijjojaehaaa

/- Is a polygon convex in normal form? The reference's function. -/
namespace Go.Proofs.Ytfdoijjojaehaaa
open Go.RowKit Go.Sort
attribute [local go_sem ↓] run_min_mn run_max_mx Go.wp_at_zero Go.wp_at_succ


end Go.Proofs.Ytfdoijjojaehaaa

/- Package shape's exported functions Area2, Simple and Convex; the reference's Polygon, of any slice. -/
namespace Go.Proofs.Ytfdoijjojaehaaa
open Go.RowKit Go.Sort
attribute [local go_sem ↓] run_min_mn run_max_mx

/-- What a polygon's slice is. -/
structure PolyIn (w : World) (A : Option Addr) (n : Nat) (l : List Pt) (b off : Nat) : Prop where
  at_ : A = some ⟨b, off, none⟩
  lo : 2 < n
  hi : n ≤ 32
  here : b < w.heap.size
  pts : PtsIn w b off l
  ok : l.all okP = true

theorem PtsAt.poly {w : World} {A : Option Addr} {n : Nat} {l : List Pt} (h : PtsAt w A l) (hn : l.length = n) (hp : polyB l = true) : ∃ b off, PolyIn w A n l b off := by
  simp only [polyB, inB, Bool.and_eq_true, decide_eq_true_eq] at hp
  obtain ⟨h1, h2, h3⟩ := hp
  obtain ⟨b, off, e, hb, hi⟩ := h (by intro e; subst e; simp at h2)
  exact ⟨b, off, ⟨e, by omega, by omega, hb, hi, h1⟩⟩

def area2X (l : List Pt) : Int := if polyB l then area2 l else 0
def errX (l : List Pt) : Int := if polyB l then 0 else 1

theorem area2X_any (A : Option Addr) (n c : Nat) (l : List Pt) (w : World) (hn : l.length = n) (hbig : n ≤ 1000000) (hx : PtsAt w A l) :
    Calls Try.prog 6 #[.slice A n c] w fun e w' => e = .returned (.tuple #[.int .i64 (area2X l), .int .i64 (errX l)]) ∧ Below w.heap.size w w' := by
  have K := Lib.hid (isPolygon_any A n c l w hn hbig hx)
  cases hp : polyB l
  · have e1 : area2X l = 0 := by unfold area2X; rw [hp]; rfl
    have e2 : errX l = 1 := by unfold errX; rw [hp]; rfl
    rw [e1, e2]
    rw [hp] at K
    clear hn hx
    go_enter Try.func6, Try.ntmps6
    go_wp2_with fail
    refine (K.out).mono ?_
    rintro e w' ⟨rfl, hb⟩
    go_wp2
    go_ret2
    exact ⟨rfl, hb⟩
  · have e1 : area2X l = area2 l := by unfold area2X; rw [hp]; rfl
    have e2 : errX l = 0 := by unfold errX; rw [hp]; rfl
    rw [e1, e2]
    rw [hp] at K
    obtain ⟨b, off, rfl, h1, h2, h3, h4, h5⟩ := hx.poly hn hp
    have S := fun W hW => Lib.hid (area2D_any b off n c l W hn (by omega) (by omega) (h4.below (B := w.heap.size) hW h3) (Nat.lt_of_lt_of_le h3 hW.size) h5)
    clear hn hx h4 h5 e1 e2
    generalize area2 l = r at *
    go_enter Try.func6, Try.ntmps6
    go_wp2_with fail
    refine (K.out).mono ?_
    rintro e w1 ⟨rfl, hb⟩
    go_wp2_with fail
    refine ((S _ hb).out).mono ?_
    rintro e w2 ⟨rfl, hb2⟩
    go_wp2
    go_ret2
    exact ⟨rfl, hb.trans (hb2.mono hb.size)⟩

def simpleX (l : List Pt) : Bool := polyB l && simpleB l
def convexX (l : List Pt) : Bool := polyB l && convexB l
end Go.Proofs.Ytfdoijjojaehaaa

/- Where is a point? Package shape's function. -/
namespace Go.Proofs.Ytfdoijjojaehaaa
open Go.RowKit Go.Sort
attribute [local go_sem ↓] run_min_mn run_max_mx Go.wp_at_zero Go.wp_at_succ

/-- Coordinates that every sum and product here can bear. -/
def Bd (p : Pt) : Prop := (-60000 ≤ p.1 ∧ p.1 ≤ 60000) ∧ (-60000 ≤ p.2 ∧ p.2 ≤ 60000)
theorem Bd.of_ok {p : Pt} (h : okP p = true) : Bd p := by
  obtain ⟨h1, h2⟩ := okP_bd h
  exact ⟨by omega, by omega⟩
theorem Bd.all {l : List Pt} (h : l.all okP = true) (i : Nat) : Bd (gt l i) := Bd.of_ok (getD_ok h i)
theorem nx_gt (l : List Pt) (i : Nat) : nx l i = gt l ((i + 1) % l.length) := rfl

def on2B (px py ax ay bx by' : Int) : Bool := (cross ax ay bx by' px py == 0) && boxB px py px py ax ay bx by'
theorem on2_same (px py ax ay bx by' : Int) : on2B px py ax ay bx by' = onB ax ay bx by' px py := by
  have e : boxB px py px py ax ay bx by' = (inB px (mn ax bx) (mx ax bx) && inB py (mn ay by') (mx ay by')) := by
    rw [Bool.eq_iff_iff]
    simp only [boxB, inB, Bool.and_eq_true, decide_eq_true_eq]
    have a1 := mn_spec px px
    have a2 := mx_spec px px
    have a3 := mn_spec py py
    have a4 := mx_spec py py
    have a5 := mx_spec (mn px px) (mn ax bx)
    have a6 := mn_spec (mx px px) (mx ax bx)
    have a7 := mx_spec (mn py py) (mn ay by')
    have a8 := mn_spec (mx py py) (mx ay by')
    omega
  unfold on2B onB
  rw [e, Bool.and_assoc]

def leftB (px py ax ay bx by' : Int) : Bool := (decide (py < ay) != decide (py < by')) && (decide (0 < cross ax ay bx by' px py) == decide (ay < by'))

def on2At (l : List Pt) (p : Pt) (i : Nat) : Bool := onP (gt l i) (nx l i) p
def left2At (l : List Pt) (p : Pt) (i : Nat) : Bool := leftB p.1 p.2 (gt l i).1 (gt l i).2 (nx l i).1 (nx l i).2
def sideTo (l : List Pt) (p : Pt) : Nat → Int
  | 0 => -1
  | k + 1 => if left2At l p k then - sideTo l p k else sideTo l p k
def whereD (l : List Pt) (p : Pt) : Int := if (List.range l.length).any (on2At l p) then 0 else sideTo l p l.length
theorem sideTo_bd (l : List Pt) (p : Pt) : ∀ k, sideTo l p k = 1 ∨ sideTo l p k = -1
  | 0 => .inr rfl
  | k + 1 => by
    unfold sideTo
    rcases sideTo_bd l p k with h | h <;> rw [h] <;> split <;> simp
theorem whereD_on {l : List Pt} {p : Pt} {k : Nat} (hk : k < l.length) (h : on2At l p k = true) : whereD l p = 0 := by
  unfold whereD
  rw [if_pos (List.any_eq_true.2 ⟨k, List.mem_range.2 hk, h⟩)]
theorem whereD_off {l : List Pt} {p : Pt} (h : ∀ j, j < l.length → on2At l p j = false) : whereD l p = sideTo l p l.length := by
  unfold whereD
  rw [if_neg]
  rw [List.any_eq_true]
  rintro ⟨k, hk, e⟩
  rw [h k (List.mem_range.1 hk)] at e
  cases e

end Go.Proofs.Ytfdoijjojaehaaa

/- A row of points that a function makes: its cells; points that are moved. -/
namespace Go.Proofs.Ytfdoijjojaehaaa
open Go.RowKit Go.Sort
attribute [local go_sem ↓] run_min_mn run_max_mx

/-- A block that holds a list of points, and nothing else. -/
def PtBlk (w : World) (g : Nat) (l : List Pt) : Prop := w.heap[g]? = some (.cells (ptsV l).toArray 33 (0, 0))
section
variable {w w' : World} {g : Nat} {l : List Pt}
theorem PtBlk.lt (h : PtBlk w g l) : g < w.heap.size := (Array.getElem?_eq_some_iff.1 h).1
theorem PtBlk.same (h : PtBlk w g l) (e : w'.heap[g]? = w.heap[g]?) : PtBlk w' g l := e.trans h
theorem PtBlk.cells (h : PtBlk w g l) (j : Nat) : w.cell? ⟨g, j, none⟩ = (ptsV l)[j]? := by
  rw [cell_of_row w g j _ 33 (0, 0) h]; simp
theorem PtBlk.cell (h : PtBlk w g l) {i : Nat} {p : Pt} (hp : l[i]? = some p) : w.cell? ⟨g, i * 2, none⟩ = some (.int .i64 p.1) ∧ w.cell? ⟨g, i * 2 + 1, none⟩ = some (.int .i64 p.2) := by
  obtain ⟨h1, h2⟩ := ptsV_get l i p hp
  exact ⟨(h.cells _).trans h1, (h.cells _).trans h2⟩
theorem PtBlk.frozen (h : PtBlk w g l) (i : Nat) : w.frozen? ⟨g, i, none⟩ = false := by simp [World.frozen?, show w.heap[g]? = _ from h]
theorem PtBlk.pts (h : PtBlk w g l) : PtsIn w g 0 l := fun i p hp => by
  obtain ⟨h1, h2⟩ := h.cell hp
  exact ⟨by rw [Nat.zero_add]; exact h1, by rw [Nat.zero_add]; exact h2⟩
theorem PtBlk.below {B : Nat} (h : PtBlk w g l) (hb : Below B w w') (hg : g < B) : PtBlk w' g l := h.same (hb.block g hg)
theorem PtBlk.alloc (h : PtBlk w g l) (o : Obj) : PtBlk (w.alloc o) g l := h.same (Below.heap_alloc w o g h.lt)
theorem ptsV_set : ∀ (l : List Pt) (i : Nat) (x y : Int), ((ptsV l).set (i * 2) (.int .i64 x)).set (i * 2 + 1) (.int .i64 y) = ptsV (l.set i (x, y))
  | [], _, _, _ => rfl
  | p :: l, 0, x, y => rfl
  | p :: l, i + 1, x, y => by
    have e : (i + 1) * 2 = i * 2 + 1 + 1 := by omega
    rw [e]
    simp only [ptsV, List.set_cons_succ, ptsV_set l i x y]
theorem PtBlk.set (h : PtBlk w g l) (i : Nat) (x y : Int) : PtBlk ((w.setCell ⟨g, i * 2, none⟩ (.int .i64 x)).setCell ⟨g, i * 2 + 1, none⟩ (.int .i64 y)) g (l.set i (x, y)) := by
  have e : w.heap[g]? = _ := h
  unfold PtBlk
  rw [← ptsV_set]
  simp [World.setCell, Array.getElem?_modify, e]
theorem PtBlk.far (h : PtBlk w g l) {p : Addr} (hp : g ≠ p.block) (u : Value) : PtBlk (w.setCell p u) g l := h.same (Below.heap_setCell w p u g hp)
end

/-- Points that a function gives. -/
def ptF (n : Nat) (f : Nat → Pt) : List Pt := (List.range n).map f
theorem ptF_length (n : Nat) (f : Nat → Pt) : (ptF n f).length = n := by simp [ptF]
theorem ptF_set (n : Nat) (f : Nat → Pt) (t : Nat) (v : Pt) : (ptF n f).set t v = ptF n (fun u => if u = t then v else f u) := by
  apply List.ext_getElem
  · simp [ptF]
  · intro i h1 h2
    rw [List.getElem_set]
    simp only [ptF, List.getElem_map, List.getElem_range]
    by_cases e : t = i
    · subst e; simp
    · rw [if_neg e, if_neg (fun h => e h.symm)]
theorem ptF_congr {n : Nat} {f g : Nat → Pt} (h : ∀ i, i < n → f i = g i) : ptF n f = ptF n g := List.map_congr_left fun i hi => h i (List.mem_range.1 hi)
theorem ptF_get {n : Nat} {f : Nat → Pt} {i : Nat} (h : i < n) : (ptF n f)[i]? = some (f i) := by simp [ptF, h]

theorem made_pts (m : Nat) : madeCells #[Value.int .i64 0, Value.int .i64 0] (m * 2) = (ptsV (ptF m fun _ => (0, 0))).toArray := by
  apply Array.ext'
  rw [List.toList_toArray]
  have e : ptsV (ptF m fun _ => (0, 0)) = List.replicate (m * 2) (Value.int .i64 0) := by
    induction m with
    | zero => rfl
    | succ m ih =>
      have : ptF (m + 1) (fun _ => ((0, 0) : Pt)) = ptF m (fun _ => (0, 0)) ++ [(0, 0)] := by simp [ptF, List.range_succ]
      rw [this, ptsV_append, ih, show (m + 1) * 2 = m * 2 + 1 + 1 by omega, List.replicate_succ', List.replicate_succ']
      simp [ptsV]
  rw [e]
  apply List.ext_getElem
  · simp [madeCells]
  · intro i h1 h2
    simp only [madeCells, Array.toList_map, Array.toList_range, List.getElem_map, List.getElem_range, List.getElem_replicate]
    have : i % (#[Value.int .i64 0, Value.int .i64 0] : Array Value).size < 2 := Nat.mod_lt _ (by decide)
    generalize i % (#[Value.int .i64 0, Value.int .i64 0] : Array Value).size = r at this
    match r, this with
    | 0, _ => rfl
    | 1, _ => rfl

/-- make([]api.Point, n). -/
theorem make_pts (m : Nat) (hm : m ≤ 1000001) (W : World) : (Instr.makeSlice 22 (.int .i64 (m : Int)) (.int .i64 (m : Int))).run Try.prog W =
    .ok (.slice (some ⟨W.heap.size, 0, none⟩) m m) (W.alloc (.cells (ptsV (ptF m fun _ => (0, 0))).toArray 33)) := by
  obtain ⟨i0, hi0, hz0, hz1, hz2⟩ := info_pparts info_pt
  have h := run_makeSlice (P := Try.prog) W 22 33 i0 _ Try.underlying22 hi0 hz0 .i64 .i64 (m : Int) (m : Int) (by omega) (Int.le_refl _) (by rw [hz1]; omega) (by rw [hz2]; omega) (by omega)
  rw [h, hz1, Int.toNat_natCast]
  rw [show (Value.agg #[Value.int .i64 0, Value.int .i64 0]).cells = #[Value.int .i64 0, Value.int .i64 0] from rfl, made_pts]

def addP (p q : Pt) : Pt := (p.1 + q.1, p.2 + q.2)
def movedL (l : List Pt) (v : Pt) : List Pt := l.map fun p => addP p v
theorem movedL_length (l : List Pt) (v : Pt) : (movedL l v).length = l.length := by simp [movedL]
theorem movedL_F (l : List Pt) (v : Pt) : movedL l v = ptF l.length fun i => addP (gt l i) v := by
  apply List.ext_getElem
  · simp [movedL, ptF]
  · intro i h1 h2
    have : i < l.length := by simpa [movedL] using h1
    simp [movedL, ptF, gt, List.getD, this]

theorem plus_any (ax ay bx by' : Int) (w : World) (h1 : -200000 ≤ ax ∧ ax ≤ 200000) (h2 : -200000 ≤ ay ∧ ay ≤ 200000) (h3 : -200000 ≤ bx ∧ bx ≤ 200000) (h4 : -200000 ≤ by' ∧ by' ≤ 200000) :
    Calls Try.prog 22 #[.agg #[.int .i64 ax, .int .i64 ay], .agg #[.int .i64 bx, .int .i64 by']] w fun e w' =>
      e = .returned (.agg #[.int .i64 (ax + bx), .int .i64 (ay + by')]) ∧ Below w.heap.size w w' := by
  go_enter Try.func22, Try.ntmps22
  go_wp2
  go_returns
  exact ⟨rfl, by go_grown⟩

def MovedTo (l : List Pt) (w : World) (n : Nat) (e : Ending) (w' : World) : Prop :=
  ∃ g : Nat, e = .returned (.slice (some ⟨g, 0, none⟩) n n) ∧ w.heap.size ≤ g ∧ PtBlk w' g l ∧ Below w.heap.size w w'

end Go.Proofs.Ytfdoijjojaehaaa

/- Where is a point? The reference's function, and that package shape's finds the same. -/
namespace Go.Proofs.Ytfdoijjojaehaaa
open Go.RowKit Go.Sort
attribute [local go_sem ↓] run_min_mn run_max_mx Go.wp_at_zero Go.wp_at_succ

def upI (py ay by' c : Int) : Int := if by' < ay then -c else c
def rayB (px py ax ay bx by' : Int) : Bool := (decide (py < ay) != decide (py < by')) && decide (0 < upI py ay by' (cross ax ay bx by' px py))
def ray2At (l : List Pt) (p : Pt) (i : Nat) : Bool := rayB p.1 p.2 (gt l i).1 (gt l i).2 (nx l i).1 (nx l i).2
def insTo (l : List Pt) (p : Pt) : Nat → Bool
  | 0 => false
  | k + 1 => if ray2At l p k then !insTo l p k else insTo l p k
def whereR (l : List Pt) (p : Pt) : Int := if (List.range l.length).any (on2At l p) then 0 else if insTo l p l.length then 1 else -1

theorem left_ray {px py ax ay bx by' : Int} (h : onB ax ay bx by' px py = false) : leftB px py ax ay bx by' = rayB px py ax ay bx by' := by
  have key : cross ax ay bx by' px py = 0 → ¬ ((ay ≤ py ∧ py < by') ∨ (by' ≤ py ∧ py < ay)) := by
    intro h0 hb
    have hne : by' - ay ≠ 0 := by omega
    have hc : (by' - ay) * (px - ax) = (py - ay) * (bx - ax) := by unfold cross at h0; grind
    have hbt : btw (py - ay) (by' - ay) := by unfold btw; omega
    have := btw_dim hne hc hbt
    have ho : onB ax ay bx by' px py = true := by
      have k := (on_iff ax ay (bx - ax) (by' - ay) (px - ax) (py - ay)).2 ⟨by unfold al; unfold cross at h0; grind, this, hbt⟩
      rw [show ax + (bx - ax) = bx by omega, show ay + (by' - ay) = by' by omega, show ax + (px - ax) = px by omega, show ay + (py - ay) = py by omega] at k
      exact k
    rw [h] at ho; cases ho
  rw [Bool.eq_iff_iff]
  unfold leftB rayB upI
  generalize cross ax ay bx by' px py = c at *
  simp only [Bool.and_eq_true, bne_iff_ne, ne_eq, decide_eq_true_eq, decide_eq_decide, beq_iff_eq]
  by_cases g1 : py < ay <;> by_cases g2 : py < by'
  · simp [g1, g2]
  · have := key; split <;> (by_cases hc : c = 0) <;> omega
  · have := key; split <;> (by_cases hc : c = 0) <;> omega
  · simp [g1, g2]

theorem where_same (l : List Pt) (p : Pt) : whereD l p = whereR l p := by
  unfold whereD whereR
  by_cases h : (List.range l.length).any (on2At l p) = true
  · rw [if_pos h, if_pos h]
  · rw [if_neg h, if_neg h]
    have hoff : ∀ j, j < l.length → on2At l p j = false := fun j hj => by
      cases e : on2At l p j
      · rfl
      · exact absurd (List.any_eq_true.2 ⟨j, List.mem_range.2 hj, e⟩) h
    have : ∀ k, k ≤ l.length → sideTo l p k = if insTo l p k then 1 else -1 := by
      intro k
      induction k with
      | zero => intro _; rfl
      | succ k ih =>
        intro hk
        have e : left2At l p k = ray2At l p k := left_ray (hoff k (by omega))
        unfold sideTo insTo
        rw [e, ih (by omega)]
        cases ray2At l p k <;> cases insTo l p k <;> rfl
    exact this _ (Nat.le_refl _)

end Go.Proofs.Ytfdoijjojaehaaa

/- Package shape's Where, and the law's own 'simple'. -/
namespace Go.Proofs.Ytfdoijjojaehaaa
open Go.RowKit Go.Sort
attribute [local go_sem ↓] run_min_mn run_max_mx

def simpE (l : List Pt) : Int := if polyB l then (if simpleB l then 0 else 2) else 1

theorem checkSimple_any (A : Option Addr) (n c : Nat) (l : List Pt) (w : World) (hn : l.length = n) (hbig : n ≤ 1000000) (hx : PtsAt w A l) :
    Calls Try.prog 26 #[.slice A n c] w fun e w' => e = .returned (.int .i64 (simpE l)) ∧ Below w.heap.size w w' := by
  have K := Lib.hid (isPolygon_any A n c l w hn hbig hx)
  cases hp : polyB l
  · have e1 : simpE l = 1 := by unfold simpE; rw [hp]; rfl
    rw [e1]
    rw [hp] at K
    clear hn hx
    go_enter Try.func26, Try.ntmps26
    go_wp2_with fail
    refine (K.out).mono ?_
    rintro e w' ⟨rfl, hb⟩
    go_wp2
    go_ret
    exact ⟨rfl, hb⟩
  · have e1 : simpE l = if simpleB l then 0 else 2 := by unfold simpE; rw [hp]; rfl
    have E1 := Lib.hid e1
    rw [hp] at K
    obtain ⟨b, off, rfl, h1, h2, h3, h4, h5⟩ := hx.poly hn hp
    have S := fun W hW => Lib.hid (isSimple_any b off n c l W hn (by omega) (by omega) (h4.below (B := w.heap.size) hW h3) (Nat.lt_of_lt_of_le h3 hW.size) h5)
    rw [simple_same] at S
    clear hn hx h4 h5 e1
    generalize simpE l = r at *
    cases hs : simpleB l
    all_goals
      have E2 := Lib.hid (E1.out.trans (by rw [hs]))
      rw [hs] at S
      go_enter Try.func26, Try.ntmps26
      go_wp2_with fail
      refine (K.out).mono ?_
      rintro e w1 ⟨rfl, hb⟩
      go_wp2_with fail
      refine ((S _ hb).out).mono ?_
      rintro e w2 ⟨rfl, hb2⟩
      go_wp2
      go_ret
      exact ⟨ret_int E2.out.symm, hb.trans (hb2.mono hb.size)⟩

theorem simpE_cases (l : List Pt) : (simpE l = 1 ∧ polyB l = false) ∨ (simpE l = 2 ∧ polyB l = true ∧ simpleB l = false) ∨ (simpE l = 0 ∧ polyB l = true ∧ simpleB l = true) := by
  unfold simpE
  cases polyB l <;> cases simpleB l <;> simp

theorem simpE_zero {l : List Pt} (h0 : simpE l = 0) : polyB l = true ∧ simpleB l = true := by
  rcases simpE_cases l with h | h | h
  · rw [h.1] at h0; cases h0
  · rw [h.1] at h0; cases h0
  · exact h.2

def whereX (l : List Pt) (p : Pt) : Int := if simpE l = 0 ∧ validB p.1 p.2 10000 = true then whereR l p else 0
def whereE (l : List Pt) (p : Pt) : Int := if simpE l = 0 then (if validB p.1 p.2 10000 then 0 else 1) else simpE l

theorem valid_Bd {p : Pt} (h : validB p.1 p.2 10000 = true) : Bd p := Bd.of_ok (p := p) h

end Go.Proofs.Ytfdoijjojaehaaa

/- Package shape's areApart: is one polygon beyond an edge of the other? And the reference's parts. -/
namespace Go.Proofs.Ytfdoijjojaehaaa
open Go.RowKit Go.Sort
attribute [local go_sem ↓] run_min_mn run_max_mx Go.wp_at_zero Go.wp_at_succ

def leftQ (p q x : Pt) : Bool := decide (0 < crossP p q x)
def anyLeft (p q : Pt) (l : List Pt) : Bool := l.any (leftQ p q)
def FoundLeft (p q : Pt) (l : List Pt) (w : World) (e : Ending) (w' : World) : Prop := ∃ i : Int, e = .returned (.int .i64 i) ∧ decide (0 ≤ i) = anyLeft p q l ∧ Below w.heap.size w w'

def beyondAt (a b : List Pt) (i : Nat) : Bool := !anyLeft (gt a i) (nx a i) b
def beyondB (a b : List Pt) : Bool := (List.range a.length).any (beyondAt a b)
def apartB (a b : List Pt) : Bool := beyondB a b || beyondB b a

end Go.Proofs.Ytfdoijjojaehaaa

/- Package shape's checkConvex and Apart; the law's own 'convex'; the reference's Moved and Apart. -/
namespace Go.Proofs.Ytfdoijjojaehaaa
open Go.RowKit Go.Sort
attribute [local go_sem ↓] run_min_mn run_max_mx Go.wp_at_zero Go.wp_at_succ

def conE (l : List Pt) : Int := if polyB l then (if convexB l then 0 else 2) else 1
theorem conE_cases (l : List Pt) : (conE l = 1 ∧ polyB l = false) ∨ (conE l = 2 ∧ polyB l = true ∧ convexB l = false) ∨ (conE l = 0 ∧ polyB l = true ∧ convexB l = true) := by
  unfold conE
  cases polyB l <;> cases convexB l <;> simp
theorem conE_zero {l : List Pt} (h0 : conE l = 0) : polyB l = true ∧ convexB l = true := by
  rcases conE_cases l with h | h | h
  · rw [h.1] at h0; cases h0
  · rw [h.1] at h0; cases h0
  · exact h.2
theorem conE_rng (l : List Pt) : 0 ≤ conE l ∧ conE l ≤ 2 := by
  rcases conE_cases l with h | h | h <;> omega

def convsE : List (List Pt) → Int
  | [] => 0
  | l :: L => if conE l = 0 then convsE L else conE l
theorem convsE_skip {L : List (List Pt)} {k : Nat} (hk : k < L.length) (h : conE L[k] = 0) : convsE (L.drop (k + 1)) = convsE (L.drop k) := by
  rw [List.drop_eq_getElem_cons hk]
  show _ = if conE L[k] = 0 then convsE (L.drop (k + 1)) else conE L[k]
  rw [if_pos h]
theorem convsE_here {L : List (List Pt)} {k : Nat} (hk : k < L.length) (h : conE L[k] ≠ 0) : convsE (L.drop k) = conE L[k] := by
  rw [List.drop_eq_getElem_cons hk]
  show (if conE L[k] = 0 then convsE (L.drop (k + 1)) else conE L[k]) = _
  rw [if_neg h]

/-- A row of slices of points. -/
def PolysIn (w : World) (b off : Nat) (L : List (List Pt)) : Prop :=
  ∀ i l, L[i]? = some l → ∃ A n c, w.cell? ⟨b, off + i, none⟩ = some (.slice A n c) ∧ l.length = n ∧ n ≤ 1000000 ∧ PtsAt w A l
theorem PolysIn.below {w w' : World} {b off : Nat} {L : List (List Pt)} (h : PolysIn w b off L) (hb : Below w.heap.size w w') (hB : b < w.heap.size) : PolysIn w' b off L := fun i l hi => by
  obtain ⟨A, n, c, h1, h2, h3, h4⟩ := h i l hi
  exact ⟨A, n, c, (hb.cell (p := ⟨b, _, none⟩) hB).trans h1, h2, h3, h4.below hb⟩

set_option maxRecDepth 100000 in
set_option maxHeartbeats 1000000 in
theorem checkConvex_any (b off n c : Nat) (L : List (List Pt)) (w : World) (hl : L.length = n) (hn' : n ≤ 1000) (h : PolysIn w b off L) (hb : b < w.heap.size) :
    Calls Try.prog 10 #[.slice (some ⟨b, off, none⟩) n c] w fun e w' => e = .returned (.int .i64 (convsE L)) ∧ Below w.heap.size w w' := by
  have HL := Lib.hid hl
  have HP := Lib.hid h
  clear hl h
  go_enter Try.func10, Try.ntmps10
  go_wp2
  go_loopw [7] (fun i wr => ∃ k : Nat, k ≤ n ∧ i = .int .i64 k ∧ convsE (L.drop k) = convsE L ∧ Below w.heap.size w wr) (fun i _ => n - (intOf i).toNat)
  case atStart => exact ⟨0, Nat.zero_le _, rfl, rfl, Below.refl _ _⟩
  case round =>
    obtain ⟨k, hk, rfl, hz, hbw⟩ := hrel
    have HZ := Lib.hid hz
    clear hz
    by_cases hlt : k < n
    · have hkl : k < L.length := by rw [HL.out]; exact hlt
      obtain ⟨A, m, d, h1, h2, h3, h4⟩ := (HP.out.below hbw hb) k L[k] (List.getElem?_eq_getElem hkl)
      have hB : b < wr.heap.size := Nat.lt_of_lt_of_le hb hbw.size
      have KP := fun W hW => Lib.hid (isPolygon_any A m d L[k] W h2 h3 (h4.below (w' := W) hW))
      have HE1 : Hid (conE L[k] = 0 → convsE (L.drop (k + 1)) = convsE L) := Lib.hid fun h => (convsE_skip hkl h).trans HZ.out
      have HE2 : Hid (conE L[k] ≠ 0 → convsE L = conE L[k]) := Lib.hid fun h => HZ.out.symm.trans (convsE_here hkl h)
      generalize L[k] = l at *
      cases hp : polyB l
      · have HE : Hid (convsE L = 1) := Lib.hid (by
          have e : conE l = 1 := by unfold conE; rw [hp]; rfl
          rw [HE2.out (by rw [e]; decide), e])
        rw [hp] at KP
        clear h2 h4
        go_wp2_with fail
        refine ((KP _ (Below.refl _ _)).out).mono ?_
        rintro e w1 ⟨rfl, hb1⟩
        have hbw1 := hbw.trans (hb1.mono hbw.size)
        go_wp2_with fail
        go_ret
        exact ⟨ret_int HE.out.symm, hbw1⟩
      · rw [hp] at KP
        obtain ⟨b2, off2, rfl, g1, g2, g3, g4, g5⟩ := h4.poly h2 hp
        have KC := fun W hW => Lib.hid (isConvex_any b2 off2 m d l W h2 (by omega) (by omega) (g4.below (B := wr.heap.size) hW g3) (Nat.lt_of_lt_of_le g3 hW.size) g5)
        rw [convex_same] at KC
        clear h2 h4 g4 g5
        cases hc : convexB l
        · have HE : Hid (convsE L = 2) := Lib.hid (by
            have e : conE l = 2 := by unfold conE; rw [hp, hc]; rfl
            rw [HE2.out (by rw [e]; decide), e])
          rw [hc] at KC
          go_wp2_with fail
          refine ((KP _ (Below.refl _ _)).out).mono ?_
          rintro e w1 ⟨rfl, hb1⟩
          go_wp2_with fail
          refine ((KC _ hb1).out).mono ?_
          rintro e w2 ⟨rfl, hb2⟩
          have hbw2 := hbw.trans ((hb1.trans (hb2.mono hb1.size)).mono hbw.size)
          go_wp2_with fail
          go_ret
          exact ⟨ret_int HE.out.symm, hbw2⟩
        · have HE := Lib.hid (HE1.out (by unfold conE; rw [hp, hc]; rfl))
          rw [hc] at KC
          go_wp2_with fail
          refine ((KP _ (Below.refl _ _)).out).mono ?_
          rintro e w1 ⟨rfl, hb1⟩
          go_wp2_with fail
          refine ((KC _ hb1).out).mono ?_
          rintro e w2 ⟨rfl, hb2⟩
          have hbw2 := hbw.trans ((hb1.trans (hb2.mono hb1.size)).mono hbw.size)
          go_wp2_with fail
          go_roundw
          case rel => exact ⟨k + 1, by omega, by go_num, HE.out, hbw2⟩
          case measure => simp [intOf]; omega
    · have HE : Hid (convsE L = 0) := Lib.hid (by
        rw [← HZ.out, List.drop_of_length_le (by rw [HL.out]; omega)]; rfl)
      go_wp2_with fail
      go_ret
      exact ⟨ret_int HE.out.symm, hbw⟩

theorem ok_Bd {l : List Pt} (h : l.all okP = true) : ∀ x ∈ l, Bd x := fun x hx => Bd.of_ok (List.all_eq_true.1 h x hx)
theorem moved_Bd {l : List Pt} {v : Pt} (h : l.all okP = true) (hv : validB v.1 v.2 20000 = true) : ∀ x ∈ movedL l v, Bd x := fun x hx => by
  obtain ⟨p, hp, rfl⟩ := List.mem_map.1 hx
  obtain ⟨h1, h2⟩ := okP_bd (List.all_eq_true.1 h p hp)
  have : (-20000 ≤ v.1 ∧ v.1 ≤ 20000) ∧ (-20000 ≤ v.2 ∧ v.2 ≤ 20000) := by simpa [validB, inB] using hv
  unfold Bd addP
  simp only
  omega
theorem valid_Bd2 {v : Pt} (hv : validB v.1 v.2 20000 = true) : Bd v := by
  have : (-20000 ≤ v.1 ∧ v.1 ≤ 20000) ∧ (-20000 ≤ v.2 ∧ v.2 ≤ 20000) := by simpa [validB, inB] using hv
  unfold Bd
  omega

/-- What Apart says: whether, and the error. -/
def apE (a b : List Pt) (v : Pt) : Int := if conE a = 0 then (if conE b = 0 then (if validB v.1 v.2 20000 then 0 else 1) else conE b) else conE a
def apX (a b : List Pt) (v : Pt) : Bool := if apE a b v = 0 then apartB a (movedL b v) else false
theorem apE_zero {a b : List Pt} {v : Pt} (h : apE a b v = 0) : conE a = 0 ∧ conE b = 0 ∧ validB v.1 v.2 20000 = true := by
  unfold apE at h
  split at h
  · split at h
    · split at h
      · exact ⟨by assumption, by assumption, by assumption⟩
      · cases h
    · rename_i h1 h2; exact absurd h h2
  · rename_i h2; exact absurd h h2
theorem convs_two (a b : List Pt) : convsE [a, b] = if conE a = 0 then conE b else conE a := by
  show (if conE a = 0 then (if conE b = 0 then 0 else conE b) else conE a) = _
  split
  · split
    · rename_i h; exact h.symm
    · rfl
  · rfl

end Go.Proofs.Ytfdoijjojaehaaa

/- The reference's Moved, parts and Apart. -/
namespace Go.Proofs.Ytfdoijjojaehaaa
open Go.RowKit Go.Sort
attribute [local go_sem ↓] run_min_mn run_max_mx Go.wp_at_zero Go.wp_at_succ

theorem PtsOwn.low {w : World} {base base' : Nat} {v : Value} {xs : List Pt} (h : PtsOwn w base v xs) (hb : base' ≤ base) : PtsOwn w base' v xs := by
  unfold PtsOwn World.ownsRow at *
  obtain ⟨h1, h2⟩ := h
  refine ⟨h1, ?_⟩
  rcases h2 with h2 | ⟨g, cap, cur, e, hg, r⟩
  · exact .inl h2
  · exact .inr ⟨g, cap, cur, e, Nat.le_trans hb hg, r⟩
theorem PtsOwn.alloc {w : World} {base : Nat} {v : Value} {xs : List Pt} (h : PtsOwn w base v xs) (o : Obj) : PtsOwn (w.alloc o) base v xs := World.ownsRow.alloc h o
theorem PtsOwn.drew {w : World} {base : Nat} {v : Value} {xs : List Pt} (h : PtsOwn w base v xs) : PtsOwn w.drew base v xs := h
theorem PtsOwn.base {w : World} {base : Nat} {v : Value} {xs : List Pt} (h : PtsOwn w base v xs) : ∀ k, v.ownBlock = some k → base ≤ k ∧ k < w.heap.size := World.ownsRow.lt h
theorem PtsAt.one (W : World) (x y : Int) : PtsAt (W.alloc (.cells #[.int .i64 x, .int .i64 y] 33)) (some ⟨W.heap.size, 0, none⟩) [(x, y)] := fun _ =>
  ⟨W.heap.size, 0, rfl, by simp, fun i p hp => by
    match i, hp with
    | 0, hp =>
      obtain rfl : (x, y) = p := by simpa using hp
      constructor <;> simp [World.cell?_alloc_new]⟩

/-- An append as one step of a region that draws its order. -/
theorem step_papp {w : World} {ops : Array Oper} {o : Oper} {a : Act} {K : Act → World → Prop} {Q : Exit → Act → World → Prop} {E : Prop} (hgd : o.guard = none) (s x : Operand)
    (ho : o.op = .call { callee := .builtin .append, args := #[s, x], argTypes := #[22, 22] }) (base : Nat) (v : Value) (xs ys : List Pt) (A : Option Addr) (m c : Nat)
    (hs : a.eval s = v) (hx : a.eval x = .slice A m c) (hown : PtsOwn w base v xs) (hm : ys.length = m) (hy : PtsAt w A ys) (hlen : xs.length + ys.length ≤ 100000) (hb : base ≤ w.heap.size)
    (h : ∀ v' w', PtsOwn w' base v' (xs ++ ys) → w.grownBy w' v.ownBlock → (v'.ownBlock = v.ownBlock ∨ v'.ownBlock = some w.heap.size) → K (a.put o.dst v') w') :
    if Region.wanted o (yielded ops a.tmps) = true then Oper.wp Try.prog o a w K Q else E := by
  have hw : Region.wanted o (yielded ops a.tmps) = true := by simp [Region.wanted, hgd]
  rw [if_pos hw]
  subst hm
  obtain ⟨v', w', hr, h2, h3, h4⟩ := papp_run hown c hy hlen hb o.type
  unfold Oper.wp execOp
  simp only [ho, resolve, invoke, builtin, Sem.run_bind, Sem.run_pure, Result.andThen_ok, List.map_toArray, List.map_cons, List.map_nil, hs, hx, hr]
  exact h v' w' h2 h3 h4

/-- Four cells of old blocks stay behind an append to a row of the call's own. -/
theorem cells4_grown {w W w1 : World} {b o1 o2 g B : Nat} {v1 v2 v3 v4 : Value} {row : Option Nat} (hg : W.grownBy w1 row) (hr : ∀ k, row = some k → B ≤ k) (hb : b < B) (hgg : g < B) (hs : B ≤ W.heap.size)
    (h : W.cell? ⟨b, o1, none⟩ = some v1 ∧ W.cell? ⟨b, o2, none⟩ = some v2 ∧ W.cell? ⟨g, 0, none⟩ = some v3 ∧ W.cell? ⟨g, 1, none⟩ = some v4) :
    w1.cell? ⟨b, o1, none⟩ = some v1 ∧ w1.cell? ⟨b, o2, none⟩ = some v2 ∧ w1.cell? ⟨g, 0, none⟩ = some v3 ∧ w1.cell? ⟨g, 1, none⟩ = some v4 := by
  have hB : Below B W w1 := (Below.refl _ _).grown hg hs hr
  exact ⟨(hB.cell (p := ⟨b, _, none⟩) hb).trans h.1, (hB.cell (p := ⟨b, _, none⟩) hb).trans h.2.1, (hB.cell (p := ⟨g, _, none⟩) hgg).trans h.2.2.1, (hB.cell (p := ⟨g, _, none⟩) hgg).trans h.2.2.2⟩

def RefMovedTo (l : List Pt) (w : World) (e : Ending) (w' : World) : Prop := ∃ v, e = .returned v ∧ PtsOwn w' w.heap.size v l ∧ Below w.heap.size w w'

def rightQ (p q x : Pt) : Bool := decide (crossP p q x ≤ 0)
def partsAt (a b : List Pt) (i : Nat) : Bool := b.all (rightQ (gt a i) (nx a i))
def partsB (a b : List Pt) : Bool := (List.range a.length).any (partsAt a b)
theorem parts_at (a b : List Pt) (i : Nat) : partsAt a b i = beyondAt a b i := by
  unfold partsAt beyondAt anyLeft
  generalize gt a i = p
  generalize nx a i = q
  induction b with
  | nil => rfl
  | cons x b ih =>
    rw [List.all_cons, List.any_cons, ih, Bool.not_or]
    congr 1
    unfold rightQ leftQ
    by_cases h : crossP p q x ≤ 0
    · rw [decide_eq_true h, decide_eq_false (by omega)]; rfl
    · rw [decide_eq_false h, decide_eq_true (by omega)]; rfl
theorem parts_same (a b : List Pt) : partsB a b = beyondB a b := by
  unfold partsB beyondB
  rw [show partsAt a b = beyondAt a b from funext (parts_at a b)]

end Go.Proofs.Ytfdoijjojaehaaa

/- Shape: the law's points: any points, with coordinates up to a limit. -/
namespace Go.Proofs.Ytfdoijjojaehaaa
open Go.RowKit Go.Sort
attribute [local go_sem ↓] run_min_mn run_max_mx

/-- A point's rest. -/
def tmP (p : Pt) : Pt := (p.1.tmod 10001, p.2.tmod 10001)
def foldL (xs : List Pt) : List Pt := xs.map tmP
theorem foldL_length (xs : List Pt) : (foldL xs).length = xs.length := by simp [foldL]
theorem tmod_bd (x : Int) : -10000 ≤ x.tmod 10001 ∧ x.tmod 10001 ≤ 10000 := by
  have a := Int.tmod_lt_of_pos x (b := 10001) (by omega)
  have b := Int.lt_tmod_of_pos x (b := 10001) (by omega)
  omega

def PointsTo (w : World) (l : List Pt) (e : Ending) (w' : World) : Prop := ∃ v, e = .returned v ∧ PtsOwn w' w.heap.size v l ∧ Below w.heap.size w w'

set_option maxRecDepth 100000 in
set_option maxHeartbeats 2000000 in
theorem points_any (A : Option Addr) (n c : Nat) (xs : List Pt) (w : World) (hn : xs.length = n) (hbig : n ≤ 9223372036854775807) (hx : PtsAt w A xs) (hw : ∀ x ∈ xs, (-9223372036854775808 ≤ x.1 ∧ x.1 ≤ 9223372036854775807) ∧ (-9223372036854775808 ≤ x.2 ∧ x.2 ≤ 9223372036854775807)) :
    Calls Try.prog 8 #[.slice A n c, .int .i64 10000, .int .i64 20] w (PointsTo w (foldL (xs.take 20))) := by
  have HN := Lib.hid hn
  have HX := Lib.hid hx
  have HW := Lib.hid hw
  clear hn hx hw
  go_enter Try.func8, Try.ntmps8
  go_wp2
  go_loopw [7, 8] (fun o i wr => ∃ k : Nat, k ≤ n ∧ k ≤ 20 ∧ i = .int .i64 k ∧ PtsOwn wr w.heap.size o (foldL (xs.take k)) ∧ Below w.heap.size w wr) (fun _ i _ => 20 - (intOf i).toNat)
  case atStart => exact ⟨0, Nat.zero_le _, by omega, rfl, by simpa [foldL] using PtsOwn.empty w, (Below.refl _ _).alloc (Nat.le_refl _) _⟩
  case round =>
    obtain ⟨k, hk, hk20, rfl, hown, hbr⟩ := hrel
    have HO := Lib.hid hown
    have HB := Lib.hid hbr
    have hsz := hbr.size
    clear hown
    by_cases hlt : k < n ∧ k < 20
    · obtain ⟨hlt, hlt2⟩ := hlt
      have hkl : k < xs.length := by rw [HN.out]; exact hlt
      obtain ⟨b, off, rfl, hb, hin⟩ := HX.out (by intro e; subst e; simp at hkl)
      obtain ⟨h1, h2⟩ := (hin.below hbr hb) k _ (List.getElem?_eq_getElem hkl)
      obtain ⟨⟨d3, d4⟩, d5, d6⟩ := HW.out _ (List.getElem_mem hkl)
      have HNX : Hid (foldL (xs.take (k + 1)) = foldL (xs.take k) ++ [tmP xs[k]]) := Lib.hid (by
        rw [List.take_succ_eq_append_getElem hkl]; unfold foldL; rw [List.map_append]; rfl)
      have HLN : Hid ((foldL (xs.take k)).length ≤ 100) := Lib.hid (by rw [foldL_length, List.length_take]; omega)
      generalize xs[k] = p at *
      generalize foldL (xs.take k) = cur at *
      obtain ⟨x, y⟩ := p
      replace d3 : -9223372036854775808 ≤ x := d3
      replace d4 : x ≤ 9223372036854775807 := d4
      replace d5 : -9223372036854775808 ≤ y := d5
      replace d6 : y ≤ 9223372036854775807 := d6
      have ne1 : u7.ownBlock ≠ some b := fun e => by have := (HO.out.base b e).1; omega
      have hB : b < wr.heap.size := by omega
      clear hin
      have l1 : b < (wr.alloc (.cells #[.int .i64 (x.tmod 10001), .int .i64 (y.tmod 10001)] 33)).drew.heap.size := by simp; omega
      have k1 : (wr.alloc (.cells #[.int .i64 (x.tmod 10001), .int .i64 (y.tmod 10001)] 33)).drew.cell? ⟨b, off + k * 2, none⟩ = some (.int .i64 x) := (World.cell?_alloc_lt wr _ ⟨b, _, none⟩ hB).trans h1
      have k2 : (wr.alloc (.cells #[.int .i64 (x.tmod 10001), .int .i64 (y.tmod 10001)] 33)).drew.cell? ⟨b, off + k * 2 + 1, none⟩ = some (.int .i64 y) := (World.cell?_alloc_lt wr _ ⟨b, _, none⟩ hB).trans h2
      have hlim : IntKind.i64.wrap 10001 = 10001 := by decide
      have hlim2 : IntKind.i64.wrap (10000 + 1) = 10001 := by decide
      have r1 : IntKind.i64.wrap (x.tmod 10001) = x.tmod 10001 := by have := tmod_bd x; rw [IntKind.wrap_i64]; omega
      have r2 : IntKind.i64.wrap (y.tmod 10001) = y.tmod 10001 := by have := tmod_bd y; rw [IntKind.wrap_i64]; omega
      go_wp2_with fail
      go_region_held3 (fun w' => w'.cell? ⟨b, off + k * 2, none⟩ = some (.int .i64 x) ∧ w'.cell? ⟨b, off + k * 2 + 1, none⟩ = some (.int .i64 y))
        (first
          | go_keep
          | exact ⟨(hgrow.cell_far _ l1 (Ne.symm ne1)).trans k1, (hgrow.cell_far _ l1 (Ne.symm ne1)).trans k2⟩)
        ((refine step_papp (by rfl) _ _ (by rfl) w.heap.size _ cur [(x.tmod 10001, y.tmod 10001)] (some ⟨wr.heap.size, 0, none⟩) 1 1 (by rfl) (by rfl) ((HO.out.alloc _).drew) rfl (PtsAt.one wr _ _) (by have := HLN.out; simp; omega) (by simp; omega) ?_; intro v1 w2 hown1 hgrow hat))
      have HO2 : Hid (PtsOwn w2 w.heap.size v1 (foldL (xs.take (k + 1)))) := Lib.hid (by rw [HNX.out]; exact hown1)
      have HB2 : Hid (Below w.heap.size w w2) := Lib.hid ((hbr.alloc (by omega) _).drew.grown hgrow (by simp; omega) (fun k hk => (HO.out.base k hk).1))
      clear hown1 hgrow hat k1 k2 l1 r1 r2
      go_wp2_with fail
      go_roundw
      case rel => exact ⟨k + 1, by omega, by omega, by go_num, HO2.out, HB2.out⟩
      case measure => simp [intOf]; omega
    · have HF : Hid (foldL (xs.take k) = foldL (xs.take 20)) := Lib.hid (by
        rcases Nat.lt_or_ge k 20 with g | g
        · rw [List.take_of_length_le (by rw [HN.out]; omega), List.take_of_length_le (by rw [HN.out]; omega)]
        · rw [show k = 20 by omega])
      by_cases g : k < n
      · have g20 : k = 20 := by omega
        go_wp2_with fail
        go_ret
        exact ⟨_, rfl, by rw [← HF.out]; exact HO.out, HB.out⟩
      · go_wp2_with fail
        go_ret
        exact ⟨_, rfl, by rw [← HF.out]; exact HO.out, HB.out⟩

end Go.Proofs.Ytfdoijjojaehaaa

/- Plain mathematics of convex hulls: the monotone chain. -/
namespace Go.Proofs.Ytfdoijjojaehaaa

/-- The cross product of two vectors. -/
def xr (u v : Pt) : Int := u.1 * v.2 - v.1 * u.2
def subP (a b : Pt) : Pt := (a.1 - b.1, a.2 - b.2)
/-- Upward, or to the right. -/
def Up (v : Pt) : Prop := 0 < v.2 ∨ (v.2 = 0 ∧ 0 < v.1)
/-- From below, then from the left. -/
def ltP (a b : Pt) : Prop := a.2 < b.2 ∨ (a.2 = b.2 ∧ a.1 < b.1)
def leP (a b : Pt) : Prop := a = b ∨ ltP a b

theorem up_sub {a b : Pt} : Up (subP b a) ↔ ltP a b := by unfold Up subP ltP; simp only; omega
theorem ltP_trans {a b c : Pt} (h : ltP a b) (k : ltP b c) : ltP a c := by unfold ltP at *; omega
theorem ltP_irrefl (a : Pt) : ¬ ltP a a := by unfold ltP; omega
theorem ltP_asymm {a b : Pt} (h : ltP a b) : ¬ ltP b a := by unfold ltP at *; omega
theorem leP_trans {a b c : Pt} (h : leP a b) (k : leP b c) : leP a c := by
  rcases h with rfl | h
  · exact k
  · rcases k with rfl | k
    · exact .inr h
    · exact .inr (ltP_trans h k)
theorem leP_refl (a : Pt) : leP a a := .inl rfl
theorem ltP_leP {a b c : Pt} (h : ltP a b) (k : leP b c) : ltP a c := by
  rcases k with rfl | k
  · exact h
  · exact ltP_trans h k
theorem leP_ltP {a b c : Pt} (h : leP a b) (k : ltP b c) : ltP a c := by
  rcases h with rfl | h
  · exact k
  · exact ltP_trans h k
theorem leP_total (a b : Pt) : leP a b ∨ ltP b a := by
  obtain ⟨x, y⟩ := a
  obtain ⟨u, v⟩ := b
  unfold leP ltP
  simp only [Prod.mk.injEq]
  omega
theorem leP_anti {a b : Pt} (h : leP a b) (k : leP b a) : a = b := by
  rcases h with h | h
  · exact h
  · rcases k with k | k
    · exact k.symm
    · exact absurd k (ltP_asymm h)

theorem nonneg_of_mul {v z s : Int} (hv : 0 < v) (h : v * z = s) (hs : 0 ≤ s) : 0 ≤ z := by
  rcases Int.lt_or_le z 0 with g | g
  · have := Int.mul_neg_of_pos_of_neg hv g; omega
  · exact g
theorem pos_of_mul {v z s : Int} (hv : 0 < v) (h : v * z = s) (hs : 0 < s) : 0 < z := by
  rcases Int.lt_or_le 0 z with g | g
  · exact g
  · have := Int.mul_nonpos_of_nonneg_of_nonpos (Int.le_of_lt hv) g; omega
theorem up_y {u : Pt} (h : Up u) : 0 ≤ u.2 := by unfold Up at h; omega

/-- In the upper half plane the angles are ordered. -/
theorem xr_trans {u v w : Pt} (hu : Up u) (hv : Up v) (hw : Up w) (h : 0 ≤ xr u v) (k : 0 ≤ xr v w) : 0 ≤ xr u w := by
  have e : v.2 * xr u w = w.2 * xr u v + u.2 * xr v w := by unfold xr; grind
  have a1 := Int.mul_nonneg (up_y hw) h
  have a2 := Int.mul_nonneg (up_y hu) k
  rcases hv with g | ⟨g, g'⟩
  · exact nonneg_of_mul g e (by omega)
  · have e2 : xr u v = - (v.1 * u.2) := by unfold xr; rw [g]; grind
    have e3 : xr v w = v.1 * w.2 := by unfold xr; rw [g]; grind
    have u0 : u.2 = 0 := by
      rcases Int.lt_or_le 0 u.2 with q | q
      · have := Int.mul_pos g' q; omega
      · have := up_y hu; omega
    have e4 : xr u w = u.1 * w.2 := by unfold xr; rw [u0]; grind
    have hu1 : 0 < u.1 := by unfold Up at hu; omega
    rw [e4]
    exact Int.mul_nonneg (Int.le_of_lt hu1) (up_y hw)
theorem xr_trans1 {u v w : Pt} (hu : Up u) (hv : Up v) (hw : Up w) (h : 0 < xr u v) (k : 0 ≤ xr v w) : 0 < xr u w := by
  have e : v.2 * xr u w = w.2 * xr u v + u.2 * xr v w := by unfold xr; grind
  have hv2 : 0 < v.2 := by
    rcases hv with g | ⟨g, g'⟩
    · exact g
    · have e2 : xr u v = - (v.1 * u.2) := by unfold xr; rw [g]; grind
      have := Int.mul_nonneg (Int.le_of_lt g') (up_y hu)
      omega
  have hw2 : 0 < w.2 := by
    rcases hw with g | ⟨g, g'⟩
    · exact g
    · have e2 : xr v w = - (w.1 * v.2) := by unfold xr; rw [g]; grind
      have := Int.mul_pos g' hv2
      omega
  have a1 := Int.mul_pos hw2 h
  have a2 := Int.mul_nonneg (up_y hu) k
  exact pos_of_mul hv2 e (by omega)
theorem xr_trans2 {u v w : Pt} (hu : Up u) (hv : Up v) (hw : Up w) (h : 0 ≤ xr u v) (k : 0 < xr v w) : 0 < xr u w := by
  have e : v.2 * xr u w = w.2 * xr u v + u.2 * xr v w := by unfold xr; grind
  have hw2 : 0 < w.2 := by
    rcases hw with g | ⟨g, g'⟩
    · exact g
    · have e2 : xr v w = - (w.1 * v.2) := by unfold xr; rw [g]; grind
      have := Int.mul_nonneg (Int.le_of_lt g') (up_y hv)
      omega
  rcases hv with g | ⟨g, g'⟩
  · rcases hu with q | ⟨q, q'⟩
    · have a1 := Int.mul_nonneg (up_y (.inl hw2)) h
      have a2 := Int.mul_pos q k
      exact pos_of_mul g e (by omega)
    · have e2 : xr u v = u.1 * v.2 := by unfold xr; rw [q]; grind
      have e3 : xr u w = u.1 * w.2 := by unfold xr; rw [q]; grind
      rw [e3]; exact Int.mul_pos q' hw2
  · have e2 : xr u v = - (v.1 * u.2) := by unfold xr; rw [g]; grind
    have u0 : u.2 = 0 := by
      rcases Int.lt_or_le 0 u.2 with q | q
      · have := Int.mul_pos g' q; omega
      · have := up_y hu; omega
    have e4 : xr u w = u.1 * w.2 := by unfold xr; rw [u0]; grind
    have hu1 : 0 < u.1 := by unfold Up at hu; omega
    rw [e4]; exact Int.mul_pos hu1 hw2

theorem crossP_xr (a b c : Pt) : crossP a b c = xr (subP b a) (subP c a) := by unfold crossP cross xr subP; grind
theorem crossP_xr2 (a b c : Pt) : crossP a b c = xr (subP b a) (subP c b) := by unfold crossP cross xr subP; grind

/-- A point is to the left of an edge, or on it. -/
def LeftOn (a b p : Pt) : Prop := 0 < crossP a b p ∨ onP a b p = true
theorem onP_cross {a b p : Pt} (h : onP a b p = true) : crossP a b p = 0 := by
  unfold onP onB at h
  simp only [Bool.and_eq_true, beq_iff_eq] at h
  exact h.1.1
theorem LeftOn.nonneg {a b p : Pt} (h : LeftOn a b p) : 0 ≤ crossP a b p := by
  rcases h with h | h
  · omega
  · rw [onP_cross h]; omega
/-- On a line, what lies between in the order lies between. -/
theorem on_of_between {a b p : Pt} (h : crossP a b p = 0) (h1 : leP a p) (h2 : leP p b) : onP a b p = true := by
  obtain ⟨ax, ay⟩ := a
  obtain ⟨bx, by'⟩ := b
  obtain ⟨px, py⟩ := p
  rcases h1 with e | h1
  · rw [← e]; exact onP_start _ _
  · rcases h2 with e | h2
    · rw [e]
      have := (on_iff ax ay (bx - ax) (by' - ay) (bx - ax) (by' - ay)).2 ⟨by unfold al; grind, by unfold btw; omega, by unfold btw; omega⟩
      rw [show ax + (bx - ax) = bx by omega, show ay + (by' - ay) = by' by omega] at this
      exact this
    · have hc : (bx - ax) * (py - ay) = (px - ax) * (by' - ay) := by unfold crossP cross at h; simp only at h; omega
      have key := (on_iff ax ay (bx - ax) (by' - ay) (px - ax) (py - ay))
      rw [show ax + (bx - ax) = bx by omega, show ay + (by' - ay) = by' by omega, show ax + (px - ax) = px by omega, show ay + (py - ay) = py by omega] at key
      refine key.2 ⟨by unfold al; omega, ?_⟩
      unfold ltP at h1 h2
      simp only at h1 h2
      have hy : btw (py - ay) (by' - ay) := by unfold btw; omega
      by_cases e : by' - ay = 0
      · refine ⟨?_, hy⟩
        unfold btw; omega
      · exact ⟨btw_dim e (by rw [Int.mul_comm, ← hc, Int.mul_comm]) hy, hy⟩


theorem onP_end (a b : Pt) (h : leP a b) : onP a b b = true := on_of_between (by unfold crossP cross; grind) h (leP_refl b)

/-- The edges of a chain whose last point stands first. -/
def edges : List Pt → List (Pt × Pt)
  | b :: a :: r => (a, b) :: edges (a :: r)
  | _ => []
def EdgeOK (P : List Pt) (a b : Pt) : Prop := ∀ p ∈ P, LeftOn a b p
def vec (e : Pt × Pt) : Pt := subP e.2 e.1
def Chn (P : List Pt) : List Pt → Prop
  | b :: a :: r => Chn P (a :: r) ∧ ltP a b ∧ EdgeOK P a b ∧ ∀ e ∈ edges (a :: r), 0 < xr (vec e) (subP b a)
  | _ => True
def popW (x : Pt) : List Pt → List Pt
  | b :: a :: r => if crossP a b x ≤ 0 then popW x (a :: r) else b :: a :: r
  | l => l
def pushW (st : List Pt) (x : Pt) : List Pt := x :: popW x st
def chainW (l : List Pt) : List Pt := l.foldl pushW []

theorem chn_edges {P : List Pt} : ∀ {st : List Pt}, Chn P st → ∀ e ∈ edges st, ltP e.1 e.2 ∧ EdgeOK P e.1 e.2
  | [], _, _, h => by cases h
  | [_], _, _, h => by cases h
  | b :: a :: r, hc, e, h => by
    obtain ⟨h1, h2, h3, _⟩ := hc
    rcases List.mem_cons.1 h with rfl | h
    · exact ⟨h2, h3⟩
    · exact chn_edges h1 e h
theorem chn_more {P : List Pt} {x : Pt} : ∀ {st : List Pt}, Chn P st → (∀ e ∈ edges st, LeftOn e.1 e.2 x) → Chn (x :: P) st
  | [], _, _ => trivial
  | [_], _, _ => trivial
  | b :: a :: r, hc, h => by
    obtain ⟨h1, h2, h3, h4⟩ := hc
    refine ⟨chn_more h1 (fun e he => h e (List.mem_cons_of_mem _ he)), h2, fun p hp => ?_, h4⟩
    rcases List.mem_cons.1 hp with rfl | hp
    · exact h (a, b) (List.mem_cons_self)
    · exact h3 p hp
theorem edges_mem : ∀ {st : List Pt} {e : Pt × Pt}, e ∈ edges st → e.1 ∈ st ∧ e.2 ∈ st
  | [], _, h => by cases h
  | [_], _, h => by cases h
  | b :: a :: r, e, h => by
    rcases List.mem_cons.1 h with rfl | h
    · exact ⟨by simp, by simp⟩
    · obtain ⟨h1, h2⟩ := edges_mem h
      exact ⟨List.mem_cons_of_mem _ h1, List.mem_cons_of_mem _ h2⟩

theorem q_step {P : List Pt} {a t x : Pt} (h1 : ltP a t) (h2 : ltP t x) (hx : ∀ p ∈ P, leP p x) (hc : crossP a t x ≤ 0) (he : EdgeOK P a t) (hq : ∀ p ∈ P, leP t p → LeftOn t x p) :
    ∀ p ∈ P, leP a p → LeftOn a x p := by
  intro p hp hap
  have hax := ltP_trans h1 h2
  have hpx := hx p hp
  have hA : Up (subP t a) := up_sub.2 h1
  have hB : Up (subP x t) := up_sub.2 h2
  have hAB : Up (subP x a) := up_sub.2 hax
  have hBA : 0 ≤ xr (subP x t) (subP t a) := by
    have : crossP a t x = - xr (subP x t) (subP t a) := by unfold crossP cross xr subP; grind
    omega
  have key : 0 ≤ crossP a x p := by
    rcases leP_total t p with g | g
    · rcases hpx with rfl | hpx
      · rw [show crossP a p p = 0 by unfold crossP cross; grind]; omega
      · have hD : Up (subP x p) := up_sub.2 hpx
        have k1 := (hq p hp g).nonneg
        have e1 : crossP t x p = xr (subP x p) (subP x t) := by unfold crossP cross xr subP; grind
        have e2 : crossP a x p = xr (subP x p) (subP t a) + xr (subP x p) (subP x t) := by unfold crossP cross xr subP; grind
        have := xr_trans hD hB hA (by omega) hBA
        omega
    · have k1 := (he p hp).nonneg
      rcases hap with rfl | hap
      · rw [show crossP a x a = 0 by unfold crossP cross; grind]; omega
      · have hC : Up (subP p a) := up_sub.2 hap
        have e1 : crossP a t p = xr (subP t a) (subP p a) := crossP_xr a t p
        have e2 : xr (subP x a) (subP t a) = xr (subP x t) (subP t a) := by unfold xr subP; grind
        rw [crossP_xr]
        exact xr_trans hAB hA hC (by omega) (by omega)
  rcases Int.lt_or_eq_of_le key with g | g
  · exact .inl g
  · exact .inr (on_of_between g.symm hap hpx)

/-- What popping leaves. -/
structure Popped (P : List Pt) (x : Pt) (t : Pt) (r : List Pt) : Prop where
  chn : Chn P (t :: r)
  lt : ltP t x
  q : ∀ p ∈ P, leP t p → LeftOn t x p
  turn : ∀ a r', r = a :: r' → 0 < crossP a t x

theorem pop_ok {P : List Pt} {x : Pt} (hx : ∀ p ∈ P, leP p x) : ∀ (t : Pt) (r : List Pt), Chn P (t :: r) → ltP t x → (∀ p ∈ P, leP t p → LeftOn t x p) →
    ∃ t' r', popW x (t :: r) = t' :: r' ∧ Popped P x t' r' ∧ (t' :: r') <:+ (t :: r)
  | t, [], hc, hl, hq => ⟨t, [], rfl, ⟨hc, hl, hq, fun _ _ h => by cases h⟩, List.suffix_refl _⟩
  | t, a :: r, hc, hl, hq => by
    by_cases h : crossP a t x ≤ 0
    · obtain ⟨h1, h2, h3, h4⟩ := hc
      obtain ⟨t', r', e, hp, hs⟩ := pop_ok hx a r h1 (ltP_trans h2 hl) (q_step h2 hl hx h h3 hq)
      refine ⟨t', r', ?_, hp, hs.trans (List.suffix_cons _ _)⟩
      rw [popW, if_pos h]; exact e
    · refine ⟨t, a :: r, ?_, ⟨hc, hl, hq, fun a' r' e => ?_⟩, List.suffix_refl _⟩
      · rw [popW, if_neg h]
      · obtain ⟨rfl, rfl⟩ : a = a' ∧ r = r' := by simpa using e
        omega

theorem push_ok {P : List Pt} {x s0 t : Pt} {r : List Pt} (h : Popped P x t r) (hin : ∀ s ∈ t :: r, s ∈ P) (hx : ∀ p ∈ P, leP p x) (hlast : (t :: r).getLast? = some s0) (hlow : ∀ p ∈ P, leP s0 p) :
    Chn (x :: P) (x :: t :: r) := by
  have hB : Up (subP x t) := up_sub.2 h.lt
  have turns : ∀ e ∈ edges (t :: r), 0 < xr (vec e) (subP x t) := by
    intro e he
    cases r with
    | nil => cases he
    | cons a r =>
      have ht := h.turn a r rfl
      obtain ⟨h1, h2, h3, h4⟩ := h.chn
      have e0 : crossP a t x = xr (subP t a) (subP x t) := crossP_xr2 a t x
      rcases List.mem_cons.1 he with rfl | he
      · show 0 < xr (subP t a) (subP x t); omega
      · have hv : Up (vec e) := up_sub.2 (chn_edges h1 e he).1
        exact xr_trans1 hv (up_sub.2 h2) hB (h4 e he) (by omega)
  have old : ∀ e ∈ edges (t :: r), LeftOn e.1 e.2 x := by
    intro e he
    left
    have k1 := ((chn_edges h.chn e he).2 t (hin t (by simp))).nonneg
    have k2 := turns e he
    have e0 : crossP e.1 e.2 x = crossP e.1 e.2 t + xr (vec e) (subP x t) := by unfold crossP cross xr vec subP; grind
    omega
  refine ⟨chn_more h.chn old, h.lt, fun p hp => ?_, turns⟩
  rcases List.mem_cons.1 hp with rfl | hp
  · exact .inr (onP_end _ _ (.inr h.lt))
  · rcases leP_total t p with g | g
    · exact h.q p hp g
    · left
      cases r with
      | nil =>
        obtain rfl : t = s0 := by simpa using hlast
        exact absurd (leP_ltP (hlow p hp) g) (ltP_irrefl _)
      | cons a r =>
        have ht := h.turn a r rfl
        obtain ⟨h1, h2, h3, h4⟩ := h.chn
        have k1 := (h3 p hp).nonneg
        have e1 : crossP a t p = xr (subP t p) (subP t a) := by unfold crossP cross xr subP; grind
        have e2 : crossP a t x = xr (subP t a) (subP x t) := crossP_xr2 a t x
        have e3 : crossP t x p = xr (subP t p) (subP x t) := by unfold crossP cross xr subP; grind
        have := xr_trans2 (up_sub.2 g) (up_sub.2 h2) hB (by omega) (by omega)
        omega

/-- A chain over points that are not all one. -/
structure Good (P : List Pt) (s0 : Pt) (st : List Pt) : Prop where
  chn : Chn P st
  two : 2 ≤ st.length
  top : ∃ t r, st = t :: r ∧ ∀ p ∈ P, leP p t
  last : st.getLast? = some s0
  low : ∀ p ∈ P, leP s0 p
  sub : ∀ s ∈ st, s ∈ P
/-- .. and over points that are. -/
def Same (P : List Pt) (s0 : Pt) (st : List Pt) : Prop := (∀ p ∈ P, p = s0) ∧ s0 ∈ P ∧ (st = [s0] ∨ st = [s0, s0])

theorem same_push {P : List Pt} {s0 : Pt} {st : List Pt} (h : Same P s0 st) {x : Pt} (hx : leP s0 x) : Same (x :: P) s0 (pushW st x) ∨ Good (x :: P) s0 (pushW st x) := by
  obtain ⟨h1, h2, h3⟩ := h
  have e0 : ∀ q, crossP s0 s0 q = 0 := fun q => by unfold crossP cross; grind
  have hp : pushW st x = [x, s0] := by
    rcases h3 with rfl | rfl
    · rfl
    · show x :: popW x [s0, s0] = _
      rw [popW, if_pos (by rw [e0]; omega)]; rfl
  rw [hp]
  rcases hx with rfl | hx
  · left
    exact ⟨fun p hp => by rcases List.mem_cons.1 hp with h | h; exact h; exact h1 p h, by simp, .inr rfl⟩
  · right
    refine ⟨⟨trivial, hx, fun p hp => ?_, fun e he => by cases he⟩, by simp, ⟨x, [s0], rfl, fun p hp => ?_⟩, rfl, fun p hp => ?_, fun s hs => ?_⟩
    · rcases List.mem_cons.1 hp with rfl | hp
      · exact .inr (onP_end _ _ (.inr hx))
      · rw [h1 p hp]; exact .inr (onP_start _ _)
    · rcases List.mem_cons.1 hp with rfl | hp
      · exact leP_refl _
      · rw [h1 p hp]; exact .inr hx
    · rcases List.mem_cons.1 hp with rfl | hp
      · exact .inr hx
      · rw [h1 p hp]; exact leP_refl _
    · rcases List.mem_cons.1 hs with rfl | hs
      · simp
      · have : s = s0 := by simpa using hs
        subst this; exact List.mem_cons_of_mem _ h2

theorem good_push {P : List Pt} {s0 : Pt} {st : List Pt} (h : Good P s0 st) {x : Pt} (hx : ∀ p ∈ P, leP p x) : Good (x :: P) s0 (pushW st x) := by
  obtain ⟨t, r, rfl, htop⟩ := h.top
  have fin : ∀ t' r', popW x (t :: r) = t' :: r' → Popped P x t' r' → (t' :: r') <:+ (t :: r) → Good (x :: P) s0 (pushW (t :: r) x) := by
    intro t' r' e hp hs
    have hl : (t' :: r').getLast? = some s0 := by
      obtain ⟨pre, hpre⟩ := hs
      have := h.last
      rw [← hpre, List.getLast?_append] at this
      cases e2 : (t' :: r').getLast? with
      | none => simp at e2
      | some y => rw [e2] at this; simpa using this
    have hin : ∀ s ∈ t' :: r', s ∈ P := fun s hs' => h.sub s (hs.subset hs')
    have hne : pushW (t :: r) x = x :: t' :: r' := by unfold pushW; rw [e]
    rw [hne]
    refine ⟨push_ok hp hin hx hl h.low, by simp, ⟨x, _, rfl, fun p hp' => ?_⟩, ?_, fun p hp' => ?_, fun s hs' => ?_⟩
    · rcases List.mem_cons.1 hp' with rfl | hp'
      · exact leP_refl _
      · exact hx p hp'
    · rw [List.getLast?_cons_cons]; exact hl
    · rcases List.mem_cons.1 hp' with rfl | hp'
      · exact leP_trans (h.low t' (hin t' (by simp))) (.inr hp.lt)
      · exact h.low p hp'
    · rcases List.mem_cons.1 hs' with rfl | hs'
      · simp
      · exact List.mem_cons_of_mem _ (hin s hs')
  rcases hx t (h.sub t (by simp)) with e | hlt
  · subst e
    cases r with
    | nil => have := h.two; simp at this
    | cons a r =>
      obtain ⟨h1, h2, h3, h4⟩ := h.chn
      obtain ⟨t', r', e, hp, hs⟩ := pop_ok hx a r h1 h2 (fun p hp _ => h3 p hp)
      refine fin t' r' ?_ hp (hs.trans (List.suffix_cons _ _))
      rw [popW, if_pos (by rw [show crossP a t t = 0 by unfold crossP cross; grind]; omega)]; exact e
  · obtain ⟨t', r', e, hp, hs⟩ := pop_ok hx t r h.chn hlt (fun p hp hle => by
      have : p = t := leP_anti (htop p hp) hle
      subst this; exact .inr (onP_start _ _))
    exact fin t' r' e hp hs

/-- The chain over sorted points. -/
theorem chain_ok : ∀ (l P : List Pt) (s0 : Pt) (st : List Pt), (Same P s0 st ∨ Good P s0 st) → (∀ p ∈ P, ∀ x ∈ l, leP p x) → l.Pairwise leP → s0 ∈ P →
    ∃ Q, (∀ p, p ∈ Q ↔ p ∈ P ∨ p ∈ l) ∧ (Same Q s0 (l.foldl pushW st) ∨ Good Q s0 (l.foldl pushW st))
  | [], P, s0, st, h, _, _, _ => ⟨P, by simp, h⟩
  | x :: l, P, s0, st, h, hle, hs, h0 => by
    obtain ⟨h1, h2⟩ := List.pairwise_cons.1 hs
    have step : Same (x :: P) s0 (pushW st x) ∨ Good (x :: P) s0 (pushW st x) := by
      rcases h with h | h
      · exact same_push h (hle s0 h0 x (by simp))
      · exact .inr (good_push h (fun p hp => hle p hp x (by simp)))
    obtain ⟨Q, hQ, hr⟩ := chain_ok l (x :: P) s0 (pushW st x) step (fun p hp y hy => by
      rcases List.mem_cons.1 hp with rfl | hp
      · exact h1 y hy
      · exact hle p hp y (List.mem_cons_of_mem _ hy)) h2 (List.mem_cons_of_mem _ h0)
    refine ⟨Q, fun p => ?_, hr⟩
    rw [hQ]; simp only [List.mem_cons]
    constructor
    · rintro ((h | h) | h)
      · exact .inr (.inl h)
      · exact .inl h
      · exact .inr (.inr h)
    · rintro (h | h | h)
      · exact .inl (.inr h)
      · exact .inl (.inl h)
      · exact .inr h

end Go.Proofs.Ytfdoijjojaehaaa

/- Plain mathematics of convex hulls: what the chains make, and what wrapping finds. -/
namespace Go.Proofs.Ytfdoijjojaehaaa

def negP (p : Pt) : Pt := (-p.1, -p.2)
theorem negP_negP (p : Pt) : negP (negP p) = p := by unfold negP; simp
theorem negP_inj {p q : Pt} (h : negP p = negP q) : p = q := by rw [← negP_negP p, h, negP_negP]
theorem crossP_neg (a b c : Pt) : crossP (negP a) (negP b) (negP c) = crossP a b c := by unfold crossP cross negP; grind
theorem ltP_neg {a b : Pt} : ltP (negP a) (negP b) ↔ ltP b a := by unfold ltP negP; simp only; omega
theorem leP_neg {a b : Pt} : leP (negP a) (negP b) ↔ leP b a := by
  unfold leP
  rw [ltP_neg]
  constructor
  · rintro (h | h)
    · exact .inl (negP_inj h).symm
    · exact .inr h
  · rintro (h | h)
    · exact .inl (by rw [h])
    · exact .inr h
theorem onP_iff (a b p : Pt) : onP a b p = true ↔ al (b.1 - a.1) (b.2 - a.2) (p.1 - a.1) (p.2 - a.2) = 0 ∧ btw (p.1 - a.1) (b.1 - a.1) ∧ btw (p.2 - a.2) (b.2 - a.2) := by
  have key := on_iff a.1 a.2 (b.1 - a.1) (b.2 - a.2) (p.1 - a.1) (p.2 - a.2)
  rw [show a.1 + (b.1 - a.1) = b.1 by omega, show a.2 + (b.2 - a.2) = b.2 by omega, show a.1 + (p.1 - a.1) = p.1 by omega, show a.2 + (p.2 - a.2) = p.2 by omega] at key
  exact key
theorem onP_neg (a b p : Pt) : onP (negP a) (negP b) (negP p) = onP a b p := by
  rw [Bool.eq_iff_iff, onP_iff, onP_iff]
  unfold negP al btw
  simp only
  rw [show (-b.1 - -a.1) * (-p.2 - -a.2) - (-p.1 - -a.1) * (-b.2 - -a.2) = (b.1 - a.1) * (p.2 - a.2) - (p.1 - a.1) * (b.2 - a.2) by grind]
  omega
theorem LeftOn_neg {a b p : Pt} : LeftOn (negP a) (negP b) (negP p) ↔ LeftOn a b p := by unfold LeftOn; rw [crossP_neg, onP_neg]

theorem popW_neg (x : Pt) : ∀ st : List Pt, popW (negP x) (st.map negP) = (popW x st).map negP
  | [] => rfl
  | [_] => rfl
  | b :: a :: r => by
    have ih := popW_neg x (a :: r)
    simp only [List.map_cons, popW, crossP_neg] at ih ⊢
    split
    · exact ih
    · rfl
theorem chainW_neg (l : List Pt) : chainW (l.map negP) = (chainW l).map negP := by
  have key : ∀ (l st : List Pt), (l.map negP).foldl pushW (st.map negP) = (l.foldl pushW st).map negP := by
    intro l
    induction l with
    | nil => intro st; rfl
    | cons x l ih =>
      intro st
      simp only [List.map_cons, List.foldl_cons]
      rw [← ih]
      congr 1
      unfold pushW
      rw [popW_neg]; rfl
  exact key l []

/-- An edge of the hull. -/
structure Hedge (P : List Pt) (a b : Pt) : Prop where
  ne : a ≠ b
  ok : ∀ p ∈ P, LeftOn a b p
  fst : a ∈ P
  snd : b ∈ P

/-- A chain, forward: from one end to the other. -/
structure Fwd (P L : List Pt) (s t : Pt) : Prop where
  two : 2 ≤ L.length
  first : L[0]? = some s
  last : L[L.length - 1]? = some t
  edge : ∀ i a b, L[i]? = some a → L[i + 1]? = some b → Hedge P a b

theorem edges_at {R : Pt → Pt → Prop} : ∀ {st : List Pt}, (∀ e ∈ edges st, R e.1 e.2) → ∀ j a b, st[j + 1]? = some a → st[j]? = some b → R a b
  | [], _, _, _, _, h, _ => by simp at h
  | [_], _, _, _, _, h, _ => by simp at h
  | y :: x :: r, h, 0, a, b, h1, h2 => by
    obtain rfl : x = a := by simpa using h1
    obtain rfl : y = b := by simpa using h2
    exact h (x, y) (by simp [edges])
  | y :: x :: r, h, j + 1, a, b, h1, h2 =>
    edges_at (st := x :: r) (fun e he => h e (List.mem_cons_of_mem _ he)) j a b (by simpa using h1) (by simpa using h2)

theorem Fwd.of_edges {P st : List Pt} {s t : Pt} {r : List Pt} (h2 : 2 ≤ st.length) (ht : st = t :: r) (hs : st.getLast? = some s) (he : ∀ e ∈ edges st, Hedge P e.1 e.2) : Fwd P st.reverse s t := by
  have hl : st.reverse.length = st.length := List.length_reverse
  refine ⟨by omega, ?_, ?_, fun i a b ha hb => ?_⟩
  · rw [List.getElem?_reverse (by omega), Nat.sub_zero, ← List.getLast?_eq_getElem?]; exact hs
  · rw [hl, List.getElem?_reverse (by omega), show st.length - 1 - (st.length - 1) = 0 by omega, ht]; rfl
  · have hi : i + 1 < st.length := by
      have := (List.getElem?_eq_some_iff.1 hb).1; omega
    rw [List.getElem?_reverse (by omega)] at ha hb
    exact edges_at he (st.length - 1 - (i + 1)) a b (by rw [show st.length - 1 - (i + 1) + 1 = st.length - 1 - i by omega]; exact ha) hb

def hullL (s : List Pt) : List Pt := (chainW s).reverse.dropLast ++ (chainW s.reverse).reverse.dropLast

/-- What a hull is: its points in their order round it. -/
structure Hull (P H : List Pt) (s0 : Pt) : Prop where
  first : gt H 0 = s0
  two : 2 ≤ H.length
  edge : ∀ i, i < H.length → Hedge P (gt H i) (nx H i)
  once : ∀ i, 0 < i → i < H.length → gt H i ≠ s0

theorem gt_of {l : List Pt} {i : Nat} {p : Pt} (h : l[i]? = some p) : gt l i = p := by
  unfold gt; rw [List.getD_eq_getElem?_getD, h]; rfl

theorem Hull.join {P U D : List Pt} {s t : Pt} (hu : Fwd P U s t) (hd : Fwd P D t s) (hu1 : ∀ i a, 0 < i → U[i]? = some a → a ≠ s) (hd1 : ∀ i a, i + 1 < D.length → D[i]? = some a → a ≠ s) : Hull P (U.dropLast ++ D.dropLast) s := by
  have lu := hu.two
  have ld := hd.two
  have hlen : (U.dropLast ++ D.dropLast).length = (U.length - 1) + (D.length - 1) := by simp
  have gu : ∀ i, i < U.length - 1 → (U.dropLast ++ D.dropLast)[i]? = U[i]? := fun i hi => by
    rw [List.getElem?_append_left (by simpa using hi), List.getElem?_dropLast, if_pos hi]
  have gd : ∀ j, j < D.length - 1 → (U.dropLast ++ D.dropLast)[(U.length - 1) + j]? = D[j]? := fun j hj => by
    rw [List.getElem?_append_right (by simp), List.length_dropLast, Nat.add_sub_cancel_left, List.getElem?_dropLast, if_pos hj]
  have some_u : ∀ i, i < U.length → ∃ a, U[i]? = some a := fun i hi => ⟨U[i], List.getElem?_eq_getElem hi⟩
  have some_d : ∀ i, i < D.length → ∃ a, D[i]? = some a := fun i hi => ⟨D[i], List.getElem?_eq_getElem hi⟩
  have f0 : (U.dropLast ++ D.dropLast)[0]? = some s := by rw [gu 0 (by omega)]; exact hu.first
  have nxg : ∀ i, nx (U.dropLast ++ D.dropLast) i = gt (U.dropLast ++ D.dropLast) ((i + 1) % (U.dropLast ++ D.dropLast).length) := fun _ => rfl
  refine ⟨gt_of f0, by omega, fun i hi => ?_, fun i h0 hi => ?_⟩
  · rw [hlen] at hi
    rcases Nat.lt_or_ge i (U.length - 1) with g | g
    · obtain ⟨a, ha⟩ := some_u i (by omega)
      obtain ⟨b, hb⟩ := some_u (i + 1) (by omega)
      have e1 : gt (U.dropLast ++ D.dropLast) i = a := gt_of ((gu i g).trans ha)
      have e2 : nx (U.dropLast ++ D.dropLast) i = b := by
        rw [nxg, hlen, Nat.mod_eq_of_lt (by omega)]
        rcases Nat.lt_or_ge (i + 1) (U.length - 1) with q | q
        · exact gt_of ((gu _ q).trans hb)
        · have : i + 1 = U.length - 1 := by omega
          have h1 := gd 0 (by omega)
          rw [Nat.add_zero, ← this, hd.first] at h1
          rw [this, hu.last] at hb
          rw [gt_of h1]; exact Option.some.inj hb
      rw [e1, e2]
      exact hu.edge i a b ha hb
    · obtain ⟨j, rfl⟩ : ∃ j, i = (U.length - 1) + j := ⟨i - (U.length - 1), by omega⟩
      obtain ⟨a, ha⟩ := some_d j (by omega)
      obtain ⟨b, hb⟩ := some_d (j + 1) (by omega)
      have e1 : gt (U.dropLast ++ D.dropLast) ((U.length - 1) + j) = a := gt_of ((gd j (by omega)).trans ha)
      have e2 : nx (U.dropLast ++ D.dropLast) ((U.length - 1) + j) = b := by
        rw [nxg, hlen]
        rcases Nat.lt_or_ge (j + 1) (D.length - 1) with q | q
        · rw [Nat.mod_eq_of_lt (by omega)]
          exact gt_of ((gd (j + 1) q).trans hb)
        · have hj : j + 1 = D.length - 1 := by omega
          rw [show U.length - 1 + j + 1 = U.length - 1 + (D.length - 1) by omega, Nat.mod_self, gt_of f0]
          rw [hj, hd.last] at hb
          exact Option.some.inj hb
      rw [e1, e2]
      exact hd.edge j a b ha hb
  · rw [hlen] at hi
    rcases Nat.lt_or_ge i (U.length - 1) with g | g
    · obtain ⟨a, ha⟩ := some_u i (by omega)
      rw [gt_of ((gu i g).trans ha)]
      exact hu1 i a h0 ha
    · obtain ⟨j, rfl⟩ : ∃ j, i = (U.length - 1) + j := ⟨i - (U.length - 1), by omega⟩
      obtain ⟨a, ha⟩ := some_d j (by omega)
      rw [gt_of ((gd j (by omega)).trans ha)]
      exact hd1 j a (by omega) ha

/-- Along a chain the points rise. -/
theorem rises {P : List Pt} : ∀ {st : List Pt}, Chn P st → ∀ (j : Nat) (a b : Pt), st[j]? = some b → ∀ i : Nat, j < i → st[i]? = some a → ltP a b
  | [], _, _, _, _, h, _, _, _ => by simp at h
  | [_], _, j, a, b, h, i, hi, h' => by
    have h1 := (List.getElem?_eq_some_iff.1 h').1
    simp at h1; omega
  | y :: x :: r, hc, j, a, b, h, i, hi, h' => by
    obtain ⟨h1, h2, h3, h4⟩ := hc
    obtain ⟨i, rfl⟩ : ∃ i', i = i' + 1 := ⟨i - 1, by omega⟩
    rw [List.getElem?_cons_succ] at h'
    cases j with
    | zero =>
      obtain rfl : y = b := by simpa using h
      cases i with
      | zero =>
        obtain rfl : x = a := by simpa using h'
        exact h2
      | succ i => exact ltP_trans (rises h1 0 a x rfl (i + 1) (by omega) h') h2
    | succ j =>
      rw [List.getElem?_cons_succ] at h
      exact rises h1 j a b h i (by omega) h'

theorem sorted_neg {s : List Pt} (h : s.Pairwise leP) : (s.reverse.map negP).Pairwise leP := by
  rw [List.pairwise_map, List.pairwise_reverse]
  exact h.imp fun hab => leP_neg.2 hab

/-- The chain over a sorted list. -/
theorem chain_sorted {x : Pt} {l : List Pt} (hs : (x :: l).Pairwise leP) :
    ∃ Q, (∀ p, p ∈ Q ↔ p ∈ x :: l) ∧ (Same Q x (chainW (x :: l)) ∨ Good Q x (chainW (x :: l))) := by
  obtain ⟨h1, h2⟩ := List.pairwise_cons.1 hs
  obtain ⟨Q, hQ, hr⟩ := chain_ok l [x] x [x] (.inl ⟨by simp, by simp, .inl rfl⟩) (fun p hp y hy => by
    have : p = x := by simpa using hp
    subst this; exact h1 y hy) h2 (by simp)
  exact ⟨Q, fun p => by rw [hQ]; simp, hr⟩

theorem hedge_same {P Q : List Pt} (h : ∀ p, p ∈ Q ↔ p ∈ P) {a b : Pt} (k : Hedge Q a b) : Hedge P a b :=
  ⟨k.ne, fun p hp => k.ok p ((h p).2 hp), (h a).1 k.fst, (h b).1 k.snd⟩

/-- THE HULL OF SORTED POINTS. -/
theorem hull_ok {x : Pt} {l : List Pt} (hs : (x :: l).Pairwise leP) :
    ((∀ p ∈ x :: l, p = x) ∧ (hullL (x :: l)).length ≤ 2) ∨ Hull (x :: l) (hullL (x :: l)) x := by
  obtain ⟨Q, hQ, hr⟩ := chain_sorted hs
  obtain ⟨h1, h2⟩ := List.pairwise_cons.1 hs
  have hlow : ∀ p ∈ x :: l, leP x p := fun p hp => by
    rcases List.mem_cons.1 hp with rfl | hp
    · exact leP_refl _
    · exact h1 p hp
  cases hrev : (x :: l).reverse with
  | nil => simp at hrev
  | cons y m =>
    have hmem : ∀ p, p ∈ y :: m ↔ p ∈ x :: l := fun p => by rw [← hrev]; exact List.mem_reverse
    have hns := sorted_neg hs
    rw [hrev, List.map_cons] at hns
    obtain ⟨R, hR, hr2⟩ := chain_sorted hns
    rw [← List.map_cons, chainW_neg] at hr2
    have hR2 : ∀ p, negP p ∈ R ↔ p ∈ x :: l := fun p => by
      rw [hR, ← List.map_cons, List.mem_map]
      constructor
      · rintro ⟨q, hq, e⟩
        rw [← negP_inj e]; exact (hmem q).1 hq
      · intro h; exact ⟨p, (hmem p).2 h, rfl⟩
    have hhigh : ∀ p ∈ x :: l, leP p y := fun p hp => by
      have := (List.pairwise_cons.1 hns).1
      rcases List.mem_cons.1 ((hmem p).2 hp) with e | e
      · rw [e]; exact leP_refl _
      · exact leP_neg.1 (this (negP p) (List.mem_map.2 ⟨p, e, rfl⟩))
    have hy : y ∈ x :: l := (hmem y).1 (by simp)
    unfold hullL
    rw [hrev]
    rcases hr with hr | hr
    · left
      have hall : ∀ p ∈ x :: l, p = x := fun p hp => hr.1 p ((hQ p).2 hp)
      refine ⟨hall, ?_⟩
      have l1 : (chainW (x :: l)).length ≤ 2 := by rcases hr.2.2 with e | e <;> rw [e] <;> simp
      have l2 : (chainW (y :: m)).length ≤ 2 := by
        rcases hr2 with hr2 | hr2
        · have : ((chainW (y :: m)).map negP).length ≤ 2 := by rcases hr2.2.2 with e | e <;> rw [e] <;> simp
          simpa using this
        · exfalso
          have t2 := hr2.two
          have c := hr2.chn
          match hst : (chainW (y :: m)).map negP, c with
          | [], _ => rw [hst] at t2; simp at t2
          | [_], _ => rw [hst] at t2; simp at t2
          | b :: a :: r, c =>
            have sb := hr2.sub
            rw [hst] at sb
            have ea := hall (negP a) ((hR2 _).1 (by rw [negP_negP]; exact sb a (by simp)))
            have eb := hall (negP b) ((hR2 _).1 (by rw [negP_negP]; exact sb b (by simp)))
            have := c.2.1
            rw [negP_inj (ea.trans eb.symm)] at this
            exact ltP_irrefl _ this
      simp only [List.length_append, List.length_dropLast, List.length_reverse]
      omega
    · right
      obtain ⟨t, r, ht, htop⟩ := hr.top
      have hin := hr.sub
      have tty : t = y := leP_anti (hhigh t ((hQ t).1 (hin t (by rw [ht]; simp)))) (htop y ((hQ y).2 hy))
      have hu : Fwd (x :: l) (chainW (x :: l)).reverse x y := by
        refine Fwd.of_edges (r := r) hr.two (by rw [ht, tty]) hr.last fun e he => ?_
        obtain ⟨k1, k2⟩ := chn_edges hr.chn e he
        obtain ⟨k3, k4⟩ := edges_mem he
        exact ⟨fun q => ltP_irrefl _ (q ▸ k1), fun p hp => k2 p ((hQ p).2 hp), (hQ _).1 (hin _ k3), (hQ _).1 (hin _ k4)⟩
      have hr3 : Good R (negP y) ((chainW (y :: m)).map negP) := by
        rcases hr2 with hr2 | hr2
        · exfalso
          have hall : ∀ p ∈ x :: l, p = y := fun p hp => negP_inj (hr2.1 _ ((hR2 p).2 hp))
          have c := hr.chn
          match hst : chainW (x :: l), c with
          | [], _ => have := hr.two; rw [hst] at this; simp at this
          | [_], _ => have := hr.two; rw [hst] at this; simp at this
          | b :: a :: r, c =>
            rw [hst] at hin
            have ea := hall a ((hQ a).1 (hin a (by simp)))
            have eb := hall b ((hQ b).1 (hin b (by simp)))
            have := c.2.1
            rw [ea, eb] at this
            exact ltP_irrefl _ this
        · exact hr2
      have ed : ∀ e ∈ edges ((chainW (y :: m)).map negP), Hedge (x :: l) (negP e.1) (negP e.2) := fun e he => by
        obtain ⟨k1, k2⟩ := chn_edges hr3.chn e he
        obtain ⟨k3, k4⟩ := edges_mem he
        refine ⟨fun q => ltP_irrefl _ ((negP_inj q) ▸ k1), fun p hp => ?_, (hR2 _).1 (by rw [negP_negP]; exact hr3.sub _ k3), (hR2 _).1 (by rw [negP_negP]; exact hr3.sub _ k4)⟩
        have := k2 (negP p) ((hR2 p).2 hp)
        rw [← LeftOn_neg, negP_negP, negP_negP]
        exact this
      obtain ⟨t', r', ht', htop'⟩ := hr3.top
      have tx : negP t' = x := by
        have g1 : t' ∈ R := hr3.sub t' (by rw [ht']; simp)
        have g2 : negP t' ∈ x :: l := (hR2 _).1 (by rw [negP_negP]; exact g1)
        have g3 := htop' (negP x) ((hR2 x).2 (by simp))
        rw [← negP_negP t', leP_neg] at g3
        exact leP_anti g3 (hlow _ g2)
      have hd0 : Fwd (x :: l) (chainW (y :: m)).reverse y x := by
        have l2 : 2 ≤ (chainW (y :: m)).length := by simpa using hr3.two
        cases hst : chainW (y :: m) with
        | nil => rw [hst] at l2; simp at l2
        | cons b r2 =>
          have e1 : b = x := by
            have : negP b = t' := by rw [hst] at ht'; simpa using (List.cons.inj ht').1
            rw [← tx, ← this, negP_negP]
          have elast : (b :: r2).getLast? = some y := by
            have := hr3.last
            rw [hst, List.getLast?_map] at this
            cases e : (b :: r2).getLast? with
            | none => rw [e] at this; cases this
            | some q => rw [e] at this; rw [negP_inj (Option.some.inj this)]
          refine Fwd.of_edges (r := r2) (by rw [← hst]; exact l2) (by rw [e1]) elast fun e he => ?_
          have em : ∀ (st : List Pt) (e : Pt × Pt), e ∈ edges st → (negP e.1, negP e.2) ∈ edges (st.map negP) := by
            intro st
            induction st with
            | nil => intro e h; cases h
            | cons b st ih =>
              intro e h
              cases st with
              | nil => cases h
              | cons a st =>
                rcases List.mem_cons.1 h with rfl | h
                · simp [edges]
                · have := ih e h
                  simp only [List.map_cons] at this ⊢
                  exact List.mem_cons_of_mem _ this
          have := ed _ (by rw [hst]; exact em _ e he)
          simpa only [negP_negP] using this
      refine Hull.join hu hd0 (fun i a h0 ha => ?_) (fun i a hi ha => ?_)
      · have hl : (chainW (x :: l)).reverse.length = (chainW (x :: l)).length := List.length_reverse
        have hi : i < (chainW (x :: l)).length := by have := (List.getElem?_eq_some_iff.1 ha).1; omega
        rw [List.getElem?_reverse hi] at ha
        have hlast := hr.last
        rw [List.getLast?_eq_getElem?] at hlast
        intro e
        rw [e] at ha
        exact ltP_irrefl _ (rises hr.chn _ x x ha ((chainW (x :: l)).length - 1) (by omega) hlast)
      · have hl : (chainW (y :: m)).reverse.length = (chainW (y :: m)).length := List.length_reverse
        rw [hl] at hi
        rw [List.getElem?_reverse (by omega)] at ha
        intro e
        have hch := hr3.chn
        have h0 : ((chainW (y :: m)).map negP)[0]? = some t' := by rw [ht']; rfl
        have hj : ((chainW (y :: m)).map negP)[(chainW (y :: m)).length - 1 - i]? = some (negP a) := by rw [List.getElem?_map, ha]; rfl
        have := rises hch 0 (negP a) t' h0 _ (by omega) hj
        rw [e, ← tx, negP_negP] at this
        exact ltP_irrefl _ this

end Go.Proofs.Ytfdoijjojaehaaa
