/- Parts of the proof, one after the other: DevMath, DevSame, DevEq, Convex, DevTop, DevWhere, PtRow, RefWhere, WhereTop, DevBeyond, ApartTop, RefApart. -/
import Derived.Test.YtffjonpajjioaaaTp1
import Derived.Laws.MakeOwn
import Derived.Deep.AppendLies
/- Two ways to say that edges meet, that they turn back, that a polygon is simple and convex: they are the same. Plain mathematics. -/
namespace Go.Proofs.Ytffjonpajjioaaa

/-- u lies between 0 and p. -/
def btw (u p : Int) : Prop := (0 ≤ u ∧ u ≤ p) ∨ (p ≤ u ∧ u ≤ 0)
theorem btw_of {D t u p : Int} (hD : 0 < D) (h : D * u = t * p) (h0 : 0 ≤ t) (h1 : t ≤ D) : btw u p := by
  rcases Int.le_total 0 p with hp | hp
  · have a : 0 ≤ t * p := Int.mul_nonneg h0 hp
    have b : t * p ≤ D * p := Int.mul_le_mul_of_nonneg_right h1 hp
    refine .inl ⟨?_, ?_⟩
    · rcases Int.lt_or_le u 0 with g | g
      · have := Int.mul_neg_of_pos_of_neg hD g; omega
      · exact g
    · exact Int.le_of_mul_le_mul_left (by omega) hD
  · have a : t * p ≤ 0 := Int.mul_nonpos_of_nonneg_of_nonpos h0 hp
    have b : D * p ≤ t * p := Int.mul_le_mul_of_nonpos_right h1 hp
    refine .inr ⟨?_, ?_⟩
    · exact Int.le_of_mul_le_mul_left (by omega) hD
    · rcases Int.lt_or_le 0 u with g | g
      · have := Int.mul_pos hD g; omega
      · exact g
theorem of_btw {D t u p : Int} (hD : 0 < D) (h : D * u = t * p) (hp : p ≠ 0) (hb : btw u p) : 0 ≤ t ∧ t ≤ D := by
  rcases hb with ⟨b1, b2⟩ | ⟨b1, b2⟩
  · have hp' : 0 < p := by omega
    have a : 0 ≤ D * u := Int.mul_nonneg (by omega) b1
    have b : D * u ≤ D * p := Int.mul_le_mul_of_nonneg_left b2 (by omega)
    refine ⟨?_, Int.le_of_mul_le_mul_right (by omega) hp'⟩
    rcases Int.lt_or_le t 0 with g | g
    · have := Int.mul_neg_of_neg_of_pos g hp'; omega
    · exact g
  · have hp' : 0 < -p := by omega
    have e : t * -p = D * -u := by rw [Int.mul_neg, Int.mul_neg, h]
    have a : 0 ≤ D * -u := Int.mul_nonneg (by omega) (by omega)
    have b : D * -u ≤ D * -p := Int.mul_le_mul_of_nonneg_left (by omega) (by omega)
    refine ⟨?_, Int.le_of_mul_le_mul_right (a := -p) (by omega) hp'⟩
    rcases Int.lt_or_le t 0 with g | g
    · have := Int.mul_neg_of_neg_of_pos g hp'; omega
    · exact g

/-- Weighted means: one cannot lie before all of the others. -/
theorem apart_no {D w t u r p : Int} (hD : 0 < D) (hw : 0 ≤ w) (hw' : w ≤ D) (ht : 0 ≤ t) (ht' : t ≤ D) (h : D * u + w * r = t * p) (h1 : u < 0) (h2 : u + r < 0) (h3 : u - p < 0) (h4 : u + r - p < 0) : False := by
  have k1 : D * u + w * r = (D - w) * u + w * (u + r) := by grind
  rcases Int.le_total 0 p with hp | hp
  · have a : 0 ≤ t * p := Int.mul_nonneg ht hp
    have b1 : (D - w) * u ≤ 0 := Int.mul_nonpos_of_nonneg_of_nonpos (by omega) (by omega)
    have b2 : w * (u + r) ≤ 0 := Int.mul_nonpos_of_nonneg_of_nonpos hw (by omega)
    rcases Int.lt_or_le 0 w with g | g
    · have := Int.mul_neg_of_pos_of_neg g h2; omega
    · have : 0 < D - w := by omega
      have := Int.mul_neg_of_pos_of_neg this h1; omega
  · have k2 : D * u + w * r - D * p = (D - w) * (u - p) + w * (u + r - p) := by grind
    have k3 : t * p - D * p = (D - t) * (-p) := by grind
    have a : 0 ≤ (D - t) * (-p) := Int.mul_nonneg (by omega) (by omega)
    have b1 : (D - w) * (u - p) ≤ 0 := Int.mul_nonpos_of_nonneg_of_nonpos (by omega) (by omega)
    have b2 : w * (u + r - p) ≤ 0 := Int.mul_nonpos_of_nonneg_of_nonpos hw (by omega)
    rcases Int.lt_or_le 0 w with g | g
    · have := Int.mul_neg_of_pos_of_neg g h4; omega
    · have : 0 < D - w := by omega
      have := Int.mul_neg_of_pos_of_neg this h3; omega
theorem apart_no' {D w t u r p : Int} (hD : 0 < D) (hw : 0 ≤ w) (hw' : w ≤ D) (ht : 0 ≤ t) (ht' : t ≤ D) (h : D * u + w * r = t * p) (h1 : 0 < u) (h2 : 0 < u + r) (h3 : 0 < u - p) (h4 : 0 < u + r - p) : False := by
  refine apart_no (u := -u) (r := -r) (p := -p) hD hw hw' ht ht' ?_ (by omega) (by omega) (by omega) (by omega)
  rw [Int.mul_neg, Int.mul_neg, Int.mul_neg, ← h]; omega

/-- Edges from (0, 0) to (p, q) and from (u, v) by (r, s). -/
def al (p q u v : Int) : Int := p * v - u * q
def opp (a b : Int) : Prop := mn a b ≤ 0 ∧ 0 ≤ mx a b
theorem opp_iff {a b : Int} : opp a b ↔ (a ≤ 0 ∧ 0 ≤ b) ∨ (b ≤ 0 ∧ 0 ≤ a) := by
  unfold opp mn mx
  by_cases h : b < a <;> by_cases h' : a < b <;> simp [h, h'] <;> omega
/-- Do the intervals 0..p and u..u+r overlap? -/
def ov (p u r : Int) : Prop := (mn 0 p ≤ mx u (u + r)) ∧ (mn u (u + r) ≤ mx 0 p)

theorem ov_of {D w t u r p : Int} (hD : 0 < D) (hw : 0 ≤ w) (hw' : w ≤ D) (ht : 0 ≤ t) (ht' : t ≤ D) (h : D * u + w * r = t * p) : ov p u r := by
  have a := apart_no hD hw hw' ht ht' h
  have b := apart_no' hD hw hw' ht ht' h
  unfold ov mn mx
  constructor
  · rcases Int.lt_or_le u 0 with g1 | g1 <;> rcases Int.lt_or_le (u + r) 0 with g2 | g2 <;> rcases Int.lt_or_le (u - p) 0 with g3 | g3 <;> rcases Int.lt_or_le (u + r - p) 0 with g4 | g4 <;> first | exact (a g1 g2 g3 g4).elim | (split <;> split <;> omega)
  · rcases Int.lt_or_le 0 u with g1 | g1 <;> rcases Int.lt_or_le 0 (u + r) with g2 | g2 <;> rcases Int.lt_or_le 0 (u - p) with g3 | g3 <;> rcases Int.lt_or_le 0 (u + r - p) with g4 | g4 <;> first | exact (b g1 g2 g3 g4).elim | (split <;> split <;> omega)

theorem cross_ids (p q r s u v : Int) :
    al p q (u + r) (v + s) = al p q u v + (p * s - r * q) ∧ (u * s - r * v) - (p * s - r * q) = r * (q - v) - (p - u) * s ∧
    (p * s - r * q) * u - al p q u v * r = (u * s - r * v) * p ∧ (p * s - r * q) * v - al p q u v * s = (u * s - r * v) * q := by
  unfold al
  refine ⟨by grind, by grind, by grind, by grind⟩

/-- If both edges reach both lines and the edges are not along each other, the boxes overlap. -/
theorem boxes_of {p q r s u v : Int} (hD : p * s - r * q ≠ 0) (h1 : opp (al p q u v) (al p q (u + r) (v + s))) (h2 : opp (u * s - r * v) (r * (q - v) - (p - u) * s)) : ov p u r ∧ ov q v s := by
  obtain ⟨i1, i2, i3, i4⟩ := cross_ids p q r s u v
  rw [opp_iff] at h1 h2
  rw [i1] at h1
  rw [← i2] at h2
  generalize al p q u v = a at *
  generalize u * s - r * v = c at *
  generalize p * s - r * q = D at *
  rcases Int.lt_or_lt_of_ne hD with g | g
  · exact ⟨ov_of (D := -D) (w := a) (t := -c) (by omega) (by omega) (by omega) (by omega) (by omega) (by rw [Int.neg_mul, Int.neg_mul]; omega), ov_of (D := -D) (w := a) (t := -c) (by omega) (by omega) (by omega) (by omega) (by omega) (by rw [Int.neg_mul, Int.neg_mul]; omega)⟩
  · exact ⟨ov_of (D := D) (w := -a) (t := c) (by omega) (by omega) (by omega) (by omega) (by omega) (by rw [Int.neg_mul]; omega), ov_of (D := D) (w := -a) (t := c) (by omega) (by omega) (by omega) (by omega) (by omega) (by rw [Int.neg_mul]; omega)⟩

/-- A point on the first edge: the second edge's line is reached. -/
theorem reach_of_on {p q r s u v : Int} (hne : p ≠ 0 ∨ q ≠ 0) (h0 : al p q u v = 0) (b1 : btw u p) (b2 : btw v q) : opp (u * s - r * v) (r * (q - v) - (p - u) * s) := by
  obtain ⟨i1, i2, i3, i4⟩ := cross_ids p q r s u v
  rw [h0, Int.zero_mul, Int.sub_zero] at i3 i4
  rw [opp_iff, ← i2]
  generalize u * s - r * v = c at *
  generalize p * s - r * q = D at *
  rcases Int.lt_trichotomy D 0 with g | g | g
  · rcases hne with hp | hp
    · have := of_btw (D := -D) (t := -c) (by omega) (by rw [Int.neg_mul, Int.neg_mul, i3]) hp b1; omega
    · have := of_btw (D := -D) (t := -c) (by omega) (by rw [Int.neg_mul, Int.neg_mul, i4]) hp b2; omega
  · rw [g, Int.zero_mul] at i3 i4
    have : c = 0 := by
      rcases hne with hp | hp
      · rcases Int.mul_eq_zero.1 i3.symm with h | h
        · exact h
        · exact absurd h hp
      · rcases Int.mul_eq_zero.1 i4.symm with h | h
        · exact h
        · exact absurd h hp
    omega
  · rcases hne with hp | hp
    · have := of_btw g i3 hp b1; omega
    · have := of_btw g i4 hp b2; omega

theorem btw_dim {p q x y : Int} (hp : p ≠ 0) (h : p * y = x * q) (hb : btw x p) : btw y q := by
  rcases Int.lt_or_lt_of_ne hp with g | g
  · refine btw_of (D := -p) (t := -x) (by omega) (by rw [Int.neg_mul, Int.neg_mul, h]) ?_ ?_ <;> (unfold btw at hb; omega)
  · refine btw_of (D := p) (t := x) g h ?_ ?_ <;> (unfold btw at hb; omega)

theorem ov_one {p u r : Int} (h : ov p u r) : btw u p ∨ btw (u + r) p ∨ (btw (-u) r ∧ r ≠ 0) := by
  unfold ov mn mx at h
  unfold btw
  obtain ⟨h1, h2⟩ := h
  split at h1 <;> split at h1 <;> split at h2 <;> split at h2 <;> omega

/-- All on one line: an end of one edge lies on the other. -/
theorem line_on {p q r s u v : Int} (hne : p ≠ 0 ∨ q ≠ 0) (h0 : p * v = u * q) (h1 : p * s = r * q) (h2 : u * s = r * v) (o1 : ov p u r) (o2 : ov q v s) :
    (btw u p ∧ btw v q) ∨ (btw (u + r) p ∧ btw (v + s) q) ∨ (btw (-u) r ∧ btw (-v) s) := by
  by_cases hp : p = 0
  · subst hp
    have hq : q ≠ 0 := by rcases hne with h | h; exact absurd rfl h; exact h
    have hu : u = 0 := by
      rcases Int.mul_eq_zero.1 (show u * q = 0 by omega) with h | h
      · exact h
      · exact absurd h hq
    have hr : r = 0 := by
      rcases Int.mul_eq_zero.1 (show r * q = 0 by omega) with h | h
      · exact h
      · exact absurd h hq
    subst hu hr
    have z : btw (0 : Int) 0 := .inl ⟨by omega, by omega⟩
    rcases ov_one o2 with h | h | ⟨h, -⟩
    · exact .inl ⟨z, h⟩
    · exact .inr (.inl ⟨z, h⟩)
    · exact .inr (.inr ⟨z, h⟩)
  · rcases ov_one o1 with h | h | ⟨h, hr⟩
    · exact .inl ⟨h, btw_dim hp h0 h⟩
    · refine .inr (.inl ⟨h, btw_dim hp ?_ h⟩)
      rw [Int.mul_add, Int.add_mul, h0, h1]
    · refine .inr (.inr ⟨h, btw_dim hr ?_ h⟩)
      rw [Int.mul_neg, Int.neg_mul, h2]

end Go.Proofs.Ytffjonpajjioaaa

/- Package shape and the reference find the same: edges that meet or turn back, simple polygons, convex polygons. -/
namespace Go.Proofs.Ytffjonpajjioaaa

theorem mn_spec (a b : Int) : mn a b ≤ a ∧ mn a b ≤ b ∧ (mn a b = a ∨ mn a b = b) := by
  unfold mn; split <;> omega
theorem mx_spec (a b : Int) : a ≤ mx a b ∧ b ≤ mx a b ∧ (mx a b = a ∨ mx a b = b) := by
  unfold mx; split <;> omega
theorem box1 (a p u r : Int) : (mx (mn a (a + p)) (mn (a + u) (a + u + r)) ≤ mn (mx a (a + p)) (mx (a + u) (a + u + r))) ↔ ov p u r := by
  unfold ov
  have h1 := mn_spec a (a + p)
  have h2 := mn_spec (a + u) (a + u + r)
  have h3 := mx_spec a (a + p)
  have h4 := mx_spec (a + u) (a + u + r)
  have h5 := mn_spec 0 p
  have h6 := mx_spec 0 p
  have h7 := mn_spec u (u + r)
  have h8 := mx_spec u (u + r)
  have h9 := mx_spec (mn a (a + p)) (mn (a + u) (a + u + r))
  have h10 := mn_spec (mx a (a + p)) (mx (a + u) (a + u + r))
  generalize mx (mn a (a + p)) (mn (a + u) (a + u + r)) = x1 at *
  generalize mn (mx a (a + p)) (mx (a + u) (a + u + r)) = x2 at *
  generalize mn a (a + p) = x3 at *
  generalize mn (a + u) (a + u + r) = x4 at *
  generalize mx a (a + p) = x5 at *
  generalize mx (a + u) (a + u + r) = x6 at *
  generalize mn 0 p = x7 at *
  generalize mx 0 p = x8 at *
  generalize mn u (u + r) = x9 at *
  generalize mx u (u + r) = x10 at *
  omega
theorem in1 (a p u : Int) : inB (a + u) (mn a (a + p)) (mx a (a + p)) = true ↔ btw u p := by
  rw [inB_true]; unfold btw mn mx; split <;> split <;> omega

theorem box_iff (ax ay p q u v r s : Int) : boxB ax ay (ax + p) (ay + q) (ax + u) (ay + v) (ax + u + r) (ay + v + s) = true ↔ ov p u r ∧ ov q v s := by
  unfold boxB
  rw [Bool.and_eq_true, decide_eq_true_eq, decide_eq_true_eq, box1, box1]
theorem reach_iff (ax ay bx by' cx cy dx dy : Int) : reachB ax ay bx by' cx cy dx dy = true ↔ opp (cross ax ay bx by' cx cy) (cross ax ay bx by' dx dy) := by
  unfold reachB opp
  rw [Bool.and_eq_true, decide_eq_true_eq, decide_eq_true_eq]
theorem on_iff (ax ay p q u v : Int) : onB ax ay (ax + p) (ay + q) (ax + u) (ay + v) = true ↔ al p q u v = 0 ∧ btw u p ∧ btw v q := by
  unfold onB
  rw [Bool.and_eq_true, Bool.and_eq_true, in1, in1, beq_iff_eq]
  have : cross ax ay (ax + p) (ay + q) (ax + u) (ay + v) = al p q u v := by unfold cross al; grind
  rw [this]
  exact and_assoc

theorem sgn_opp {a b : Int} : sgn a * sgn b < 0 ↔ opp a b ∧ a ≠ 0 ∧ b ≠ 0 := by
  rw [opp_iff]
  unfold sgn
  rcases Int.lt_trichotomy a 0 with h | h | h <;> rcases Int.lt_trichotomy b 0 with h' | h' | h'
  all_goals
    first
      | (rw [if_neg (by omega), if_pos (by omega), if_neg (by omega), if_pos (by omega)]; omega)
      | (rw [if_neg (by omega), if_pos (by omega), if_neg (by omega), if_neg (by omega)]; omega)
      | (rw [if_neg (by omega), if_pos (by omega), if_pos (by omega)]; omega)
      | (rw [if_neg (by omega), if_neg (by omega), if_neg (by omega), if_pos (by omega)]; omega)
      | (rw [if_neg (by omega), if_neg (by omega), if_neg (by omega), if_neg (by omega)]; omega)
      | (rw [if_neg (by omega), if_neg (by omega), if_pos (by omega)]; omega)
      | (rw [if_pos (by omega), if_neg (by omega), if_pos (by omega)]; omega)
      | (rw [if_pos (by omega), if_neg (by omega), if_neg (by omega)]; omega)
      | (rw [if_pos (by omega), if_pos (by omega)]; omega)

theorem opp_neg {a b : Int} : opp (-a) (-b) ↔ opp a b := by
  rw [opp_iff, opp_iff]; omega

/-- An end on the other edge's line, where both are reached, is on the edge. -/
theorem on_of_reach {p q r s u v : Int} (hD : p * s - r * q ≠ 0) (h0 : al p q u v = 0) (h2 : opp (u * s - r * v) (r * (q - v) - (p - u) * s)) : btw u p ∧ btw v q := by
  obtain ⟨i1, i2, i3, i4⟩ := cross_ids p q r s u v
  rw [h0, Int.zero_mul, Int.sub_zero] at i3 i4
  rw [opp_iff, ← i2] at h2
  generalize u * s - r * v = c at *
  generalize p * s - r * q = D at *
  rcases Int.lt_or_lt_of_ne hD with g | g
  · exact ⟨btw_of (D := -D) (t := -c) (by omega) (by rw [Int.neg_mul, Int.neg_mul, i3]) (by omega) (by omega), btw_of (D := -D) (t := -c) (by omega) (by rw [Int.neg_mul, Int.neg_mul, i4]) (by omega) (by omega)⟩
  · exact ⟨btw_of g i3 (by omega) (by omega), btw_of g i4 (by omega) (by omega)⟩

theorem meet_rel (p q r s u v : Int) (h1 : p ≠ 0 ∨ q ≠ 0) (h2 : r ≠ 0 ∨ s ≠ 0) :
    (((ov p u r ∧ ov q v s) ∧ opp (al p q u v) (al p q (u + r) (v + s))) ∧ opp (u * s - r * v) (r * (q - v) - (p - u) * s)) ↔
      ((((al p q u v = 0 ∧ btw u p ∧ btw v q) ∨ (al p q (u + r) (v + s) = 0 ∧ btw (u + r) p ∧ btw (v + s) q)) ∨ (u * s - r * v = 0 ∧ btw (-u) r ∧ btw (-v) s)) ∨ (r * (q - v) - (p - u) * s = 0 ∧ btw (p - u) r ∧ btw (q - v) s)) ∨
        ((opp (al p q u v) (al p q (u + r) (v + s)) ∧ al p q u v ≠ 0 ∧ al p q (u + r) (v + s) ≠ 0) ∧ opp (u * s - r * v) (r * (q - v) - (p - u) * s) ∧ u * s - r * v ≠ 0 ∧ r * (q - v) - (p - u) * s ≠ 0) := by
  obtain ⟨i1, i2, i3, i4⟩ := cross_ids p q r s u v
  have e1 : (u + r) * -s - -r * (v + s) = -(u * s - r * v) := by grind
  have e2 : -r * (q - (v + s)) - (p - (u + r)) * -s = -(r * (q - v) - (p - u) * s) := by grind
  have e3 : al r s (-u) (-v) = u * s - r * v := by unfold al; grind
  have e4 : -u * q - p * -v = al p q u v := by unfold al; grind
  have e5 : p * (s - -v) - (r - -u) * q = al p q (u + r) (v + s) := by unfold al; grind
  have e6 : al r s (p - u) (q - v) = r * (q - v) - (p - u) * s := by unfold al; grind
  have e7 : (p - u) * -q - -p * (q - v) = -al p q u v := by unfold al; grind
  have e8 : -p * (s - (q - v)) - (r - (p - u)) * -q = -al p q (u + r) (v + s) := by unfold al; grind
  constructor
  · rintro ⟨⟨⟨o1, o2⟩, op1⟩, op2⟩
    by_cases hD : p * s - r * q = 0
    · rw [hD] at i1 i2
      have a0 : al p q u v = 0 := by rw [i1, opp_iff] at op1; omega
      have c0 : u * s - r * v = 0 := by rw [← i2, opp_iff] at op2; omega
      rcases line_on h1 (show p * v = u * q by unfold al at a0; omega) (by omega) (by omega) o1 o2 with h | h | h
      · exact .inl (.inl (.inl (.inl ⟨a0, h⟩)))
      · exact .inl (.inl (.inl (.inr ⟨by rw [i1, a0]; rfl, h⟩)))
      · exact .inl (.inl (.inr ⟨c0, h⟩))
    · by_cases a0 : al p q u v = 0
      · exact .inl (.inl (.inl (.inl ⟨a0, on_of_reach hD a0 op2⟩)))
      · by_cases b0 : al p q (u + r) (v + s) = 0
        · refine .inl (.inl (.inl (.inr ⟨b0, on_of_reach (r := -r) (s := -s) ?_ b0 ?_⟩)))
          · have : p * -s - -r * q = -(p * s - r * q) := by grind
            omega
          · rw [e1, e2, opp_neg]; exact op2
        · by_cases c0 : u * s - r * v = 0
          · refine .inl (.inl (.inr ⟨c0, on_of_reach (p := r) (q := s) (r := p) (s := q) ?_ (by rw [e3]; exact c0) ?_⟩))
            · have : r * q - p * s = -(p * s - r * q) := by grind
              omega
            · rw [e4, e5]; exact op1
          · by_cases d0 : r * (q - v) - (p - u) * s = 0
            · refine .inl (.inr ⟨d0, on_of_reach (p := r) (q := s) (r := -p) (s := -q) ?_ (by rw [e6]; exact d0) ?_⟩)
              · have : r * -q - -p * s = p * s - r * q := by grind
                omega
              · rw [e7, e8, opp_neg]; exact op1
            · exact .inr ⟨⟨op1, a0, b0⟩, op2, c0, d0⟩
  · rintro ((((⟨a0, b1, b2⟩ | ⟨a0, b1, b2⟩) | ⟨a0, b1, b2⟩) | ⟨a0, b1, b2⟩) | ⟨⟨op1, a0, b0⟩, op2, c0, d0⟩)
    · refine ⟨⟨⟨?_, ?_⟩, ?_⟩, reach_of_on h1 a0 b1 b2⟩
      · unfold ov; have := mn_spec 0 p; have := mx_spec 0 p; have := mn_spec u (u + r); have := mx_spec u (u + r); unfold btw at b1; omega
      · unfold ov; have := mn_spec 0 q; have := mx_spec 0 q; have := mn_spec v (v + s); have := mx_spec v (v + s); unfold btw at b2; omega
      · rw [opp_iff, a0]; omega
    · have k := reach_of_on (r := -r) (s := -s) h1 a0 b1 b2
      rw [e1, e2, opp_neg] at k
      refine ⟨⟨⟨?_, ?_⟩, ?_⟩, k⟩
      · unfold ov; have := mn_spec 0 p; have := mx_spec 0 p; have := mn_spec u (u + r); have := mx_spec u (u + r); unfold btw at b1; omega
      · unfold ov; have := mn_spec 0 q; have := mx_spec 0 q; have := mn_spec v (v + s); have := mx_spec v (v + s); unfold btw at b2; omega
      · rw [opp_iff, a0]; omega
    · have k := reach_of_on (p := r) (q := s) (r := p) (s := q) h2 (by rw [e3]; exact a0) b1 b2
      rw [e4, e5] at k
      refine ⟨⟨⟨?_, ?_⟩, k⟩, by rw [opp_iff, a0]; omega⟩
      · unfold ov; have := mn_spec 0 p; have := mx_spec 0 p; have := mn_spec u (u + r); have := mx_spec u (u + r); unfold btw at b1; omega
      · unfold ov; have := mn_spec 0 q; have := mx_spec 0 q; have := mn_spec v (v + s); have := mx_spec v (v + s); unfold btw at b2; omega
    · have k := reach_of_on (p := r) (q := s) (r := -p) (s := -q) h2 (by rw [e6]; exact a0) b1 b2
      rw [e7, e8, opp_neg] at k
      refine ⟨⟨⟨?_, ?_⟩, k⟩, by rw [opp_iff, a0]; omega⟩
      · unfold ov; have := mn_spec 0 p; have := mx_spec 0 p; have := mn_spec u (u + r); have := mx_spec u (u + r); unfold btw at b1; omega
      · unfold ov; have := mn_spec 0 q; have := mx_spec 0 q; have := mn_spec v (v + s); have := mx_spec v (v + s); unfold btw at b2; omega
    · have hD : p * s - r * q ≠ 0 := by
        intro e
        rw [e] at i1
        rw [i1, opp_iff] at op1
        omega
      exact ⟨⟨boxes_of hD op1 op2, op1⟩, op2⟩

theorem meet_same {a b c d : Pt} (h1 : eqP a b = false) (h2 : eqP c d = false) : meet2P a b c d = meetP a b c d := by
  obtain ⟨ax, ay⟩ := a
  obtain ⟨bx, by'⟩ := b
  obtain ⟨cx, cy⟩ := c
  obtain ⟨dx, dy⟩ := d
  obtain ⟨p, rfl⟩ : ∃ p, bx = ax + p := ⟨bx - ax, by omega⟩
  obtain ⟨q, rfl⟩ : ∃ q, by' = ay + q := ⟨by' - ay, by omega⟩
  obtain ⟨u, rfl⟩ : ∃ u, cx = ax + u := ⟨cx - ax, by omega⟩
  obtain ⟨v, rfl⟩ : ∃ v, cy = ay + v := ⟨cy - ay, by omega⟩
  obtain ⟨r, rfl⟩ : ∃ r, dx = ax + u + r := ⟨dx - ax - u, by omega⟩
  obtain ⟨s, rfl⟩ : ∃ s, dy = ay + v + s := ⟨dy - ay - v, by omega⟩
  have g1 : p ≠ 0 ∨ q ≠ 0 := by
    unfold eqP eqI at h1
    rw [Bool.and_eq_false_iff, beq_eq_false_iff_ne, beq_eq_false_iff_ne] at h1
    simp only at h1; omega
  have g2 : r ≠ 0 ∨ s ≠ 0 := by
    unfold eqP eqI at h2
    rw [Bool.and_eq_false_iff, beq_eq_false_iff_ne, beq_eq_false_iff_ne] at h2
    simp only at h2; omega
  have c1 : cross ax ay (ax + p) (ay + q) (ax + u) (ay + v) = al p q u v := by unfold cross al; grind
  have c2 : cross ax ay (ax + p) (ay + q) (ax + u + r) (ay + v + s) = al p q (u + r) (v + s) := by unfold cross al; grind
  have c3 : cross (ax + u) (ay + v) (ax + u + r) (ay + v + s) ax ay = u * s - r * v := by unfold cross; grind
  have c4 : cross (ax + u) (ay + v) (ax + u + r) (ay + v + s) (ax + p) (ay + q) = r * (q - v) - (p - u) * s := by unfold cross; grind
  have o1 := on_iff ax ay p q u v
  have o2 : onB ax ay (ax + p) (ay + q) (ax + u + r) (ay + v + s) = true ↔ al p q (u + r) (v + s) = 0 ∧ btw (u + r) p ∧ btw (v + s) q := by
    have := on_iff ax ay p q (u + r) (v + s)
    rwa [← Int.add_assoc, ← Int.add_assoc] at this
  have o3 : onB (ax + u) (ay + v) (ax + u + r) (ay + v + s) ax ay = true ↔ u * s - r * v = 0 ∧ btw (-u) r ∧ btw (-v) s := by
    have := on_iff (ax + u) (ay + v) r s (-u) (-v)
    rw [show ax + u + -u = ax by omega, show ay + v + -v = ay by omega, show al r s (-u) (-v) = u * s - r * v by unfold al; grind] at this
    exact this
  have o4 : onB (ax + u) (ay + v) (ax + u + r) (ay + v + s) (ax + p) (ay + q) = true ↔ r * (q - v) - (p - u) * s = 0 ∧ btw (p - u) r ∧ btw (q - v) s := by
    have := on_iff (ax + u) (ay + v) r s (p - u) (q - v)
    rw [show ax + u + (p - u) = ax + p by omega, show ay + v + (q - v) = ay + q by omega, show al r s (p - u) (q - v) = r * (q - v) - (p - u) * s by unfold al; grind] at this
    exact this
  rw [Bool.eq_iff_iff]
  unfold meet2P meetP meet2B meetB
  simp only
  rw [Bool.and_eq_true, Bool.and_eq_true, box_iff, reach_iff, reach_iff, Bool.or_eq_true, Bool.or_eq_true, Bool.or_eq_true, Bool.or_eq_true, Bool.and_eq_true, decide_eq_true_eq, decide_eq_true_eq, sgn_opp, sgn_opp, c1, c2, c3, c4, o1, o2, o3, o4]
  exact meet_rel p q r s u v g1 g2

end Go.Proofs.Ytffjonpajjioaaa

/- Package shape and the reference find the same polygons simple and convex. -/
namespace Go.Proofs.Ytffjonpajjioaaa

theorem back_rel {p q r s : Int} (h1 : p ≠ 0 ∨ q ≠ 0) (h2 : r ≠ 0 ∨ s ≠ 0) (h : p * s = r * q) : 0 < p * r + q * s ↔ (btw r p ∧ btw s q) ∨ (btw p r ∧ btw q s) := by
  constructor
  · intro hd
    by_cases hp : p = 0
    · subst hp
      have hq : q ≠ 0 := by rcases h1 with h' | h'; exact absurd rfl h'; exact h'
      have hr : r = 0 := by
        rcases Int.mul_eq_zero.1 (show r * q = 0 by omega) with h' | h'
        · exact h'
        · exact absurd h' hq
      subst hr
      have hd' : 0 < q * s := by omega
      have hs : (0 < q ∧ 0 < s) ∨ (q < 0 ∧ s < 0) := by
        rcases Int.lt_trichotomy q 0 with g | g | g
        · right; refine ⟨g, ?_⟩
          rcases Int.lt_or_le s 0 with k | k
          · exact k
          · have := Int.mul_nonpos_of_nonpos_of_nonneg (Int.le_of_lt g) k; omega
        · exact absurd g hq
        · left; refine ⟨g, ?_⟩
          rcases Int.lt_or_le 0 s with k | k
          · exact k
          · have := Int.mul_nonpos_of_nonneg_of_nonpos (Int.le_of_lt g) k; omega
      unfold btw
      omega
    · have hr : r ≠ 0 := by
        intro e; subst e
        have hs : s = 0 := by
          rcases Int.mul_eq_zero.1 (show p * s = 0 by omega) with h' | h'
          · exact absurd h' hp
          · exact h'
        subst hs
        simp at h2
      have k1 : p * (p * r + q * s) = r * (p * p + q * q) := by
        have : q * (p * s) = q * (r * q) := by rw [h]
        grind
      have k2 : 0 < p * p + q * q := by
        have a : 0 < p * p := by
          rcases Int.lt_or_lt_of_ne hp with g | g
          · exact Int.mul_pos_of_neg_of_neg g g
          · exact Int.mul_pos g g
        have b : 0 ≤ q * q := by
          rcases Int.le_total 0 q with g | g
          · exact Int.mul_nonneg g g
          · exact Int.mul_nonneg_of_nonpos_of_nonpos g g
        omega
      generalize p * r + q * s = d at *
      generalize p * p + q * q = f at *
      have hs : (0 < p ∧ 0 < r) ∨ (p < 0 ∧ r < 0) := by
        rcases Int.lt_or_lt_of_ne hp with g | g
        · right; refine ⟨g, ?_⟩
          have := Int.mul_neg_of_neg_of_pos g hd
          rcases Int.lt_or_le r 0 with k | k
          · exact k
          · have := Int.mul_nonneg k (Int.le_of_lt k2); omega
        · left; refine ⟨g, ?_⟩
          have := Int.mul_pos g hd
          rcases Int.lt_or_le 0 r with k | k
          · exact k
          · have := Int.mul_nonpos_of_nonpos_of_nonneg k (Int.le_of_lt k2); omega
      have hb : btw r p ∨ btw p r := by unfold btw; omega
      rcases hb with hb | hb
      · exact .inl ⟨hb, btw_dim hp h hb⟩
      · exact .inr ⟨hb, btw_dim hr h.symm hb⟩
  · have key : ∀ x y : Int, btw x y → 0 ≤ y * x ∧ (y * x = 0 → x = 0) := by
      intro x y hb
      rcases hb with ⟨b1, b2⟩ | ⟨b1, b2⟩
      · refine ⟨Int.mul_nonneg (by omega) b1, fun e => ?_⟩
        rcases Int.mul_eq_zero.1 e with k | k <;> omega
      · refine ⟨Int.mul_nonneg_of_nonpos_of_nonpos (by omega) b2, fun e => ?_⟩
        rcases Int.mul_eq_zero.1 e with k | k <;> omega
    rintro (⟨b1, b2⟩ | ⟨b1, b2⟩)
    · obtain ⟨k1, k2⟩ := key _ _ b1
      obtain ⟨k3, k4⟩ := key _ _ b2
      rcases h2 with g | g <;> omega
    · obtain ⟨k1, k2⟩ := key _ _ b1
      obtain ⟨k3, k4⟩ := key _ _ b2
      rw [Int.mul_comm p r, Int.mul_comm q s]
      rcases h1 with g | g <;> omega

theorem back_same {a b c : Pt} (h1 : eqP a b = false) (h2 : eqP b c = false) : backP a b c = (onP a b c || onP b c a) := by
  obtain ⟨ax, ay⟩ := a
  obtain ⟨bx, by'⟩ := b
  obtain ⟨cx, cy⟩ := c
  obtain ⟨p, rfl⟩ : ∃ p, ax = bx + p := ⟨ax - bx, by omega⟩
  obtain ⟨q, rfl⟩ : ∃ q, ay = by' + q := ⟨ay - by', by omega⟩
  obtain ⟨r, rfl⟩ : ∃ r, cx = bx + r := ⟨cx - bx, by omega⟩
  obtain ⟨s, rfl⟩ : ∃ s, cy = by' + s := ⟨cy - by', by omega⟩
  have g1 : p ≠ 0 ∨ q ≠ 0 := by
    unfold eqP eqI at h1
    rw [Bool.and_eq_false_iff, beq_eq_false_iff_ne, beq_eq_false_iff_ne] at h1
    simp only at h1; omega
  have g2 : r ≠ 0 ∨ s ≠ 0 := by
    unfold eqP eqI at h2
    rw [Bool.and_eq_false_iff, beq_eq_false_iff_ne, beq_eq_false_iff_ne] at h2
    simp only at h2; omega
  have o1 : onB (bx + p) (by' + q) bx by' (bx + r) (by' + s) = true ↔ p * s - r * q = 0 ∧ btw r p ∧ btw s q := by
    have := on_iff (bx + p) (by' + q) (-p) (-q) (r - p) (s - q)
    rw [show bx + p + -p = bx by omega, show by' + q + -q = by' by omega, show bx + p + (r - p) = bx + r by omega, show by' + q + (s - q) = by' + s by omega, show al (-p) (-q) (r - p) (s - q) = -(p * s - r * q) by unfold al; grind] at this
    rw [this]; unfold btw; omega
  have o2 : onB bx by' (bx + r) (by' + s) (bx + p) (by' + q) = true ↔ p * s - r * q = 0 ∧ btw p r ∧ btw q s := by
    rw [on_iff]; unfold al
    exact ⟨fun ⟨e, h⟩ => ⟨by omega, h⟩, fun ⟨e, h⟩ => ⟨by omega, h⟩⟩
  have d1 : (bx + p - bx) * (by' + s - by') - (bx + r - bx) * (by' + q - by') = p * s - r * q := by grind
  have d2 : (bx + p - bx) * (bx + r - bx) + (by' + q - by') * (by' + s - by') = p * r + q * s := by grind
  rw [Bool.eq_iff_iff]
  unfold backP onP backB
  simp only
  rw [Bool.or_eq_true, Bool.and_eq_true, beq_iff_eq, decide_eq_true_eq, o1, o2, d1, d2]
  constructor
  · rintro ⟨e, hd⟩
    rcases (back_rel g1 g2 (by omega)).1 hd with h | h
    · exact .inl ⟨e, h⟩
    · exact .inr ⟨e, h⟩
  · rintro (⟨e, h⟩ | ⟨e, h⟩)
    · exact ⟨e, (back_rel g1 g2 (by omega)).2 (.inl h)⟩
    · exact ⟨e, (back_rel g1 g2 (by omega)).2 (.inr h)⟩

theorem meetP_comm (a b c d : Pt) : meetP a b c d = meetP c d a b := by
  unfold meetP meetB
  generalize onB a.1 a.2 b.1 b.2 c.1 c.2 = o1
  generalize onB a.1 a.2 b.1 b.2 d.1 d.2 = o2
  generalize onB c.1 c.2 d.1 d.2 a.1 a.2 = o3
  generalize onB c.1 c.2 d.1 d.2 b.1 b.2 = o4
  rw [Bool.and_comm]
  cases o1 <;> cases o2 <;> cases o3 <;> cases o4 <;> rfl

theorem eqP_iff {a b : Pt} : eqP a b = true ↔ a = b := by
  obtain ⟨x, y⟩ := a
  obtain ⟨u, v⟩ := b
  simp [eqP, eqI]

theorem simple2B_iff (l : List Pt) : simple2B l = true ↔ ∀ i, i < l.length → zeroAt l i = false ∧ backAt l i = false ∧ ∀ j, j + 2 ≤ i → hit2At l i j = false := by
  unfold simple2B simple2At
  simp only [List.all_eq_true, List.mem_range, Bool.and_eq_true, Bool.not_eq_true', Bool.or_eq_false_iff, Bool.or_eq_true, decide_eq_true_eq]
  constructor
  · intro h i hi
    obtain ⟨⟨a, b⟩, c⟩ := h i hi
    refine ⟨a, b, fun j hj => ?_⟩
    rcases c j (by omega) with k | k
    · omega
    · exact k
  · intro h i hi
    obtain ⟨a, b, c⟩ := h i hi
    refine ⟨⟨a, b⟩, fun j hj => ?_⟩
    by_cases e : i < j + 2
    · exact .inl e
    · exact .inr (c j (by omega))

theorem simpleB_iff (l : List Pt) : simpleB l = true ↔ (∀ i, i < l.length → zeroAt l i = false) ∧ ∀ i, i < l.length → foldAt l i = false ∧ ∀ k, k < l.length → i + 2 ≤ k → hitAt l i k = false := by
  constructor
  · unfold simpleB
    simp only [List.all_eq_true, List.mem_range, Bool.and_eq_true, Bool.not_eq_true', Bool.or_eq_true, decide_eq_true_eq]
    rintro ⟨h1, h2⟩
    refine ⟨h1, fun i hi => ⟨(h2 i hi).1, fun k hk hik => ?_⟩⟩
    rcases (h2 i hi).2 k hk with g | g
    · omega
    · exact g
  · rintro ⟨h1, h2⟩
    exact simpleB_yes h1 (fun j hj => ⟨(h2 j hj).1, fun k hjk hk => (h2 j hj).2 k hk hjk⟩)

theorem zero_next {l : List Pt} (h : ∀ i, i < l.length → zeroAt l i = false) (i : Nat) (hn : 0 < l.length) : eqP (nx l i) (nx l (i + 1)) = false := by
  have := h ((i + 1) % l.length) (Nat.mod_lt _ hn)
  unfold zeroAt at this
  rw [show gt l ((i + 1) % l.length) = nx l i from rfl] at this
  unfold nx at this ⊢
  rwa [Nat.mod_add_mod] at this

theorem hit_same {l : List Pt} {i j : Nat} (hi : i < l.length) (hj : j + 2 ≤ i) (z1 : zeroAt l i = false) (z2 : zeroAt l j = false) : hit2At l i j = hitAt l j i := by
  unfold hit2At hitAt
  rw [meet_same z1 z2, meetP_comm]
  have : (i - j == l.length - 1) = ((i + 1) % l.length == j) := by
    rw [Bool.eq_iff_iff, beq_iff_eq, beq_iff_eq]
    by_cases e : i + 1 = l.length
    · rw [e, Nat.mod_self]; omega
    · rw [Nat.mod_eq_of_lt (by omega)]; omega
  rw [this]

theorem simple_same (l : List Pt) : simple2B l = simpleB l := by
  rw [Bool.eq_iff_iff, simple2B_iff, simpleB_iff]
  constructor
  · intro h
    have hz : ∀ i, i < l.length → zeroAt l i = false := fun i hi => (h i hi).1
    refine ⟨hz, fun i hi => ⟨?_, fun k hk hik => ?_⟩⟩
    · have b := (h i hi).2.1
      unfold backAt at b
      rw [back_same (hz i hi) (zero_next hz i (by omega))] at b
      exact b
    · rw [← hit_same hk hik (hz k hk) (hz i hi)]
      exact (h k hk).2.2 i hik
  · rintro ⟨hz, h⟩ i hi
    refine ⟨hz i hi, ?_, fun j hj => ?_⟩
    · unfold backAt
      rw [back_same (hz i hi) (zero_next hz i (by omega))]
      exact (h i hi).1
    · rw [hit_same hi hj (hz i hi) (hz j (by omega))]
      exact (h j (by omega)).2 i hi hj

theorem cmpQ_first (a b : Pt) : decide (cmpQ a b < 0) = firstP a b := by
  obtain ⟨ax, ay⟩ := a
  obtain ⟨bx, by'⟩ := b
  rw [Bool.eq_iff_iff]
  simp only [cmpQ, cmpP, firstP, firstB, Bool.or_eq_true, Bool.and_eq_true, beq_iff_eq, decide_eq_true_eq]
  unfold orI cmpI
  by_cases h1 : ay < by' <;> by_cases h2 : by' < ay <;> by_cases h3 : ax < bx <;> by_cases h4 : bx < ax <;> simp [h1, h2, h3, h4] <;> omega

theorem onP_start (a b : Pt) : onP a b a = true := by
  obtain ⟨ax, ay⟩ := a
  obtain ⟨bx, by'⟩ := b
  simp only [onP, onB, cross, inB, mn, mx, Bool.and_eq_true, beq_iff_eq, decide_eq_true_eq]
  refine ⟨⟨by grind, ?_, ?_⟩, ?_, ?_⟩ <;> split <;> omega

/-- The first point of a simple polygon is no other one. -/
theorem first_alone {l : List Pt} (h : simpleB l = true) {i : Nat} (h0 : 0 < i) (hi : i < l.length) : gt l 0 ≠ gt l i := by
  intro e
  rw [simpleB_iff] at h
  obtain ⟨hz, hh⟩ := h
  by_cases e1 : i = 1
  · subst e1
    have := hz 0 (by omega)
    unfold zeroAt nx at this
    rw [Nat.zero_add, Nat.mod_eq_of_lt hi, show l.getD 1 (0, 0) = gt l 1 from rfl] at this
    rw [eqP_iff.2 e] at this
    cases this
  · by_cases e2 : i + 1 = l.length
    · have := hz i hi
      unfold zeroAt nx at this
      rw [e2, Nat.mod_self, show l.getD 0 (0, 0) = gt l 0 from rfl] at this
      rw [eqP_iff.2 e.symm] at this
      cases this
    · have := (hh 0 (by omega)).2 i hi (by omega)
      unfold hitAt at this
      rw [Nat.mod_eq_of_lt (by omega), ← e] at this
      have o := onP_start (gt l 0) (nx l 0)
      have m : meetP (gt l 0) (nx l 0) (gt l 0) (nx l i) = true := by
        unfold onP at o
        unfold meetP meetB
        rw [o]; simp
      rw [m] at this
      simp at this

theorem convex_same (l : List Pt) : convex2B l = convexB l := by
  unfold convex2B convexB
  rw [simple_same, Bool.and_comm]
  cases hs : simpleB l
  · rfl
  · rw [Bool.true_and, Bool.true_and, Bool.eq_iff_iff, List.all_eq_true, List.all_eq_true]
    have k : ∀ i, i < l.length → convex2At l i = convexAt l i := by
      intro i hi
      unfold convex2At convexAt
      rw [cmpQ_first, Bool.not_or]
      congr 1
      by_cases e0 : i = 0
      · subst e0
        have : firstP (gt l 0) (gt l 0) = false := by simp [firstP, firstB]
        rw [this]; rfl
      · have ne := first_alone hs (Nat.pos_of_ne_zero e0) hi
        rw [show (i == 0) = false by simp [e0], Bool.false_or]
        generalize gt l 0 = a at *
        generalize gt l i = b at *
        obtain ⟨ax, ay⟩ := a
        obtain ⟨bx, by'⟩ := b
        have ne' : ¬ (ax = bx ∧ ay = by') := fun ⟨e1, e2⟩ => ne (by rw [e1, e2])
        rw [Bool.eq_iff_iff]
        simp only [firstP, firstB, Bool.not_eq_true', Bool.or_eq_false_iff, Bool.or_eq_true, Bool.and_eq_true, Bool.and_eq_false_iff, beq_iff_eq, beq_eq_false_iff_ne, decide_eq_true_eq, decide_eq_false_iff_not]
        omega
    constructor
    · intro h i hi
      rw [← k i (List.mem_range.1 hi)]; exact h i hi
    · intro h i hi
      rw [k i (List.mem_range.1 hi)]; exact h i hi
end Go.Proofs.Ytffjonpajjioaaa

/- Is a polygon convex in normal form? The reference's function. -/
namespace Go.Proofs.Ytffjonpajjioaaa
open Go.RowKit Go.Sort
attribute [local go_sem ↓] run_min_mn run_max_mx Go.wp_at_zero Go.wp_at_succ


end Go.Proofs.Ytffjonpajjioaaa

/- Package shape's exported functions Area2, Simple and Convex; the reference's Polygon, of any slice. -/
namespace Go.Proofs.Ytffjonpajjioaaa
open Go.RowKit Go.Sort
attribute [local go_sem ↓] run_min_mn run_max_mx

/-- What a polygon's slice is. -/
structure PolyIn (w : World) (A : Option Addr) (n : Nat) (l : List Pt) (b off : Nat) : Prop where
  at_ : A = some ⟨b, off, none⟩
  lo : 2 < n
  hi : n ≤ 32
  here : b < w.heap.size
  pts : PtsIn w b off l
  ok : l.all okP = true

theorem PtsAt.poly {w : World} {A : Option Addr} {n : Nat} {l : List Pt} (h : PtsAt w A l) (hn : l.length = n) (hp : polyB l = true) : ∃ b off, PolyIn w A n l b off := by
  simp only [polyB, inB, Bool.and_eq_true, decide_eq_true_eq] at hp
  obtain ⟨h1, h2, h3⟩ := hp
  obtain ⟨b, off, e, hb, hi⟩ := h (by intro e; subst e; simp at h2)
  exact ⟨b, off, ⟨e, by omega, by omega, hb, hi, h1⟩⟩

def area2X (l : List Pt) : Int := if polyB l then area2 l else 0
def errX (l : List Pt) : Int := if polyB l then 0 else 1

theorem area2X_any (A : Option Addr) (n c : Nat) (l : List Pt) (w : World) (hn : l.length = n) (hbig : n ≤ 1000000) (hx : PtsAt w A l) :
    Calls Try.prog 6 #[.slice A n c] w fun e w' => e = .returned (.tuple #[.int .i64 (area2X l), .int .i64 (errX l)]) ∧ Below w.heap.size w w' := by
  have K := Lib.hid (isPolygon_any A n c l w hn hbig hx)
  cases hp : polyB l
  · have e1 : area2X l = 0 := by unfold area2X; rw [hp]; rfl
    have e2 : errX l = 1 := by unfold errX; rw [hp]; rfl
    rw [e1, e2]
    rw [hp] at K
    clear hn hx
    go_enter Try.func6, Try.ntmps6
    go_wp2_with fail
    refine (K.out).mono ?_
    rintro e w' ⟨rfl, hb⟩
    go_wp2
    go_ret2
    exact ⟨rfl, hb⟩
  · have e1 : area2X l = area2 l := by unfold area2X; rw [hp]; rfl
    have e2 : errX l = 0 := by unfold errX; rw [hp]; rfl
    rw [e1, e2]
    rw [hp] at K
    obtain ⟨b, off, rfl, h1, h2, h3, h4, h5⟩ := hx.poly hn hp
    have S := fun W hW => Lib.hid (area2D_any b off n c l W hn (by omega) (by omega) (h4.below (B := w.heap.size) hW h3) (Nat.lt_of_lt_of_le h3 hW.size) h5)
    clear hn hx h4 h5 e1 e2
    generalize area2 l = r at *
    go_enter Try.func6, Try.ntmps6
    go_wp2_with fail
    refine (K.out).mono ?_
    rintro e w1 ⟨rfl, hb⟩
    go_wp2_with fail
    refine ((S _ hb).out).mono ?_
    rintro e w2 ⟨rfl, hb2⟩
    go_wp2
    go_ret2
    exact ⟨rfl, hb.trans (hb2.mono hb.size)⟩

def simpleX (l : List Pt) : Bool := polyB l && simpleB l
def convexX (l : List Pt) : Bool := polyB l && convexB l
end Go.Proofs.Ytffjonpajjioaaa

/- Where is a point? Package shape's function. -/
namespace Go.Proofs.Ytffjonpajjioaaa
open Go.RowKit Go.Sort
attribute [local go_sem ↓] run_min_mn run_max_mx Go.wp_at_zero Go.wp_at_succ

/-- Coordinates that every sum and product here can bear. -/
def Bd (p : Pt) : Prop := (-60000 ≤ p.1 ∧ p.1 ≤ 60000) ∧ (-60000 ≤ p.2 ∧ p.2 ≤ 60000)
theorem Bd.of_ok {p : Pt} (h : okP p = true) : Bd p := by
  obtain ⟨h1, h2⟩ := okP_bd h
  exact ⟨by omega, by omega⟩
theorem Bd.all {l : List Pt} (h : l.all okP = true) (i : Nat) : Bd (gt l i) := Bd.of_ok (getD_ok h i)
theorem nx_gt (l : List Pt) (i : Nat) : nx l i = gt l ((i + 1) % l.length) := rfl

def on2B (px py ax ay bx by' : Int) : Bool := (cross ax ay bx by' px py == 0) && boxB px py px py ax ay bx by'
theorem on2_same (px py ax ay bx by' : Int) : on2B px py ax ay bx by' = onB ax ay bx by' px py := by
  have e : boxB px py px py ax ay bx by' = (inB px (mn ax bx) (mx ax bx) && inB py (mn ay by') (mx ay by')) := by
    rw [Bool.eq_iff_iff]
    simp only [boxB, inB, Bool.and_eq_true, decide_eq_true_eq]
    have a1 := mn_spec px px
    have a2 := mx_spec px px
    have a3 := mn_spec py py
    have a4 := mx_spec py py
    have a5 := mx_spec (mn px px) (mn ax bx)
    have a6 := mn_spec (mx px px) (mx ax bx)
    have a7 := mx_spec (mn py py) (mn ay by')
    have a8 := mn_spec (mx py py) (mx ay by')
    omega
  unfold on2B onB
  rw [e, Bool.and_assoc]

set_option maxHeartbeats 1000000 in
theorem isOn_any (px py ax ay bx by' : Int) (w : World)
    (h1 : -60000 ≤ px ∧ px ≤ 60000) (h2 : -60000 ≤ py ∧ py ≤ 60000) (h3 : -60000 ≤ ax ∧ ax ≤ 60000) (h4 : -60000 ≤ ay ∧ ay ≤ 60000) (h5 : -60000 ≤ bx ∧ bx ≤ 60000) (h6 : -60000 ≤ by' ∧ by' ≤ 60000) :
    Calls Try.prog 36 #[.agg #[.int .i64 px, .int .i64 py], .agg #[.int .i64 ax, .int .i64 ay], .agg #[.int .i64 bx, .int .i64 by']] w fun e w' =>
      e = .returned (.bool (onB ax ay bx by' px py)) ∧ Below w.heap.size w w' := by
  have C0 := fun W => Lib.hid (turn_any ax ay bx by' px py W h3 h4 h5 h6 h1 h2)
  have C1 := fun W => Lib.hid (box_any px py px py ax ay bx by' W)
  have e : onB ax ay bx by' px py = ((cross ax ay bx by' px py == 0) && boxB px py px py ax ay bx by') := (on2_same ..).symm
  have H := Lib.hid e
  clear e h1 h2 h3 h4 h5 h6
  generalize onB ax ay bx by' px py = r at *
  generalize cross ax ay bx by' px py = x0 at *
  generalize boxB px py px py ax ay bx by' = x1 at *
  go_enter Try.func36, Try.ntmps36
  go_wp2_with fail
  have B := boxed3 w px py ax ay bx by'
  generalize ((w.alloc (Go.Proofs.Ytffjonpajjioaaa.bx px py)).alloc (Go.Proofs.Ytffjonpajjioaaa.bx ax ay)).alloc (Go.Proofs.Ytffjonpajjioaaa.bx bx by') = wr at *
  obtain ⟨P1, P2, P3, hb, hz⟩ := B
  have l1 : w.heap.size < wr.heap.size ∧ w.heap.size + 1 < wr.heap.size ∧ w.heap.size + 1 + 1 < wr.heap.size := by omega
  obtain ⟨a1, a2⟩ := P1
  obtain ⟨b1, b2⟩ := P2
  obtain ⟨c1, c2⟩ := P3
  go_wp2_with fail
  refine ((C0 _).out).mono ?_
  rintro e w1 ⟨rfl, hb1⟩
  obtain ⟨a1, a2⟩ := PtAt.below hb1 l1.1 ⟨a1, a2⟩
  obtain ⟨b1, b2⟩ := PtAt.below hb1 l1.2.1 ⟨b1, b2⟩
  obtain ⟨c1, c2⟩ := PtAt.below hb1 l1.2.2 ⟨c1, c2⟩
  have hbw1 := hb.trans (hb1.mono hb.size)
  clear hb1 hb hz C0
  cases hx : (x0 == 0)
  · go_wp2
    go_ret
    exact ⟨ret_bool (by rw [H.out, hx]; rfl), hbw1⟩
  · go_wp2_with fail
    refine ((C1 _).out).mono ?_
    rintro e w2 ⟨rfl, hb2⟩
    have hbw2 := hbw1.trans (hb2.mono hbw1.size)
    go_wp2
    go_ret
    exact ⟨ret_bool (by rw [H.out, hx]; rfl), hbw2⟩

def leftB (px py ax ay bx by' : Int) : Bool := (decide (py < ay) != decide (py < by')) && (decide (0 < cross ax ay bx by' px py) == decide (ay < by'))

set_option maxHeartbeats 1000000 in
theorem isLeft_any (px py ax ay bx by' : Int) (w : World)
    (h1 : -60000 ≤ px ∧ px ≤ 60000) (h2 : -60000 ≤ py ∧ py ≤ 60000) (h3 : -60000 ≤ ax ∧ ax ≤ 60000) (h4 : -60000 ≤ ay ∧ ay ≤ 60000) (h5 : -60000 ≤ bx ∧ bx ≤ 60000) (h6 : -60000 ≤ by' ∧ by' ≤ 60000) :
    Calls Try.prog 37 #[.agg #[.int .i64 px, .int .i64 py], .agg #[.int .i64 ax, .int .i64 ay], .agg #[.int .i64 bx, .int .i64 by']] w fun e w' =>
      e = .returned (.bool (leftB px py ax ay bx by')) ∧ Below w.heap.size w w' := by
  have C0 := fun W => Lib.hid (turn_any ax ay bx by' px py W h3 h4 h5 h6 h1 h2)
  have e : leftB px py ax ay bx by' = ((decide (py < ay) != decide (py < by')) && (decide (0 < cross ax ay bx by' px py) == decide (ay < by'))) := rfl
  have H := Lib.hid e
  clear e h1 h2 h3 h4 h5 h6
  generalize leftB px py ax ay bx by' = r at *
  generalize cross ax ay bx by' px py = x0 at *
  go_enter Try.func37, Try.ntmps37
  go_upto_region 1 with (fail)
  have B := boxed3 w px py ax ay bx by'
  generalize ((w.alloc (Go.Proofs.Ytffjonpajjioaaa.bx px py)).alloc (Go.Proofs.Ytffjonpajjioaaa.bx ax ay)).alloc (Go.Proofs.Ytffjonpajjioaaa.bx bx by') = wr at *
  obtain ⟨P1, P2, P3, hb, hz⟩ := B
  have l1 : w.heap.size < wr.heap.size ∧ w.heap.size + 1 < wr.heap.size ∧ w.heap.size + 1 + 1 < wr.heap.size := by omega
  obtain ⟨a1, a2⟩ := P1
  obtain ⟨b1, b2⟩ := P2
  obtain ⟨c1, c2⟩ := P3
  have HB := Lib.hid hb
  clear hb hz l1
  go_wp2_with fail
  · have g : (py < ay ↔ py < by') := by assumption
    go_ret
    refine ⟨ret_bool ?_, HB.out⟩
    rw [H.out]; simp [g]
  · have g : ¬(py < ay ↔ py < by') := by assumption
    refine ((C0 _).out).mono ?_
    rintro e w1 ⟨rfl, hb1⟩
    have hbw1 := HB.out.trans (hb1.mono HB.out.size)
    go_wp2
    all_goals
      go_ret
      refine ⟨ret_bool ?_, hbw1⟩
      rw [H.out]
      rfl

def on2At (l : List Pt) (p : Pt) (i : Nat) : Bool := onP (gt l i) (nx l i) p
def left2At (l : List Pt) (p : Pt) (i : Nat) : Bool := leftB p.1 p.2 (gt l i).1 (gt l i).2 (nx l i).1 (nx l i).2
def sideTo (l : List Pt) (p : Pt) : Nat → Int
  | 0 => -1
  | k + 1 => if left2At l p k then - sideTo l p k else sideTo l p k
def whereD (l : List Pt) (p : Pt) : Int := if (List.range l.length).any (on2At l p) then 0 else sideTo l p l.length
theorem sideTo_bd (l : List Pt) (p : Pt) : ∀ k, sideTo l p k = 1 ∨ sideTo l p k = -1
  | 0 => .inr rfl
  | k + 1 => by
    unfold sideTo
    rcases sideTo_bd l p k with h | h <;> rw [h] <;> split <;> simp
theorem whereD_on {l : List Pt} {p : Pt} {k : Nat} (hk : k < l.length) (h : on2At l p k = true) : whereD l p = 0 := by
  unfold whereD
  rw [if_pos (List.any_eq_true.2 ⟨k, List.mem_range.2 hk, h⟩)]
theorem whereD_off {l : List Pt} {p : Pt} (h : ∀ j, j < l.length → on2At l p j = false) : whereD l p = sideTo l p l.length := by
  unfold whereD
  rw [if_neg]
  rw [List.any_eq_true]
  rintro ⟨k, hk, e⟩
  rw [h k (List.mem_range.1 hk)] at e
  cases e

set_option maxRecDepth 100000 in
set_option maxHeartbeats 2000000 in
theorem where_any (b off n c : Nat) (l : List Pt) (p : Pt) (w : World) (hl : l.length = n) (hn : 0 < n) (hn' : n ≤ 100) (h : PtsIn w b off l) (hb : b < w.heap.size) (hbd : ∀ i, Bd (gt l i)) (hp : Bd p) :
    Calls Try.prog 21 #[.slice (some ⟨b, off, none⟩) n c, .agg #[.int .i64 p.1, .int .i64 p.2]] w fun e w' =>
      e = .returned (.int .i64 (whereD l p)) ∧ Below w.heap.size w w' := by
  have HL := Lib.hid hl
  have HP := Lib.hid h
  have HBD := Lib.hid hbd
  have HON : Hid (∀ i, on2At l p i = onB (gt l i).1 (gt l i).2 (nx l i).1 (nx l i).2 p.1 p.2) := Lib.hid fun _ => rfl
  have HLF : Hid (∀ i, left2At l p i = leftB p.1 p.2 (gt l i).1 (gt l i).2 (nx l i).1 (nx l i).2) := Lib.hid fun _ => rfl
  obtain ⟨px, py⟩ := p
  obtain ⟨hp1, hp2⟩ := hp
  clear hl h hbd
  go_enter Try.func21, Try.ntmps21
  go_wp2_with fail
  have B : PtAt (w.alloc (bx px py)) w.heap.size px py := PtAt.new
  have hb0 : Below w.heap.size w (w.alloc (bx px py)) := (Below.refl _ _).alloc (Nat.le_refl _) _
  have hz0 : w.heap.size < (w.alloc (bx px py)).heap.size := by simp
  generalize w.alloc (bx px py) = w0 at *
  generalize hgg : w.heap.size = gg at *
  go_wp2_with fail
  go_loopw [5, 11] (fun s i wr => ∃ k : Nat, k ≤ n ∧ i = .int .i64 k ∧ s = .int .i64 (sideTo l (px, py) k) ∧ (∀ j, j < k → on2At l (px, py) j = false) ∧ Below w0.heap.size w0 wr) (fun _ i _ => n - (intOf i).toNat)
  case atStart => exact ⟨0, Nat.zero_le _, rfl, rfl, by omega, Below.refl _ _⟩
  case round =>
    obtain ⟨k, hk, rfl, rfl, hz, hbr⟩ := hrel
    have HZ := Lib.hid hz
    have hb1 : b < w0.heap.size := Nat.lt_of_lt_of_le hb (hgg ▸ hb0.size)
    have hgr : gg < wr.heap.size := Nat.lt_of_lt_of_le hz0 hbr.size
    have HBW : Hid (Below gg w wr) := Lib.hid (hb0.trans (hbr.mono (hgg ▸ hb0.size)))
    have P0 := PtAt.below hbr hz0 B
    have hbb : b < gg := hgg ▸ hb
    clear hz
    by_cases hlt : k < n
    · have HPw : Hid (PtsIn wr b off l) := Lib.hid (HP.out.below HBW.out hbb)
      have hB : b < wr.heap.size := Nat.lt_of_lt_of_le hb1 hbr.size
      have N := fun W hW => Lib.hid (edge_any b off n c l k W HL.out (by omega) (by omega) (by omega) (HPw.out.below (B := wr.heap.size) hW hB))
      rw [Nat.mod_eq_of_lt hlt] at N
      have d1 := HBD.out k
      have d2 := HBD.out ((k + 1) % l.length)
      rw [← nx_gt] at d2
      have EO := Lib.hid (HON.out k)
      have EL := Lib.hid (HLF.out k)
      have ES : Hid (sideTo l (px, py) (k + 1) = if left2At l (px, py) k then - sideTo l (px, py) k else sideTo l (px, py) k) := Lib.hid rfl
      have sb := sideTo_bd l (px, py) k
      generalize gt l k = p1 at *
      generalize nx l k = p2 at *
      generalize sideTo l (px, py) k = sd at *
      obtain ⟨x, y⟩ := p1
      obtain ⟨qx, qy⟩ := p2
      obtain ⟨d3, d4⟩ := d1
      obtain ⟨d5, d6⟩ := d2
      have TO := fun W => Lib.hid (isOn_any px py x y qx qy W hp1 hp2 d3 d4 d5 d6)
      have TL := fun W => Lib.hid (isLeft_any px py x y qx qy W hp1 hp2 d3 d4 d5 d6)
      clear d3 d4 d5 d6 hp1 hp2
      go_wp2_with fail
      refine ((N _ (Below.refl _ _)).out).mono ?_
      rintro e w1 ⟨rfl, hb1⟩
      go_upto_region 6 with (fail)
      have B2 := boxed2 w1 x y qx qy
      generalize (w1.alloc (Go.Proofs.Ytffjonpajjioaaa.bx x y)).alloc (Go.Proofs.Ytffjonpajjioaaa.bx qx qy) = w2 at *
      obtain ⟨P1, P2, hb2, hz2⟩ := B2
      have hbr2 := hb1.trans (hb2.mono hb1.size)
      have hg0 : gg < w2.heap.size := Nat.lt_of_lt_of_le hgr hbr2.size
      replace P0 := PtAt.below hbr2 hgr P0
      generalize w1.heap.size = g at *
      have hg2 : g + 1 < w2.heap.size := by omega
      clear hb2 hz2 N hb1
      obtain ⟨p1, p2⟩ := P0
      obtain ⟨p3, p4⟩ := P1
      obtain ⟨p5, p6⟩ := P2
      go_wp2_with fail
      refine ((TO _).out).mono ?_
      rintro e w3 ⟨rfl, hb3⟩
      obtain ⟨p1, p2⟩ := PtAt.below hb3 hg0 ⟨p1, p2⟩
      obtain ⟨p3, p4⟩ := PtAt.below hb3 (by omega) ⟨p3, p4⟩
      obtain ⟨p5, p6⟩ := PtAt.below hb3 hg2 ⟨p5, p6⟩
      have hbr3 := hbr2.trans (hb3.mono hbr2.size)
      have HBR3 := Lib.hid (hbr.trans (hbr3.mono hbr.size))
      clear hb3 hbr2 TO hg0 hg2
      cases ho : onB x y qx qy px py
      · have HOF : Hid (on2At l (px, py) k = false) := Lib.hid (EO.out.trans ho)
        go_wp2_with fail
        refine ((TL _).out).mono ?_
        rintro e w4 ⟨rfl, hb4⟩
        have HBR4 := Lib.hid (HBR3.out.trans (hb4.mono HBR3.out.size))
        have HZ1 : Hid (∀ j, j < k + 1 → on2At l (px, py) j = false) := Lib.hid fun j hj => by
          rcases Nat.lt_or_eq_of_le (Nat.le_of_lt_succ hj) with h' | h'
          · exact HZ.out j h'
          · rw [h']; exact HOF.out
        clear hb4 hbr3 TL p1 p2 p3 p4 p5 p6
        cases hf : leftB px py x y qx qy
        · go_wp2_with fail
          go_roundw
          case rel => exact ⟨k + 1, by omega, by go_num, by rw [ES.out, EL.out]; show _ = Value.int .i64 (if leftB px py x y qx qy then _ else _); rw [hf]; rfl, HZ1.out, HBR4.out⟩
          case measure => simp [intOf]; omega
        · go_wp2_with fail
          go_roundw
          case rel => exact ⟨k + 1, by omega, by go_num, by rw [ES.out, EL.out]; show _ = Value.int .i64 (if leftB px py x y qx qy then _ else _); rw [hf]; rfl, HZ1.out, HBR4.out⟩
          case measure => simp [intOf]; omega
      · have HOT : Hid (whereD l (px, py) = 0) := Lib.hid (whereD_on (k := k) (by rw [HL.out]; exact hlt) (EO.out.trans ho))
        go_wp2_with fail
        go_ret
        exact ⟨ret_int HOT.out.symm, by rw [hgg]; exact HBW.out.trans (hbr3.mono (hgg ▸ HBW.out.size))⟩
    · obtain rfl : k = n := by omega
      have HF : Hid (whereD l (px, py) = sideTo l (px, py) k) := Lib.hid (by
        rw [whereD_off (fun j hj => HZ.out j (by rw [HL.out] at hj; exact hj)), HL.out])
      generalize sideTo l (px, py) k = sd at *
      go_wp2_with fail
      go_ret
      exact ⟨ret_int HF.out.symm, by rw [hgg]; exact HBW.out⟩
end Go.Proofs.Ytffjonpajjioaaa

/- A row of points that a function makes: its cells; points that are moved. -/
namespace Go.Proofs.Ytffjonpajjioaaa
open Go.RowKit Go.Sort
attribute [local go_sem ↓] run_min_mn run_max_mx

/-- A block that holds a list of points, and nothing else. -/
def PtBlk (w : World) (g : Nat) (l : List Pt) : Prop := w.heap[g]? = some (.cells (ptsV l).toArray 27 (0, 0))
section
variable {w w' : World} {g : Nat} {l : List Pt}
theorem PtBlk.lt (h : PtBlk w g l) : g < w.heap.size := (Array.getElem?_eq_some_iff.1 h).1
theorem PtBlk.same (h : PtBlk w g l) (e : w'.heap[g]? = w.heap[g]?) : PtBlk w' g l := e.trans h
theorem PtBlk.cells (h : PtBlk w g l) (j : Nat) : w.cell? ⟨g, j, none⟩ = (ptsV l)[j]? := by
  rw [cell_of_row w g j _ 27 (0, 0) h]; simp
theorem PtBlk.cell (h : PtBlk w g l) {i : Nat} {p : Pt} (hp : l[i]? = some p) : w.cell? ⟨g, i * 2, none⟩ = some (.int .i64 p.1) ∧ w.cell? ⟨g, i * 2 + 1, none⟩ = some (.int .i64 p.2) := by
  obtain ⟨h1, h2⟩ := ptsV_get l i p hp
  exact ⟨(h.cells _).trans h1, (h.cells _).trans h2⟩
theorem PtBlk.frozen (h : PtBlk w g l) (i : Nat) : w.frozen? ⟨g, i, none⟩ = false := by simp [World.frozen?, show w.heap[g]? = _ from h]
theorem PtBlk.pts (h : PtBlk w g l) : PtsIn w g 0 l := fun i p hp => by
  obtain ⟨h1, h2⟩ := h.cell hp
  exact ⟨by rw [Nat.zero_add]; exact h1, by rw [Nat.zero_add]; exact h2⟩
theorem PtBlk.below {B : Nat} (h : PtBlk w g l) (hb : Below B w w') (hg : g < B) : PtBlk w' g l := h.same (hb.block g hg)
theorem PtBlk.alloc (h : PtBlk w g l) (o : Obj) : PtBlk (w.alloc o) g l := h.same (Below.heap_alloc w o g h.lt)
theorem ptsV_set : ∀ (l : List Pt) (i : Nat) (x y : Int), ((ptsV l).set (i * 2) (.int .i64 x)).set (i * 2 + 1) (.int .i64 y) = ptsV (l.set i (x, y))
  | [], _, _, _ => rfl
  | p :: l, 0, x, y => rfl
  | p :: l, i + 1, x, y => by
    have e : (i + 1) * 2 = i * 2 + 1 + 1 := by omega
    rw [e]
    simp only [ptsV, List.set_cons_succ, ptsV_set l i x y]
theorem PtBlk.set (h : PtBlk w g l) (i : Nat) (x y : Int) : PtBlk ((w.setCell ⟨g, i * 2, none⟩ (.int .i64 x)).setCell ⟨g, i * 2 + 1, none⟩ (.int .i64 y)) g (l.set i (x, y)) := by
  have e : w.heap[g]? = _ := h
  unfold PtBlk
  rw [← ptsV_set]
  simp [World.setCell, Array.getElem?_modify, e]
theorem PtBlk.far (h : PtBlk w g l) {p : Addr} (hp : g ≠ p.block) (u : Value) : PtBlk (w.setCell p u) g l := h.same (Below.heap_setCell w p u g hp)
end

/-- Points that a function gives. -/
def ptF (n : Nat) (f : Nat → Pt) : List Pt := (List.range n).map f
theorem ptF_length (n : Nat) (f : Nat → Pt) : (ptF n f).length = n := by simp [ptF]
theorem ptF_set (n : Nat) (f : Nat → Pt) (t : Nat) (v : Pt) : (ptF n f).set t v = ptF n (fun u => if u = t then v else f u) := by
  apply List.ext_getElem
  · simp [ptF]
  · intro i h1 h2
    rw [List.getElem_set]
    simp only [ptF, List.getElem_map, List.getElem_range]
    by_cases e : t = i
    · subst e; simp
    · rw [if_neg e, if_neg (fun h => e h.symm)]
theorem ptF_congr {n : Nat} {f g : Nat → Pt} (h : ∀ i, i < n → f i = g i) : ptF n f = ptF n g := List.map_congr_left fun i hi => h i (List.mem_range.1 hi)
theorem ptF_get {n : Nat} {f : Nat → Pt} {i : Nat} (h : i < n) : (ptF n f)[i]? = some (f i) := by simp [ptF, h]

theorem made_pts (m : Nat) : madeCells #[Value.int .i64 0, Value.int .i64 0] (m * 2) = (ptsV (ptF m fun _ => (0, 0))).toArray := by
  apply Array.ext'
  rw [List.toList_toArray]
  have e : ptsV (ptF m fun _ => (0, 0)) = List.replicate (m * 2) (Value.int .i64 0) := by
    induction m with
    | zero => rfl
    | succ m ih =>
      have : ptF (m + 1) (fun _ => ((0, 0) : Pt)) = ptF m (fun _ => (0, 0)) ++ [(0, 0)] := by simp [ptF, List.range_succ]
      rw [this, ptsV_append, ih, show (m + 1) * 2 = m * 2 + 1 + 1 by omega, List.replicate_succ', List.replicate_succ']
      simp [ptsV]
  rw [e]
  apply List.ext_getElem
  · simp [madeCells]
  · intro i h1 h2
    simp only [madeCells, Array.toList_map, Array.toList_range, List.getElem_map, List.getElem_range, List.getElem_replicate]
    have : i % (#[Value.int .i64 0, Value.int .i64 0] : Array Value).size < 2 := Nat.mod_lt _ (by decide)
    generalize i % (#[Value.int .i64 0, Value.int .i64 0] : Array Value).size = r at this
    match r, this with
    | 0, _ => rfl
    | 1, _ => rfl

/-- make([]api.Point, n). -/
theorem make_pts (m : Nat) (hm : m ≤ 1000001) (W : World) : (Instr.makeSlice 24 (.int .i64 (m : Int)) (.int .i64 (m : Int))).run Try.prog W =
    .ok (.slice (some ⟨W.heap.size, 0, none⟩) m m) (W.alloc (.cells (ptsV (ptF m fun _ => (0, 0))).toArray 27)) := by
  obtain ⟨i0, hi0, hz0, hz1, hz2⟩ := info_pparts info_pt
  have h := run_makeSlice (P := Try.prog) W 24 27 i0 _ Try.underlying24 hi0 hz0 .i64 .i64 (m : Int) (m : Int) (by omega) (Int.le_refl _) (by rw [hz1]; omega) (by rw [hz2]; omega) (by omega)
  rw [h, hz1, Int.toNat_natCast]
  rw [show (Value.agg #[Value.int .i64 0, Value.int .i64 0]).cells = #[Value.int .i64 0, Value.int .i64 0] from rfl, made_pts]

def addP (p q : Pt) : Pt := (p.1 + q.1, p.2 + q.2)
def movedL (l : List Pt) (v : Pt) : List Pt := l.map fun p => addP p v
theorem movedL_length (l : List Pt) (v : Pt) : (movedL l v).length = l.length := by simp [movedL]
theorem movedL_F (l : List Pt) (v : Pt) : movedL l v = ptF l.length fun i => addP (gt l i) v := by
  apply List.ext_getElem
  · simp [movedL, ptF]
  · intro i h1 h2
    have : i < l.length := by simpa [movedL] using h1
    simp [movedL, ptF, gt, List.getD, this]

theorem plus_any (ax ay bx by' : Int) (w : World) (h1 : -200000 ≤ ax ∧ ax ≤ 200000) (h2 : -200000 ≤ ay ∧ ay ≤ 200000) (h3 : -200000 ≤ bx ∧ bx ≤ 200000) (h4 : -200000 ≤ by' ∧ by' ≤ 200000) :
    Calls Try.prog 34 #[.agg #[.int .i64 ax, .int .i64 ay], .agg #[.int .i64 bx, .int .i64 by']] w fun e w' =>
      e = .returned (.agg #[.int .i64 (ax + bx), .int .i64 (ay + by')]) ∧ Below w.heap.size w w' := by
  go_enter Try.func34, Try.ntmps34
  go_wp2
  go_returns
  exact ⟨rfl, by go_grown⟩

def MovedTo (l : List Pt) (w : World) (n : Nat) (e : Ending) (w' : World) : Prop :=
  ∃ g : Nat, e = .returned (.slice (some ⟨g, 0, none⟩) n n) ∧ w.heap.size ≤ g ∧ PtBlk w' g l ∧ Below w.heap.size w w'

set_option maxRecDepth 100000 in
set_option maxHeartbeats 2000000 in
theorem moved_any (b off n c : Nat) (l : List Pt) (v : Pt) (w : World) (hl : l.length = n) (hn' : n ≤ 100) (h : PtsIn w b off l) (hb : b < w.heap.size) (hbd : ∀ i, Bd (gt l i)) (hv : Bd v) :
    Calls Try.prog 23 #[.slice (some ⟨b, off, none⟩) n c, .agg #[.int .i64 v.1, .int .i64 v.2]] w (MovedTo (movedL l v) w n) := by
  have HL := Lib.hid hl
  have HP := Lib.hid h
  have HBD := Lib.hid hbd
  have hmk := make_pts n (by omega)
  have HM : Hid (movedL l v = ptF n fun i => addP (gt l i) v) := Lib.hid (by rw [← hl]; exact movedL_F l v)
  obtain ⟨vx, vy⟩ := v
  obtain ⟨hv1, hv2⟩ := hv
  clear hl h hbd
  go_enter Try.func23, Try.ntmps23
  go_upto_region 1 with (fail)
  have B : PtAt (w.alloc (bx vx vy)) w.heap.size vx vy := PtAt.new
  have hb0 : Below w.heap.size w (w.alloc (bx vx vy)) := (Below.refl _ _).alloc (Nat.le_refl _) _
  have hz0 : (w.alloc (bx vx vy)).heap.size = w.heap.size + 1 := by simp
  generalize w.alloc (bx vx vy) = w0 at *
  generalize hgg : w.heap.size = gg at *
  go_wp2_with fail
  have R0 : PtBlk (w0.alloc (.cells (ptsV (ptF n fun _ => (0, 0))).toArray 27)) w0.heap.size (ptF n fun _ => (0, 0)) := heap_alloc_new _ _
  have hb1 : Below w0.heap.size w0 (w0.alloc (.cells (ptsV (ptF n fun _ => (0, 0))).toArray 27)) := (Below.refl _ _).alloc (Nat.le_refl _) _
  have hz1 : (w0.alloc (.cells (ptsV (ptF n fun _ => (0, 0))).toArray 27)).heap.size = gg + 2 := by simp; omega
  generalize w0.alloc (.cells (ptsV (ptF n fun _ => (0, 0))).toArray 27) = w1 at *
  rw [hz0] at R0 hb1
  have hb2 : Below gg w w1 := hb0.trans (hb1.mono (by omega))
  have B1 : PtAt w1 gg vx vy := PtAt.below hb1 (by omega) B
  clear hb0 hb1 B hmk
  go_loopw [13] (fun i wr => ∃ k : Nat, k ≤ n ∧ i = .int .i64 k ∧ PtBlk wr (gg + 1) (ptF n fun u => if u < k then addP (gt l u) (vx, vy) else (0, 0)) ∧ PtAt wr gg vx vy ∧ Below gg w wr ∧ gg + 2 ≤ wr.heap.size) (fun i _ => n - (intOf i).toNat)
  case atStart => exact ⟨0, Nat.zero_le _, rfl, by simpa using R0, B1, hb2, by omega⟩
  case round =>
    clear R0 B1 hb2
    obtain ⟨k, hk, rfl, hR, ⟨p1, p2⟩, hbw, hgr⟩ := hrel
    have HR := Lib.hid hR
    clear hR
    by_cases hlt : k < n
    · obtain ⟨h1, h2⟩ := (HP.out.below hbw hb) k (gt l k) (by unfold gt; rw [List.getD_eq_getElem?_getD, List.getElem?_eq_getElem (by rw [HL.out]; exact hlt)]; rfl)
      have hB : b < wr.heap.size := by omega
      have hg1 : gg < wr.heap.size := by omega
      have hg2 : gg + 1 < wr.heap.size := by omega
      obtain ⟨d1, d2⟩ := HBD.out k
      have HN : Hid (∀ W, PtBlk W (gg + 1) ((ptF n fun u => if u < k then addP (gt l u) (vx, vy) else (0, 0)).set k (addP (gt l k) (vx, vy))) → PtBlk W (gg + 1) (ptF n fun u => if u < k + 1 then addP (gt l u) (vx, vy) else (0, 0))) := Lib.hid fun W hW => by
        rw [ptF_set] at hW
        rw [ptF_congr (g := fun u => if u = k then addP (gt l k) (vx, vy) else if u < k then addP (gt l u) (vx, vy) else (0, 0))]
        · exact hW
        · intro i hi
          by_cases e : i = k
          · subst e; simp
          · rw [if_neg e]
            by_cases e2 : i < k
            · rw [if_pos e2, if_pos (by omega)]
            · rw [if_neg e2, if_neg (by omega)]
      generalize hp : gt l k = p at *
      obtain ⟨x, y⟩ := p
      have PL := fun W => Lib.hid (plus_any x y vx vy W (by simp only at d1; omega) (by simp only at d2; omega) (by omega) (by omega))
      clear hp d1 d2
      go_wp2_with fail
      have hb1 : Below wr.heap.size wr (wr.alloc (bx x y)) := (Below.refl _ _).alloc (Nat.le_refl _) _
      refine ((PL _).out).mono ?_
      rintro e w2 ⟨rfl, hb2⟩
      have hb3 := hb1.trans (hb2.mono hb1.size)
      have hbw3 := hbw.trans (hb3.mono (by omega))
      have R2 := HR.out.below hb3 (by omega)
      obtain ⟨p1, p2⟩ := PtAt.below hb3 (by omega) ⟨p1, p2⟩
      obtain ⟨c1, c2⟩ := R2.cell (i := k) (ptF_get hlt)
      have f1 := R2.frozen (k * 2)
      have f2 := R2.frozen (k * 2 + 1)
      have hsz := hb3.size
      have HR2 := Lib.hid R2
      clear hb1 hb2 R2
      go_wp2_with fail
      go_roundw
      case rel => exact ⟨k + 1, by omega, by go_num, HN.out _ (HR2.out.set k _ _), PtAt.set_far (by simp) (PtAt.set_far (by simp) ⟨p1, p2⟩), (hbw3.setCell (by simp) _).setCell (by simp) _, by simp; omega⟩
      case measure => simp [intOf]; omega
    · obtain rfl : k = n := by omega
      have HF : Hid (PtBlk wr (gg + 1) (movedL l (vx, vy))) := Lib.hid (by
        rw [HM.out]
        have := HR.out
        rw [ptF_congr (g := fun i => addP (gt l i) (vx, vy)) (fun i hi => by rw [if_pos hi])] at this
        exact this)
      go_wp2_with fail
      go_ret
      exact ⟨gg + 1, rfl, by omega, HF.out, by rw [hgg]; exact hbw⟩
end Go.Proofs.Ytffjonpajjioaaa

/- Where is a point? The reference's function, and that package shape's finds the same. -/
namespace Go.Proofs.Ytffjonpajjioaaa
open Go.RowKit Go.Sort
attribute [local go_sem ↓] run_min_mn run_max_mx Go.wp_at_zero Go.wp_at_succ

def upI (py ay by' c : Int) : Int := if by' < ay then -c else c
def rayB (px py ax ay bx by' : Int) : Bool := (decide (py < ay) != decide (py < by')) && decide (0 < upI py ay by' (cross ax ay bx by' px py))
def ray2At (l : List Pt) (p : Pt) (i : Nat) : Bool := rayB p.1 p.2 (gt l i).1 (gt l i).2 (nx l i).1 (nx l i).2
def insTo (l : List Pt) (p : Pt) : Nat → Bool
  | 0 => false
  | k + 1 => if ray2At l p k then !insTo l p k else insTo l p k
def whereR (l : List Pt) (p : Pt) : Int := if (List.range l.length).any (on2At l p) then 0 else if insTo l p l.length then 1 else -1

theorem left_ray {px py ax ay bx by' : Int} (h : onB ax ay bx by' px py = false) : leftB px py ax ay bx by' = rayB px py ax ay bx by' := by
  have key : cross ax ay bx by' px py = 0 → ¬ ((ay ≤ py ∧ py < by') ∨ (by' ≤ py ∧ py < ay)) := by
    intro h0 hb
    have hne : by' - ay ≠ 0 := by omega
    have hc : (by' - ay) * (px - ax) = (py - ay) * (bx - ax) := by unfold cross at h0; grind
    have hbt : btw (py - ay) (by' - ay) := by unfold btw; omega
    have := btw_dim hne hc hbt
    have ho : onB ax ay bx by' px py = true := by
      have k := (on_iff ax ay (bx - ax) (by' - ay) (px - ax) (py - ay)).2 ⟨by unfold al; unfold cross at h0; grind, this, hbt⟩
      rw [show ax + (bx - ax) = bx by omega, show ay + (by' - ay) = by' by omega, show ax + (px - ax) = px by omega, show ay + (py - ay) = py by omega] at k
      exact k
    rw [h] at ho; cases ho
  rw [Bool.eq_iff_iff]
  unfold leftB rayB upI
  generalize cross ax ay bx by' px py = c at *
  simp only [Bool.and_eq_true, bne_iff_ne, ne_eq, decide_eq_true_eq, decide_eq_decide, beq_iff_eq]
  by_cases g1 : py < ay <;> by_cases g2 : py < by'
  · simp [g1, g2]
  · have := key; split <;> (by_cases hc : c = 0) <;> omega
  · have := key; split <;> (by_cases hc : c = 0) <;> omega
  · simp [g1, g2]

theorem where_same (l : List Pt) (p : Pt) : whereD l p = whereR l p := by
  unfold whereD whereR
  by_cases h : (List.range l.length).any (on2At l p) = true
  · rw [if_pos h, if_pos h]
  · rw [if_neg h, if_neg h]
    have hoff : ∀ j, j < l.length → on2At l p j = false := fun j hj => by
      cases e : on2At l p j
      · rfl
      · exact absurd (List.any_eq_true.2 ⟨j, List.mem_range.2 hj, e⟩) h
    have : ∀ k, k ≤ l.length → sideTo l p k = if insTo l p k then 1 else -1 := by
      intro k
      induction k with
      | zero => intro _; rfl
      | succ k ih =>
        intro hk
        have e : left2At l p k = ray2At l p k := left_ray (hoff k (by omega))
        unfold sideTo insTo
        rw [e, ih (by omega)]
        cases ray2At l p k <;> cases insTo l p k <;> rfl
    exact this _ (Nat.le_refl _)

end Go.Proofs.Ytffjonpajjioaaa

/- Package shape's Where, and the law's own 'simple'. -/
namespace Go.Proofs.Ytffjonpajjioaaa
open Go.RowKit Go.Sort
attribute [local go_sem ↓] run_min_mn run_max_mx

def simpE (l : List Pt) : Int := if polyB l then (if simpleB l then 0 else 2) else 1

theorem checkSimple_any (A : Option Addr) (n c : Nat) (l : List Pt) (w : World) (hn : l.length = n) (hbig : n ≤ 1000000) (hx : PtsAt w A l) :
    Calls Try.prog 19 #[.slice A n c] w fun e w' => e = .returned (.int .i64 (simpE l)) ∧ Below w.heap.size w w' := by
  have K := Lib.hid (isPolygon_any A n c l w hn hbig hx)
  cases hp : polyB l
  · have e1 : simpE l = 1 := by unfold simpE; rw [hp]; rfl
    rw [e1]
    rw [hp] at K
    clear hn hx
    go_enter Try.func19, Try.ntmps19
    go_wp2_with fail
    refine (K.out).mono ?_
    rintro e w' ⟨rfl, hb⟩
    go_wp2
    go_ret
    exact ⟨rfl, hb⟩
  · have e1 : simpE l = if simpleB l then 0 else 2 := by unfold simpE; rw [hp]; rfl
    have E1 := Lib.hid e1
    rw [hp] at K
    obtain ⟨b, off, rfl, h1, h2, h3, h4, h5⟩ := hx.poly hn hp
    have S := fun W hW => Lib.hid (isSimple_any b off n c l W hn (by omega) (by omega) (h4.below (B := w.heap.size) hW h3) (Nat.lt_of_lt_of_le h3 hW.size) h5)
    rw [simple_same] at S
    clear hn hx h4 h5 e1
    generalize simpE l = r at *
    cases hs : simpleB l
    all_goals
      have E2 := Lib.hid (E1.out.trans (by rw [hs]))
      rw [hs] at S
      go_enter Try.func19, Try.ntmps19
      go_wp2_with fail
      refine (K.out).mono ?_
      rintro e w1 ⟨rfl, hb⟩
      go_wp2_with fail
      refine ((S _ hb).out).mono ?_
      rintro e w2 ⟨rfl, hb2⟩
      go_wp2
      go_ret
      exact ⟨ret_int E2.out.symm, hb.trans (hb2.mono hb.size)⟩

theorem simpE_cases (l : List Pt) : (simpE l = 1 ∧ polyB l = false) ∨ (simpE l = 2 ∧ polyB l = true ∧ simpleB l = false) ∨ (simpE l = 0 ∧ polyB l = true ∧ simpleB l = true) := by
  unfold simpE
  cases polyB l <;> cases simpleB l <;> simp

theorem simpE_zero {l : List Pt} (h0 : simpE l = 0) : polyB l = true ∧ simpleB l = true := by
  rcases simpE_cases l with h | h | h
  · rw [h.1] at h0; cases h0
  · rw [h.1] at h0; cases h0
  · exact h.2

def whereX (l : List Pt) (p : Pt) : Int := if simpE l = 0 ∧ validB p.1 p.2 10000 = true then whereR l p else 0
def whereE (l : List Pt) (p : Pt) : Int := if simpE l = 0 then (if validB p.1 p.2 10000 then 0 else 1) else simpE l

theorem valid_Bd {p : Pt} (h : validB p.1 p.2 10000 = true) : Bd p := Bd.of_ok (p := p) h

set_option maxHeartbeats 1000000 in
theorem whereX_any (A : Option Addr) (n c : Nat) (l : List Pt) (p : Pt) (w : World) (hn : l.length = n) (hbig : n ≤ 1000000) (hx : PtsAt w A l) :
    Calls Try.prog 9 #[.slice A n c, .agg #[.int .i64 p.1, .int .i64 p.2]] w fun e w' => e = .returned (.tuple #[.int .i64 (whereX l p), .int .i64 (whereE l p)]) ∧ Below w.heap.size w w' := by
  have hb0 : Below w.heap.size w (w.alloc (bx p.1 p.2)) := (Below.refl _ _).alloc (Nat.le_refl _) _
  have K := fun W hW => Lib.hid (checkSimple_any A n c l W hn hbig (hx.below (w' := W) hW))
  have V := fun W => Lib.hid (isNear_any p.1 p.2 10000 (by omega) W)
  have hW0 : w.heap.size < (w.alloc (bx p.1 p.2)).heap.size := by simp
  have P0 : PtAt (w.alloc (bx p.1 p.2)) w.heap.size p.1 p.2 := PtAt.new
  by_cases h0 : simpE l = 0
  · obtain ⟨hp, hs⟩ : polyB l = true ∧ simpleB l = true := simpE_zero h0
    obtain ⟨b, off, rfl, h1, h2, h3, h4, h5⟩ := hx.poly hn hp
    cases hv : validB p.1 p.2 10000
    · have e1 : whereX l p = 0 := by unfold whereX; rw [if_neg (by rw [hv]; simp)]
      have e2 : whereE l p = 1 := by unfold whereE; rw [if_pos h0, hv]; rfl
      rw [e1, e2]
      rw [h0] at K
      rw [hv] at V
      clear hn hx h4 h5 e1 e2 h0 hp hs hv
      go_enter Try.func9, Try.ntmps9
      go_upto_region 1 with (fail)
      generalize w.alloc (bx p.1 p.2) = w0 at *
      obtain ⟨p1, p2⟩ := P0
      go_wp2_with fail
      refine ((K _ hb0).out).mono ?_
      rintro e w1 ⟨rfl, hb1⟩
      obtain ⟨p1, p2⟩ := PtAt.below hb1 hW0 ⟨p1, p2⟩
      have hbw1 := hb0.trans (hb1.mono hb0.size)
      clear hb1
      go_wp2_with fail
      refine ((V _).out).mono ?_
      rintro e w2 ⟨rfl, hb2⟩
      have hbw2 := hbw1.trans (hb2.mono hbw1.size)
      go_wp2
      go_ret2
      exact ⟨rfl, hbw2⟩
    · have e1 : whereX l p = whereD l p := by unfold whereX; rw [if_pos ⟨h0, hv⟩, where_same]
      have e2 : whereE l p = 0 := by unfold whereE; rw [if_pos h0, hv]; rfl
      rw [e1, e2]
      rw [h0] at K
      rw [hv] at V
      have S := fun W hW => Lib.hid (where_any b off n c l p W hn (by omega) (by omega) (h4.below (B := w.heap.size) hW h3) (Nat.lt_of_lt_of_le h3 hW.size) (Bd.all h5) (valid_Bd hv))
      clear hn hx h4 h5 e1 e2 h0 hp hs hv
      generalize whereD l p = r at *
      go_enter Try.func9, Try.ntmps9
      go_upto_region 1 with (fail)
      generalize w.alloc (bx p.1 p.2) = w0 at *
      obtain ⟨p1, p2⟩ := P0
      go_wp2_with fail
      refine ((K _ hb0).out).mono ?_
      rintro e w1 ⟨rfl, hb1⟩
      obtain ⟨p1, p2⟩ := PtAt.below hb1 hW0 ⟨p1, p2⟩
      have hbw1 := hb0.trans (hb1.mono hb0.size)
      have hW1 : w.heap.size < w1.heap.size := Nat.lt_of_lt_of_le hW0 hb1.size
      clear hb1
      go_wp2_with fail
      refine ((V _).out).mono ?_
      rintro e w2 ⟨rfl, hb2⟩
      obtain ⟨p1, p2⟩ := PtAt.below hb2 hW1 ⟨p1, p2⟩
      have hbw2 := hbw1.trans (hb2.mono hbw1.size)
      clear hb2
      go_wp2_with fail
      refine ((S _ hbw2).out).mono ?_
      rintro e w3 ⟨rfl, hb3⟩
      have hbw3 := hbw2.trans (hb3.mono hbw2.size)
      go_wp2
      go_ret2
      exact ⟨rfl, hbw3⟩
  · have e1 : whereX l p = 0 := by unfold whereX; rw [if_neg (by rintro ⟨h, _⟩; exact h0 h)]
    have e2 : whereE l p = simpE l := by unfold whereE; rw [if_neg h0]
    rw [e1, e2]
    clear hn hx e1 e2 V
    generalize simpE l = r at *
    go_enter Try.func9, Try.ntmps9
    go_upto_region 1 with (fail)
    generalize w.alloc (bx p.1 p.2) = w0 at *
    go_wp2_with fail
    refine ((K _ hb0).out).mono ?_
    rintro e w1 ⟨rfl, hb1⟩
    have hbw1 := hb0.trans (hb1.mono hb0.size)
    clear hb1
    go_wp2
    go_ret2
    exact ⟨rfl, hbw1⟩
end Go.Proofs.Ytffjonpajjioaaa

/- Package shape's areApart: is one polygon beyond an edge of the other? And the reference's parts. -/
namespace Go.Proofs.Ytffjonpajjioaaa
open Go.RowKit Go.Sort
attribute [local go_sem ↓] run_min_mn run_max_mx Go.wp_at_zero Go.wp_at_succ

theorem leftOf_any (x y : Int) (ga gb : Nat) (ax ay bx by' : Int) (w : World) (pa : PtAt w ga ax ay) (pb : PtAt w gb bx by') (hga : ga < w.heap.size) (hgb : gb < w.heap.size)
    (h1 : -60000 ≤ ax ∧ ax ≤ 60000) (h2 : -60000 ≤ ay ∧ ay ≤ 60000) (h3 : -60000 ≤ bx ∧ bx ≤ 60000) (h4 : -60000 ≤ by' ∧ by' ≤ 60000) (h5 : -60000 ≤ x ∧ x ≤ 60000) (h6 : -60000 ≤ y ∧ y ≤ 60000) :
    Calls Try.prog 53 #[.agg #[.int .i64 x, .int .i64 y], .pointer (some ⟨ga, 0, none⟩), .pointer (some ⟨gb, 0, none⟩)] w fun e w' =>
      e = .returned (.bool (decide (0 < cross ax ay bx by' x y))) ∧ Below w.heap.size w w' := by
  have C := fun W => Lib.hid (turn_any ax ay bx by' x y W h1 h2 h3 h4 h5 h6)
  clear h1 h2 h3 h4 h5 h6
  generalize cross ax ay bx by' x y = r at *
  go_enter Try.func53, Try.ntmps53
  go_upto_region 1 with (fail)
  have B : PtAt (w.alloc (Go.Proofs.Ytffjonpajjioaaa.bx x y)) w.heap.size x y := PtAt.new
  have hb0 : Below w.heap.size w (w.alloc (Go.Proofs.Ytffjonpajjioaaa.bx x y)) := (Below.refl _ _).alloc (Nat.le_refl _) _
  obtain ⟨a1, a2⟩ := PtAt.below hb0 hga pa
  obtain ⟨b1, b2⟩ := PtAt.below hb0 hgb pb
  clear pa pb
  generalize w.alloc (Go.Proofs.Ytffjonpajjioaaa.bx x y) = w0 at *
  obtain ⟨c1, c2⟩ := B
  go_wp2_with fail
  refine ((C _).out).mono ?_
  rintro e w1 ⟨rfl, hb1⟩
  go_wp2
  go_ret
  exact ⟨rfl, hb0.trans (hb1.mono hb0.size)⟩

def leftQ (p q x : Pt) : Bool := decide (0 < crossP p q x)
def anyLeft (p q : Pt) (l : List Pt) : Bool := l.any (leftQ p q)
def FoundLeft (p q : Pt) (l : List Pt) (w : World) (e : Ending) (w' : World) : Prop := ∃ i : Int, e = .returned (.int .i64 i) ∧ decide (0 ≤ i) = anyLeft p q l ∧ Below w.heap.size w w'

set_option maxHeartbeats 800000 in
theorem indexLeft_any (A : Option Addr) (n c : Nat) (l : List Pt) (p q : Pt) (ga gb : Nat) (w : World) (hn : l.length = n) (hbig : n ≤ 1000000) (hx : PtsAt w A l) (hbd : ∀ x ∈ l, Bd x) (hp : Bd p) (hq : Bd q)
    (pa : PtAt w ga p.1 p.2) (pb : PtAt w gb q.1 q.2) (hga : ga < w.heap.size) (hgb : gb < w.heap.size) :
    Calls Try.prog 54 #[.slice A n c, .func (.func 53) #[] #[.pointer (some ⟨ga, 0, none⟩), .pointer (some ⟨gb, 0, none⟩)]] w (FoundLeft p q l w) := by
  have HN := Lib.hid hn
  have HX := Lib.hid hx
  have HBD := Lib.hid hbd
  have HPA := Lib.hid pa
  have HPB := Lib.hid pb
  clear hn hx hbd pa pb
  go_enter Try.func54, Try.ntmps54
  go_wp2
  go_loopw [8] (fun i wr => ∃ k : Nat, k ≤ n ∧ i = .int .i64 k ∧ anyLeft p q (l.take k) = false ∧ Below w.heap.size w wr) (fun i _ => n - (intOf i).toNat)
  case atStart => exact ⟨0, Nat.zero_le _, rfl, rfl, Below.refl _ _⟩
  case round =>
    obtain ⟨k, hk, rfl, hz, hbw⟩ := hrel
    have HZ := Lib.hid hz
    clear hz
    by_cases hlt : k < n
    · have hl : k < l.length := by have := HN.out; omega
      obtain ⟨b, off, rfl, hbl, hpts⟩ := HX.out (by intro e; subst e; simp at hl)
      obtain ⟨h1, h2⟩ := (hpts.below hbw hbl) k _ (List.getElem?_eq_getElem hl)
      have hs : anyLeft p q (l.take (k + 1)) = leftQ p q l[k] := by
        rw [List.take_succ_eq_append_getElem hl]
        unfold anyLeft at *
        rw [List.any_append, HZ.out]; simp
      have hall : leftQ p q l[k] = true → anyLeft p q l = true := fun h => by
        unfold anyLeft
        exact List.any_eq_true.2 ⟨_, List.getElem_mem hl, h⟩
      have HS := Lib.hid hs
      have HA := Lib.hid hall
      have hbx := HBD.out _ (List.getElem_mem hl)
      clear hs hall hpts
      generalize l[k] = x at *
      have hr : leftQ p q x = decide (0 < cross p.1 p.2 q.1 q.2 x.1 x.2) := rfl
      have F := fun W (hW : Below w.heap.size w W) => Lib.hid (leftOf_any x.1 x.2 ga gb p.1 p.2 q.1 q.2 W (PtAt.below hW hga HPA.out) (PtAt.below hW hgb HPB.out) (Nat.lt_of_lt_of_le hga hW.size) (Nat.lt_of_lt_of_le hgb hW.size) hp.1 hp.2 hq.1 hq.2 hbx.1 hbx.2)
      rw [← hr] at F
      clear hr hbx
      generalize leftQ p q x = r at *
      go_wp2_with fail
      refine ((F _ hbw).out).mono ?_
      rintro e w1 ⟨rfl, hb1⟩
      have hbw1 := hbw.trans (hb1.mono hbw.size)
      clear hb1 h1 h2
      cases r
      · go_wp2_with fail
        go_roundw
        case rel => exact ⟨k + 1, by omega, by go_num, HS.out, hbw1⟩
        case measure => simp [intOf]; omega
      · go_wp2_with fail
        go_ret
        exact ⟨_, rfl, by rw [HA.out trivial]; simp, hbw1⟩
    · have hfull : anyLeft p q l = false := by
        have := HZ.out
        rw [List.take_of_length_le (by have := HN.out; omega)] at this
        exact this
      have HF := Lib.hid hfull
      clear hfull
      go_wp2
      go_ret
      exact ⟨_, rfl, by rw [HF.out]; rfl, hbw⟩

theorem containsLeft_any (A : Option Addr) (n c : Nat) (l : List Pt) (p q : Pt) (ga gb : Nat) (w : World) (hn : l.length = n) (hbig : n ≤ 1000000) (hx : PtsAt w A l) (hbd : ∀ x ∈ l, Bd x) (hp : Bd p) (hq : Bd q)
    (pa : PtAt w ga p.1 p.2) (pb : PtAt w gb q.1 q.2) (hga : ga < w.heap.size) (hgb : gb < w.heap.size) :
    Calls Try.prog 41 #[.slice A n c, .func (.func 53) #[] #[.pointer (some ⟨ga, 0, none⟩), .pointer (some ⟨gb, 0, none⟩)]] w fun e w' => e = .returned (.bool (anyLeft p q l)) ∧ Below w.heap.size w w' := by
  have K := Lib.hid (indexLeft_any A n c l p q ga gb w hn hbig hx hbd hp hq pa pb hga hgb)
  clear hn hx hbd pa pb
  go_enter Try.func41, Try.ntmps41
  go_wp2_with fail
  refine (K.out).mono ?_
  rintro e w' ⟨i, rfl, hi, hb⟩
  have HI := Lib.hid hi
  clear hi
  go_wp2
  go_ret
  exact ⟨ret_bool HI.out, hb⟩

def beyondAt (a b : List Pt) (i : Nat) : Bool := !anyLeft (gt a i) (nx a i) b
def beyondB (a b : List Pt) : Bool := (List.range a.length).any (beyondAt a b)
def apartB (a b : List Pt) : Bool := beyondB a b || beyondB b a

set_option maxRecDepth 100000 in
set_option maxHeartbeats 1000000 in
theorem hasBeyond_any (b off n c : Nat) (A : Option Addr) (m d : Nat) (l r : List Pt) (w : World) (hl : l.length = n) (hn : 0 < n) (hn' : n ≤ 100) (h : PtsIn w b off l) (hb : b < w.heap.size) (hbd : ∀ i, Bd (gt l i))
    (hm : r.length = m) (hbig : m ≤ 1000000) (hx : PtsAt w A r) (hrd : ∀ x ∈ r, Bd x) :
    Calls Try.prog 38 #[.slice (some ⟨b, off, none⟩) n c, .slice A m d] w fun e w' => e = .returned (.bool (beyondB l r)) ∧ Below w.heap.size w w' := by
  have HL := Lib.hid hl
  have HP := Lib.hid h
  have HBD := Lib.hid hbd
  have HM := Lib.hid hm
  have HX := Lib.hid hx
  have HRD := Lib.hid hrd
  clear hl h hbd hm hx hrd
  go_enter Try.func38, Try.ntmps38
  go_wp2
  go_loopw [11] (fun i wr => ∃ k : Nat, k ≤ n ∧ i = .int .i64 k ∧ (∀ j, j < k → beyondAt l r j = false) ∧ Below w.heap.size w wr) (fun i _ => n - (intOf i).toNat)
  case atStart => exact ⟨0, Nat.zero_le _, rfl, by omega, Below.refl _ _⟩
  case round =>
    obtain ⟨k, hk, rfl, hz, hbw⟩ := hrel
    have HZ := Lib.hid hz
    clear hz
    by_cases hlt : k < n
    · have HPw : Hid (PtsIn wr b off l) := Lib.hid (HP.out.below hbw hb)
      have hB : b < wr.heap.size := Nat.lt_of_lt_of_le hb hbw.size
      have N := fun W hW => Lib.hid (edge_any b off n c l k W HL.out (by omega) (by omega) (by omega) (HPw.out.below (B := wr.heap.size) hW hB))
      rw [Nat.mod_eq_of_lt hlt] at N
      have d1 := HBD.out k
      have d2 := HBD.out ((k + 1) % l.length)
      rw [← nx_gt] at d2
      have EB : Hid (beyondAt l r k = !anyLeft (gt l k) (nx l k) r) := Lib.hid rfl
      generalize gt l k = p1 at *
      generalize nx l k = p2 at *
      obtain ⟨x, y⟩ := p1
      obtain ⟨qx, qy⟩ := p2
      have CL := fun ga gb W (hW : Below w.heap.size w W) (pa : PtAt W ga x y) (pb : PtAt W gb qx qy) (hga : ga < W.heap.size) (hgb : gb < W.heap.size) =>
        Lib.hid (containsLeft_any A m d r (x, y) (qx, qy) ga gb W HM.out hbig (HX.out.below hW) HRD.out d1 d2 pa pb hga hgb)
      clear d1 d2
      generalize anyLeft (x, y) (qx, qy) r = t at *
      go_wp2_with fail
      refine ((N _ (Below.refl _ _)).out).mono ?_
      rintro e w1 ⟨rfl, hb1⟩
      have B2 := boxed2 w1 x y qx qy
      go_upto_region 5 with (fail)
      generalize (w1.alloc (Go.Proofs.Ytffjonpajjioaaa.bx x y)).alloc (Go.Proofs.Ytffjonpajjioaaa.bx qx qy) = w2 at *
      obtain ⟨P1, P2, hb2, hz2⟩ := B2
      have hbr2 := hb1.trans (hb2.mono hb1.size)
      have hbw2 := hbw.trans (hbr2.mono hbw.size)
      generalize w1.heap.size = g at *
      have hg2 : g + 1 < w2.heap.size := by omega
      clear hb2 hz2 N hb1
      have CL1 := CL g (g + 1) w2 hbw2 P1 P2 (by omega) hg2
      clear CL
      go_wp2_with fail
      refine (CL1.out).mono ?_
      rintro e w3 ⟨rfl, hb3⟩
      have hbw3 := hbw2.trans (hb3.mono hbw2.size)
      clear hb3 CL1
      cases t
      · have HF : Hid (beyondB l r = true) := Lib.hid (List.any_eq_true.2 ⟨k, List.mem_range.2 (by rw [HL.out]; exact hlt), EB.out⟩)
        go_wp2_with fail
        go_ret
        exact ⟨ret_bool HF.out.symm, hbw3⟩
      · have HZ1 : Hid (∀ j, j < k + 1 → beyondAt l r j = false) := Lib.hid fun j hj => by
          rcases Nat.lt_or_eq_of_le (Nat.le_of_lt_succ hj) with h' | h'
          · exact HZ.out j h'
          · rw [h', EB.out]; rfl
        go_wp2_with fail
        go_roundw
        case rel => exact ⟨k + 1, by omega, by go_num, HZ1.out, hbw3⟩
        case measure => simp [intOf]; omega
    · obtain rfl : k = n := by omega
      have HF : Hid (beyondB l r = false) := Lib.hid (by
        unfold beyondB
        rw [List.any_eq_false]
        intro j hj
        rw [HZ.out j (by have := List.mem_range.1 hj; rwa [HL.out] at this)]
        simp)
      go_wp2_with fail
      go_ret
      exact ⟨ret_bool HF.out.symm, hbw⟩

theorem areApart_any (b off n c b' off' m d : Nat) (l r : List Pt) (w : World) (hl : l.length = n) (hn : 0 < n) (hn' : n ≤ 100) (h : PtsIn w b off l) (hb : b < w.heap.size) (hbd : ∀ x ∈ l, Bd x)
    (hm : r.length = m) (hm0 : 0 < m) (hm' : m ≤ 100) (h' : PtsIn w b' off' r) (hb' : b' < w.heap.size) (hrd : ∀ x ∈ r, Bd x) :
    Calls Try.prog 22 #[.slice (some ⟨b, off, none⟩) n c, .slice (some ⟨b', off', none⟩) m d] w fun e w' => e = .returned (.bool (apartB l r)) ∧ Below w.heap.size w w' := by
  have gt_bd : ∀ (l : List Pt), (∀ x ∈ l, Bd x) → ∀ i, Bd (gt l i) := fun l hl i => by
    unfold gt
    rw [List.getD_eq_getElem?_getD]
    cases e : l[i]? with
    | none => exact ⟨by decide, by decide⟩
    | some x => exact hl x (List.mem_of_getElem? e)
  have K1 := fun W (hW : Below w.heap.size w W) => Lib.hid (hasBeyond_any b off n c (some ⟨b', off', none⟩) m d l r W hl hn hn' (h.below hW hb) (Nat.lt_of_lt_of_le hb hW.size) (gt_bd l hbd) hm (by omega)
    (fun _ => ⟨b', off', rfl, Nat.lt_of_lt_of_le hb' hW.size, h'.below hW hb'⟩) hrd)
  have K2 := fun W (hW : Below w.heap.size w W) => Lib.hid (hasBeyond_any b' off' m d (some ⟨b, off, none⟩) n c r l W hm hm0 hm' (h'.below hW hb') (Nat.lt_of_lt_of_le hb' hW.size) (gt_bd r hrd) hl (by omega)
    (fun _ => ⟨b, off, rfl, Nat.lt_of_lt_of_le hb hW.size, h.below hW hb⟩) hbd)
  have E : Hid (apartB l r = (beyondB l r || beyondB r l)) := Lib.hid rfl
  clear hl h hbd hm h' hrd gt_bd
  generalize apartB l r = t at *
  generalize beyondB l r = t1 at *
  generalize beyondB r l = t2 at *
  cases t1
  · go_enter Try.func22, Try.ntmps22
    go_wp2_with fail
    refine ((K1 _ (Below.refl _ _)).out).mono ?_
    rintro e w1 ⟨rfl, hb1⟩
    go_wp2_with fail
    refine ((K2 _ hb1).out).mono ?_
    rintro e w2 ⟨rfl, hb2⟩
    have hb3 := hb1.trans (hb2.mono hb1.size)
    go_wp2
    go_ret
    exact ⟨ret_bool (by rw [E.out]; rfl), hb3⟩
  · go_enter Try.func22, Try.ntmps22
    go_wp2_with fail
    refine ((K1 _ (Below.refl _ _)).out).mono ?_
    rintro e w1 ⟨rfl, hb1⟩
    go_wp2
    go_ret
    exact ⟨ret_bool (by rw [E.out]; rfl), hb1⟩
end Go.Proofs.Ytffjonpajjioaaa

/- Package shape's checkConvex and Apart; the law's own 'convex'; the reference's Moved and Apart. -/
namespace Go.Proofs.Ytffjonpajjioaaa
open Go.RowKit Go.Sort
attribute [local go_sem ↓] run_min_mn run_max_mx Go.wp_at_zero Go.wp_at_succ

def conE (l : List Pt) : Int := if polyB l then (if convexB l then 0 else 2) else 1
theorem conE_cases (l : List Pt) : (conE l = 1 ∧ polyB l = false) ∨ (conE l = 2 ∧ polyB l = true ∧ convexB l = false) ∨ (conE l = 0 ∧ polyB l = true ∧ convexB l = true) := by
  unfold conE
  cases polyB l <;> cases convexB l <;> simp
theorem conE_zero {l : List Pt} (h0 : conE l = 0) : polyB l = true ∧ convexB l = true := by
  rcases conE_cases l with h | h | h
  · rw [h.1] at h0; cases h0
  · rw [h.1] at h0; cases h0
  · exact h.2
theorem conE_rng (l : List Pt) : 0 ≤ conE l ∧ conE l ≤ 2 := by
  rcases conE_cases l with h | h | h <;> omega

def convsE : List (List Pt) → Int
  | [] => 0
  | l :: L => if conE l = 0 then convsE L else conE l
theorem convsE_skip {L : List (List Pt)} {k : Nat} (hk : k < L.length) (h : conE L[k] = 0) : convsE (L.drop (k + 1)) = convsE (L.drop k) := by
  rw [List.drop_eq_getElem_cons hk]
  show _ = if conE L[k] = 0 then convsE (L.drop (k + 1)) else conE L[k]
  rw [if_pos h]
theorem convsE_here {L : List (List Pt)} {k : Nat} (hk : k < L.length) (h : conE L[k] ≠ 0) : convsE (L.drop k) = conE L[k] := by
  rw [List.drop_eq_getElem_cons hk]
  show (if conE L[k] = 0 then convsE (L.drop (k + 1)) else conE L[k]) = _
  rw [if_neg h]

/-- A row of slices of points. -/
def PolysIn (w : World) (b off : Nat) (L : List (List Pt)) : Prop :=
  ∀ i l, L[i]? = some l → ∃ A n c, w.cell? ⟨b, off + i, none⟩ = some (.slice A n c) ∧ l.length = n ∧ n ≤ 1000000 ∧ PtsAt w A l
theorem PolysIn.below {w w' : World} {b off : Nat} {L : List (List Pt)} (h : PolysIn w b off L) (hb : Below w.heap.size w w') (hB : b < w.heap.size) : PolysIn w' b off L := fun i l hi => by
  obtain ⟨A, n, c, h1, h2, h3, h4⟩ := h i l hi
  exact ⟨A, n, c, (hb.cell (p := ⟨b, _, none⟩) hB).trans h1, h2, h3, h4.below hb⟩

set_option maxRecDepth 100000 in
set_option maxHeartbeats 1000000 in
theorem checkConvex_any (b off n c : Nat) (L : List (List Pt)) (w : World) (hl : L.length = n) (hn' : n ≤ 1000) (h : PolysIn w b off L) (hb : b < w.heap.size) :
    Calls Try.prog 13 #[.slice (some ⟨b, off, none⟩) n c] w fun e w' => e = .returned (.int .i64 (convsE L)) ∧ Below w.heap.size w w' := by
  have HL := Lib.hid hl
  have HP := Lib.hid h
  clear hl h
  go_enter Try.func13, Try.ntmps13
  go_wp2
  go_loopw [7] (fun i wr => ∃ k : Nat, k ≤ n ∧ i = .int .i64 k ∧ convsE (L.drop k) = convsE L ∧ Below w.heap.size w wr) (fun i _ => n - (intOf i).toNat)
  case atStart => exact ⟨0, Nat.zero_le _, rfl, rfl, Below.refl _ _⟩
  case round =>
    obtain ⟨k, hk, rfl, hz, hbw⟩ := hrel
    have HZ := Lib.hid hz
    clear hz
    by_cases hlt : k < n
    · have hkl : k < L.length := by rw [HL.out]; exact hlt
      obtain ⟨A, m, d, h1, h2, h3, h4⟩ := (HP.out.below hbw hb) k L[k] (List.getElem?_eq_getElem hkl)
      have hB : b < wr.heap.size := Nat.lt_of_lt_of_le hb hbw.size
      have KP := fun W hW => Lib.hid (isPolygon_any A m d L[k] W h2 h3 (h4.below (w' := W) hW))
      have HE1 : Hid (conE L[k] = 0 → convsE (L.drop (k + 1)) = convsE L) := Lib.hid fun h => (convsE_skip hkl h).trans HZ.out
      have HE2 : Hid (conE L[k] ≠ 0 → convsE L = conE L[k]) := Lib.hid fun h => HZ.out.symm.trans (convsE_here hkl h)
      generalize L[k] = l at *
      cases hp : polyB l
      · have HE : Hid (convsE L = 1) := Lib.hid (by
          have e : conE l = 1 := by unfold conE; rw [hp]; rfl
          rw [HE2.out (by rw [e]; decide), e])
        rw [hp] at KP
        clear h2 h4
        go_wp2_with fail
        refine ((KP _ (Below.refl _ _)).out).mono ?_
        rintro e w1 ⟨rfl, hb1⟩
        have hbw1 := hbw.trans (hb1.mono hbw.size)
        go_wp2_with fail
        go_ret
        exact ⟨ret_int HE.out.symm, hbw1⟩
      · rw [hp] at KP
        obtain ⟨b2, off2, rfl, g1, g2, g3, g4, g5⟩ := h4.poly h2 hp
        have KC := fun W hW => Lib.hid (isConvex_any b2 off2 m d l W h2 (by omega) (by omega) (g4.below (B := wr.heap.size) hW g3) (Nat.lt_of_lt_of_le g3 hW.size) g5)
        rw [convex_same] at KC
        clear h2 h4 g4 g5
        cases hc : convexB l
        · have HE : Hid (convsE L = 2) := Lib.hid (by
            have e : conE l = 2 := by unfold conE; rw [hp, hc]; rfl
            rw [HE2.out (by rw [e]; decide), e])
          rw [hc] at KC
          go_wp2_with fail
          refine ((KP _ (Below.refl _ _)).out).mono ?_
          rintro e w1 ⟨rfl, hb1⟩
          go_wp2_with fail
          refine ((KC _ hb1).out).mono ?_
          rintro e w2 ⟨rfl, hb2⟩
          have hbw2 := hbw.trans ((hb1.trans (hb2.mono hb1.size)).mono hbw.size)
          go_wp2_with fail
          go_ret
          exact ⟨ret_int HE.out.symm, hbw2⟩
        · have HE := Lib.hid (HE1.out (by unfold conE; rw [hp, hc]; rfl))
          rw [hc] at KC
          go_wp2_with fail
          refine ((KP _ (Below.refl _ _)).out).mono ?_
          rintro e w1 ⟨rfl, hb1⟩
          go_wp2_with fail
          refine ((KC _ hb1).out).mono ?_
          rintro e w2 ⟨rfl, hb2⟩
          have hbw2 := hbw.trans ((hb1.trans (hb2.mono hb1.size)).mono hbw.size)
          go_wp2_with fail
          go_roundw
          case rel => exact ⟨k + 1, by omega, by go_num, HE.out, hbw2⟩
          case measure => simp [intOf]; omega
    · have HE : Hid (convsE L = 0) := Lib.hid (by
        rw [← HZ.out, List.drop_of_length_le (by rw [HL.out]; omega)]; rfl)
      go_wp2_with fail
      go_ret
      exact ⟨ret_int HE.out.symm, hbw⟩

theorem ok_Bd {l : List Pt} (h : l.all okP = true) : ∀ x ∈ l, Bd x := fun x hx => Bd.of_ok (List.all_eq_true.1 h x hx)
theorem moved_Bd {l : List Pt} {v : Pt} (h : l.all okP = true) (hv : validB v.1 v.2 20000 = true) : ∀ x ∈ movedL l v, Bd x := fun x hx => by
  obtain ⟨p, hp, rfl⟩ := List.mem_map.1 hx
  obtain ⟨h1, h2⟩ := okP_bd (List.all_eq_true.1 h p hp)
  have : (-20000 ≤ v.1 ∧ v.1 ≤ 20000) ∧ (-20000 ≤ v.2 ∧ v.2 ≤ 20000) := by simpa [validB, inB] using hv
  unfold Bd addP
  simp only
  omega
theorem valid_Bd2 {v : Pt} (hv : validB v.1 v.2 20000 = true) : Bd v := by
  have : (-20000 ≤ v.1 ∧ v.1 ≤ 20000) ∧ (-20000 ≤ v.2 ∧ v.2 ≤ 20000) := by simpa [validB, inB] using hv
  unfold Bd
  omega

/-- What Apart says: whether, and the error. -/
def apE (a b : List Pt) (v : Pt) : Int := if conE a = 0 then (if conE b = 0 then (if validB v.1 v.2 20000 then 0 else 1) else conE b) else conE a
def apX (a b : List Pt) (v : Pt) : Bool := if apE a b v = 0 then apartB a (movedL b v) else false
theorem apE_zero {a b : List Pt} {v : Pt} (h : apE a b v = 0) : conE a = 0 ∧ conE b = 0 ∧ validB v.1 v.2 20000 = true := by
  unfold apE at h
  split at h
  · split at h
    · split at h
      · exact ⟨by assumption, by assumption, by assumption⟩
      · cases h
    · rename_i h1 h2; exact absurd h h2
  · rename_i h2; exact absurd h h2
theorem convs_two (a b : List Pt) : convsE [a, b] = if conE a = 0 then conE b else conE a := by
  show (if conE a = 0 then (if conE b = 0 then 0 else conE b) else conE a) = _
  split
  · split
    · rename_i h; exact h.symm
    · rfl
  · rfl

set_option maxRecDepth 100000 in
set_option maxHeartbeats 1000000 in
theorem apartX_any (A : Option Addr) (n c : Nat) (A' : Option Addr) (m d : Nat) (a b : List Pt) (v : Pt) (w : World) (hn : a.length = n) (hbig : n ≤ 1000000) (hx : PtsAt w A a) (hm : b.length = m) (hbig' : m ≤ 1000000) (hy : PtsAt w A' b) :
    Calls Try.prog 10 #[.slice A n c, .slice A' m d, .agg #[.int .i64 v.1, .int .i64 v.2]] w fun e w' => e = .returned (.tuple #[.bool (apX a b v), .int .i64 (apE a b v)]) ∧ Below w.heap.size w w' := by
  have hb0 : Below w.heap.size w (w.alloc (bx v.1 v.2)) := (Below.refl _ _).alloc (Nat.le_refl _) _
  have P0 : PtAt (w.alloc (bx v.1 v.2)) w.heap.size v.1 v.2 := PtAt.new
  have hz0 : (w.alloc (bx v.1 v.2)).heap.size = w.heap.size + 1 := by simp
  have hx0 := hx.below hb0
  have hy0 := hy.below hb0
  generalize hw0 : w.alloc (bx v.1 v.2) = w0 at *
  have hb1 : Below w0.heap.size w0 (w0.alloc (.cells #[.slice A n c, .slice A' m d] 24)) := (Below.refl _ _).alloc (Nat.le_refl _) _
  have hP : PolysIn (w0.alloc (.cells #[.slice A n c, .slice A' m d] 24)) w0.heap.size 0 [a, b] := by
    intro i l hi
    match i, hi with
    | 0, hi =>
      obtain rfl : a = l := by simpa using hi
      exact ⟨A, n, c, by simp [World.cell?_alloc_new], hn, hbig, hx0.below hb1⟩
    | 1, hi =>
      obtain rfl : b = l := by simpa using hi
      exact ⟨A', m, d, by simp [World.cell?_alloc_new], hm, hbig', hy0.below hb1⟩
  rw [hz0] at hP
  have K := Lib.hid (checkConvex_any (w.heap.size + 1) 0 2 2 [a, b] _ rfl (by omega) hP (by simp; omega))
  have HB1 := Lib.hid (hb0.trans (hb1.mono hb0.size))
  have P1 := PtAt.below hb1 (by omega) P0
  have hgr : w.heap.size < (w0.alloc (.cells #[.slice A n c, .slice A' m d] 24)).heap.size := by simp; omega
  have hC := convs_two a b
  have V := fun W => Lib.hid (isNear_any v.1 v.2 20000 (by omega) W)
  have HX := Lib.hid hx
  have HY := Lib.hid hy
  clear hb0 P0 hx0 hy0 hb1 hP
  by_cases h0 : convsE [a, b] = 0
  · have ha : conE a = 0 := by
      rw [hC] at h0
      split at h0
      · assumption
      · rename_i h; exact absurd h0 h
    have hb : conE b = 0 := by rw [hC, if_pos ha] at h0; exact h0
    obtain ⟨pa, ca⟩ := conE_zero ha
    obtain ⟨pb, cb⟩ := conE_zero hb
    rw [h0] at K
    cases hv : validB v.1 v.2 20000
    · have e1 : apE a b v = 1 := by unfold apE; rw [if_pos ha, if_pos hb, hv]; rfl
      have e2 : apX a b v = false := by unfold apX; rw [e1]; rfl
      rw [e1, e2]
      rw [hv] at V
      clear hC h0 ha hb pa ca pb cb hv e1 e2 HX HY hx hy hn hm
      go_enter Try.func10, Try.ntmps10
      go_upto_region 1 with (fail)
      clear hw0
      go_wp2_with fail
      refine (K.out).mono ?_
      rintro e w1 ⟨rfl, hb1⟩
      obtain ⟨p1, p2⟩ := PtAt.below hb1 hgr P1
      have hbw1 := HB1.out.trans (hb1.mono HB1.out.size)
      go_wp2_with fail
      refine ((V _).out).mono ?_
      rintro e w2 ⟨rfl, hb2⟩
      have hbw2 := hbw1.trans (hb2.mono hbw1.size)
      go_wp2
      go_ret2
      exact ⟨rfl, hbw2⟩
    · have e1 : apE a b v = 0 := by unfold apE; rw [if_pos ha, if_pos hb, hv]; rfl
      have e2 : apX a b v = apartB a (movedL b v) := by unfold apX; rw [e1]; rfl
      rw [e1, e2]
      rw [hv] at V
      obtain ⟨b1, o1, rfl, g1, g2, g3, g4, g5⟩ := hx.poly hn pa
      obtain ⟨b2, o2, rfl, f1, f2, f3, f4, f5⟩ := hy.poly hm pb
      have KM := fun W (hW : Below w.heap.size w W) => Lib.hid (moved_any b2 o2 m d b v W hm (by omega) (f4.below hW f3) (Nat.lt_of_lt_of_le f3 hW.size) (Bd.all f5) (valid_Bd2 hv))
      have KA := fun g2 W (hW : Below w.heap.size w W) (hM : PtBlk W g2 (movedL b v)) => Lib.hid (areApart_any b1 o1 n c g2 0 m m a (movedL b v) W hn (by omega) (by omega) (g4.below hW g3) (Nat.lt_of_lt_of_le g3 hW.size) (ok_Bd g5) ((movedL_length b v).trans hm) (by omega) (by omega) hM.pts hM.lt (moved_Bd f5 hv))
      clear hC h0 ha hb pa ca pb cb hv e1 e2 HX HY hx hy hn hm g4 g5 f4 f5
      generalize apartB a (movedL b v) = r at *
      generalize movedL b v = mv at *
      go_enter Try.func10, Try.ntmps10
      go_upto_region 1 with (fail)
      clear hw0
      go_wp2_with fail
      refine (K.out).mono ?_
      rintro e w1 ⟨rfl, hb1⟩
      obtain ⟨p1, p2⟩ := PtAt.below hb1 hgr P1
      have hbw1 := HB1.out.trans (hb1.mono HB1.out.size)
      have hgr1 : w.heap.size < w1.heap.size := Nat.lt_of_lt_of_le hgr hb1.size
      clear hb1
      go_wp2_with fail
      refine ((V _).out).mono ?_
      rintro e w2 ⟨rfl, hb2⟩
      obtain ⟨p1, p2⟩ := PtAt.below hb2 hgr1 ⟨p1, p2⟩
      have hbw2 := hbw1.trans (hb2.mono hbw1.size)
      clear hb2
      go_wp2_with fail
      refine ((KM _ hbw2).out).mono ?_
      rintro e w3 ⟨g, rfl, hg, hM, hb3⟩
      have hbw3 := hbw2.trans (hb3.mono hbw2.size)
      clear hb3
      have KA1 := KA g w3 hbw3 hM
      clear hM hg
      go_wp2_with fail
      refine (KA1.out).mono ?_
      rintro e w4 ⟨rfl, hb4⟩
      have hbw4 := hbw3.trans (hb4.mono hbw3.size)
      go_wp2
      go_ret2
      exact ⟨rfl, hbw4⟩
  · have e1 : apE a b v = convsE [a, b] := by
      rw [hC]; unfold apE
      split
      · rename_i ha
        rw [if_neg]
        rw [hC, if_pos ha] at h0; exact h0
      · rfl
    have e2 : apX a b v = false := by unfold apX; rw [if_neg (by rw [e1]; exact h0)]
    rw [e1, e2]
    have hrng : 0 ≤ convsE [a, b] ∧ convsE [a, b] ≤ 2 := by
      rw [hC]; have := conE_rng a; have := conE_rng b; split <;> omega
    generalize convsE [a, b] = r at *
    clear hC e1 e2 HX HY hx hy hn hm V
    go_enter Try.func10, Try.ntmps10
    go_upto_region 1 with (fail)
    clear hw0
    go_wp2_with fail
    refine (K.out).mono ?_
    rintro e w1 ⟨rfl, hb1⟩
    have hbw1 := HB1.out.trans (hb1.mono HB1.out.size)
    go_wp2
    go_ret2
    exact ⟨rfl, hbw1⟩
end Go.Proofs.Ytffjonpajjioaaa

/- The reference's Moved, parts and Apart. -/
namespace Go.Proofs.Ytffjonpajjioaaa
open Go.RowKit Go.Sort
attribute [local go_sem ↓] run_min_mn run_max_mx Go.wp_at_zero Go.wp_at_succ

theorem PtsOwn.low {w : World} {base base' : Nat} {v : Value} {xs : List Pt} (h : PtsOwn w base v xs) (hb : base' ≤ base) : PtsOwn w base' v xs := by
  unfold PtsOwn World.ownsRow at *
  obtain ⟨h1, h2⟩ := h
  refine ⟨h1, ?_⟩
  rcases h2 with h2 | ⟨g, cap, cur, e, hg, r⟩
  · exact .inl h2
  · exact .inr ⟨g, cap, cur, e, Nat.le_trans hb hg, r⟩
theorem PtsOwn.alloc {w : World} {base : Nat} {v : Value} {xs : List Pt} (h : PtsOwn w base v xs) (o : Obj) : PtsOwn (w.alloc o) base v xs := World.ownsRow.alloc h o
theorem PtsOwn.drew {w : World} {base : Nat} {v : Value} {xs : List Pt} (h : PtsOwn w base v xs) : PtsOwn w.drew base v xs := h
theorem PtsOwn.base {w : World} {base : Nat} {v : Value} {xs : List Pt} (h : PtsOwn w base v xs) : ∀ k, v.ownBlock = some k → base ≤ k ∧ k < w.heap.size := World.ownsRow.lt h
theorem PtsAt.one (W : World) (x y : Int) : PtsAt (W.alloc (.cells #[.int .i64 x, .int .i64 y] 27)) (some ⟨W.heap.size, 0, none⟩) [(x, y)] := fun _ =>
  ⟨W.heap.size, 0, rfl, by simp, fun i p hp => by
    match i, hp with
    | 0, hp =>
      obtain rfl : (x, y) = p := by simpa using hp
      constructor <;> simp [World.cell?_alloc_new]⟩

/-- An append as one step of a region that draws its order. -/
theorem step_papp {w : World} {ops : Array Oper} {o : Oper} {a : Act} {K : Act → World → Prop} {Q : Exit → Act → World → Prop} {E : Prop} (hgd : o.guard = none) (s x : Operand)
    (ho : o.op = .call { callee := .builtin .append, args := #[s, x], argTypes := #[24, 24] }) (base : Nat) (v : Value) (xs ys : List Pt) (A : Option Addr) (m c : Nat)
    (hs : a.eval s = v) (hx : a.eval x = .slice A m c) (hown : PtsOwn w base v xs) (hm : ys.length = m) (hy : PtsAt w A ys) (hlen : xs.length + ys.length ≤ 100000) (hb : base ≤ w.heap.size)
    (h : ∀ v' w', PtsOwn w' base v' (xs ++ ys) → w.grownBy w' v.ownBlock → (v'.ownBlock = v.ownBlock ∨ v'.ownBlock = some w.heap.size) → K (a.put o.dst v') w') :
    if Region.wanted o (yielded ops a.tmps) = true then Oper.wp Try.prog o a w K Q else E := by
  have hw : Region.wanted o (yielded ops a.tmps) = true := by simp [Region.wanted, hgd]
  rw [if_pos hw]
  subst hm
  obtain ⟨v', w', hr, h2, h3, h4⟩ := papp_run hown c hy hlen hb o.type
  unfold Oper.wp execOp
  simp only [ho, resolve, invoke, builtin, Sem.run_bind, Sem.run_pure, Result.andThen_ok, List.map_toArray, List.map_cons, List.map_nil, hs, hx, hr]
  exact h v' w' h2 h3 h4

/-- Four cells of old blocks stay behind an append to a row of the call's own. -/
theorem cells4_grown {w W w1 : World} {b o1 o2 g B : Nat} {v1 v2 v3 v4 : Value} {row : Option Nat} (hg : W.grownBy w1 row) (hr : ∀ k, row = some k → B ≤ k) (hb : b < B) (hgg : g < B) (hs : B ≤ W.heap.size)
    (h : W.cell? ⟨b, o1, none⟩ = some v1 ∧ W.cell? ⟨b, o2, none⟩ = some v2 ∧ W.cell? ⟨g, 0, none⟩ = some v3 ∧ W.cell? ⟨g, 1, none⟩ = some v4) :
    w1.cell? ⟨b, o1, none⟩ = some v1 ∧ w1.cell? ⟨b, o2, none⟩ = some v2 ∧ w1.cell? ⟨g, 0, none⟩ = some v3 ∧ w1.cell? ⟨g, 1, none⟩ = some v4 := by
  have hB : Below B W w1 := (Below.refl _ _).grown hg hs hr
  exact ⟨(hB.cell (p := ⟨b, _, none⟩) hb).trans h.1, (hB.cell (p := ⟨b, _, none⟩) hb).trans h.2.1, (hB.cell (p := ⟨g, _, none⟩) hgg).trans h.2.2.1, (hB.cell (p := ⟨g, _, none⟩) hgg).trans h.2.2.2⟩

def RefMovedTo (l : List Pt) (w : World) (e : Ending) (w' : World) : Prop := ∃ v, e = .returned v ∧ PtsOwn w' w.heap.size v l ∧ Below w.heap.size w w'

def rightQ (p q x : Pt) : Bool := decide (crossP p q x ≤ 0)
def partsAt (a b : List Pt) (i : Nat) : Bool := b.all (rightQ (gt a i) (nx a i))
def partsB (a b : List Pt) : Bool := (List.range a.length).any (partsAt a b)
theorem parts_at (a b : List Pt) (i : Nat) : partsAt a b i = beyondAt a b i := by
  unfold partsAt beyondAt anyLeft
  generalize gt a i = p
  generalize nx a i = q
  induction b with
  | nil => rfl
  | cons x b ih =>
    rw [List.all_cons, List.any_cons, ih, Bool.not_or]
    congr 1
    unfold rightQ leftQ
    by_cases h : crossP p q x ≤ 0
    · rw [decide_eq_true h, decide_eq_false (by omega)]; rfl
    · rw [decide_eq_false h, decide_eq_true (by omega)]; rfl
theorem parts_same (a b : List Pt) : partsB a b = beyondB a b := by
  unfold partsB beyondB
  rw [show partsAt a b = beyondAt a b from funext (parts_at a b)]

end Go.Proofs.Ytffjonpajjioaaa
