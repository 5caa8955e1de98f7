/- Two ways to say that edges meet, that they turn back, that a polygon is simple and convex: they are the same. Plain mathematics. -/
import Derived.Test.YtnijcdphmibjaaaDevConvex
namespace Go.Proofs.Ytnijcdphmibjaaa

/-- u lies between 0 and p. -/
def btw (u p : Int) : Prop := (0 ≤ u ∧ u ≤ p) ∨ (p ≤ u ∧ u ≤ 0)
theorem btw_of {D t u p : Int} (hD : 0 < D) (h : D * u = t * p) (h0 : 0 ≤ t) (h1 : t ≤ D) : btw u p := by
  rcases Int.le_total 0 p with hp | hp
  · have a : 0 ≤ t * p := Int.mul_nonneg h0 hp
    have b : t * p ≤ D * p := Int.mul_le_mul_of_nonneg_right h1 hp
    refine .inl ⟨?_, ?_⟩
    · rcases Int.lt_or_le u 0 with g | g
      · have := Int.mul_neg_of_pos_of_neg hD g; omega
      · exact g
    · exact Int.le_of_mul_le_mul_left (by omega) hD
  · have a : t * p ≤ 0 := Int.mul_nonpos_of_nonneg_of_nonpos h0 hp
    have b : D * p ≤ t * p := Int.mul_le_mul_of_nonpos_right h1 hp
    refine .inr ⟨?_, ?_⟩
    · exact Int.le_of_mul_le_mul_left (by omega) hD
    · rcases Int.lt_or_le 0 u with g | g
      · have := Int.mul_pos hD g; omega
      · exact g
theorem of_btw {D t u p : Int} (hD : 0 < D) (h : D * u = t * p) (hp : p ≠ 0) (hb : btw u p) : 0 ≤ t ∧ t ≤ D := by
  rcases hb with ⟨b1, b2⟩ | ⟨b1, b2⟩
  · have hp' : 0 < p := by omega
    have a : 0 ≤ D * u := Int.mul_nonneg (by omega) b1
    have b : D * u ≤ D * p := Int.mul_le_mul_of_nonneg_left b2 (by omega)
    refine ⟨?_, Int.le_of_mul_le_mul_right (by omega) hp'⟩
    rcases Int.lt_or_le t 0 with g | g
    · have := Int.mul_neg_of_neg_of_pos g hp'; omega
    · exact g
  · have hp' : 0 < -p := by omega
    have e : t * -p = D * -u := by rw [Int.mul_neg, Int.mul_neg, h]
    have a : 0 ≤ D * -u := Int.mul_nonneg (by omega) (by omega)
    have b : D * -u ≤ D * -p := Int.mul_le_mul_of_nonneg_left (by omega) (by omega)
    refine ⟨?_, Int.le_of_mul_le_mul_right (a := -p) (by omega) hp'⟩
    rcases Int.lt_or_le t 0 with g | g
    · have := Int.mul_neg_of_neg_of_pos g hp'; omega
    · exact g

/-- Weighted means: one cannot lie before all of the others. -/
theorem apart_no {D w t u r p : Int} (hD : 0 < D) (hw : 0 ≤ w) (hw' : w ≤ D) (ht : 0 ≤ t) (ht' : t ≤ D) (h : D * u + w * r = t * p) (h1 : u < 0) (h2 : u + r < 0) (h3 : u - p < 0) (h4 : u + r - p < 0) : False := by
  have k1 : D * u + w * r = (D - w) * u + w * (u + r) := by grind
  rcases Int.le_total 0 p with hp | hp
  · have a : 0 ≤ t * p := Int.mul_nonneg ht hp
    have b1 : (D - w) * u ≤ 0 := Int.mul_nonpos_of_nonneg_of_nonpos (by omega) (by omega)
    have b2 : w * (u + r) ≤ 0 := Int.mul_nonpos_of_nonneg_of_nonpos hw (by omega)
    rcases Int.lt_or_le 0 w with g | g
    · have := Int.mul_neg_of_pos_of_neg g h2; omega
    · have : 0 < D - w := by omega
      have := Int.mul_neg_of_pos_of_neg this h1; omega
  · have k2 : D * u + w * r - D * p = (D - w) * (u - p) + w * (u + r - p) := by grind
    have k3 : t * p - D * p = (D - t) * (-p) := by grind
    have a : 0 ≤ (D - t) * (-p) := Int.mul_nonneg (by omega) (by omega)
    have b1 : (D - w) * (u - p) ≤ 0 := Int.mul_nonpos_of_nonneg_of_nonpos (by omega) (by omega)
    have b2 : w * (u + r - p) ≤ 0 := Int.mul_nonpos_of_nonneg_of_nonpos hw (by omega)
    rcases Int.lt_or_le 0 w with g | g
    · have := Int.mul_neg_of_pos_of_neg g h4; omega
    · have : 0 < D - w := by omega
      have := Int.mul_neg_of_pos_of_neg this h3; omega
theorem apart_no' {D w t u r p : Int} (hD : 0 < D) (hw : 0 ≤ w) (hw' : w ≤ D) (ht : 0 ≤ t) (ht' : t ≤ D) (h : D * u + w * r = t * p) (h1 : 0 < u) (h2 : 0 < u + r) (h3 : 0 < u - p) (h4 : 0 < u + r - p) : False := by
  refine apart_no (u := -u) (r := -r) (p := -p) hD hw hw' ht ht' ?_ (by omega) (by omega) (by omega) (by omega)
  rw [Int.mul_neg, Int.mul_neg, Int.mul_neg, ← h]; omega

/-- Edges from (0, 0) to (p, q) and from (u, v) by (r, s). -/
def al (p q u v : Int) : Int := p * v - u * q
def opp (a b : Int) : Prop := mn a b ≤ 0 ∧ 0 ≤ mx a b
theorem opp_iff {a b : Int} : opp a b ↔ (a ≤ 0 ∧ 0 ≤ b) ∨ (b ≤ 0 ∧ 0 ≤ a) := by
  unfold opp mn mx
  by_cases h : b < a <;> by_cases h' : a < b <;> simp [h, h'] <;> omega
/-- Do the intervals 0..p and u..u+r overlap? -/
def ov (p u r : Int) : Prop := (mn 0 p ≤ mx u (u + r)) ∧ (mn u (u + r) ≤ mx 0 p)

theorem ov_of {D w t u r p : Int} (hD : 0 < D) (hw : 0 ≤ w) (hw' : w ≤ D) (ht : 0 ≤ t) (ht' : t ≤ D) (h : D * u + w * r = t * p) : ov p u r := by
  have a := apart_no hD hw hw' ht ht' h
  have b := apart_no' hD hw hw' ht ht' h
  unfold ov mn mx
  constructor
  · rcases Int.lt_or_le u 0 with g1 | g1 <;> rcases Int.lt_or_le (u + r) 0 with g2 | g2 <;> rcases Int.lt_or_le (u - p) 0 with g3 | g3 <;> rcases Int.lt_or_le (u + r - p) 0 with g4 | g4 <;> first | exact (a g1 g2 g3 g4).elim | (split <;> split <;> omega)
  · rcases Int.lt_or_le 0 u with g1 | g1 <;> rcases Int.lt_or_le 0 (u + r) with g2 | g2 <;> rcases Int.lt_or_le 0 (u - p) with g3 | g3 <;> rcases Int.lt_or_le 0 (u + r - p) with g4 | g4 <;> first | exact (b g1 g2 g3 g4).elim | (split <;> split <;> omega)

theorem cross_ids (p q r s u v : Int) :
    al p q (u + r) (v + s) = al p q u v + (p * s - r * q) ∧ (u * s - r * v) - (p * s - r * q) = r * (q - v) - (p - u) * s ∧
    (p * s - r * q) * u - al p q u v * r = (u * s - r * v) * p ∧ (p * s - r * q) * v - al p q u v * s = (u * s - r * v) * q := by
  unfold al
  refine ⟨by grind, by grind, by grind, by grind⟩

/-- If both edges reach both lines and the edges are not along each other, the boxes overlap. -/
theorem boxes_of {p q r s u v : Int} (hD : p * s - r * q ≠ 0) (h1 : opp (al p q u v) (al p q (u + r) (v + s))) (h2 : opp (u * s - r * v) (r * (q - v) - (p - u) * s)) : ov p u r ∧ ov q v s := by
  obtain ⟨i1, i2, i3, i4⟩ := cross_ids p q r s u v
  rw [opp_iff] at h1 h2
  rw [i1] at h1
  rw [← i2] at h2
  generalize al p q u v = a at *
  generalize u * s - r * v = c at *
  generalize p * s - r * q = D at *
  rcases Int.lt_or_lt_of_ne hD with g | g
  · exact ⟨ov_of (D := -D) (w := a) (t := -c) (by omega) (by omega) (by omega) (by omega) (by omega) (by rw [Int.neg_mul, Int.neg_mul]; omega), ov_of (D := -D) (w := a) (t := -c) (by omega) (by omega) (by omega) (by omega) (by omega) (by rw [Int.neg_mul, Int.neg_mul]; omega)⟩
  · exact ⟨ov_of (D := D) (w := -a) (t := c) (by omega) (by omega) (by omega) (by omega) (by omega) (by rw [Int.neg_mul]; omega), ov_of (D := D) (w := -a) (t := c) (by omega) (by omega) (by omega) (by omega) (by omega) (by rw [Int.neg_mul]; omega)⟩

/-- A point on the first edge: the second edge's line is reached. -/
theorem reach_of_on {p q r s u v : Int} (hne : p ≠ 0 ∨ q ≠ 0) (h0 : al p q u v = 0) (b1 : btw u p) (b2 : btw v q) : opp (u * s - r * v) (r * (q - v) - (p - u) * s) := by
  obtain ⟨i1, i2, i3, i4⟩ := cross_ids p q r s u v
  rw [h0, Int.zero_mul, Int.sub_zero] at i3 i4
  rw [opp_iff, ← i2]
  generalize u * s - r * v = c at *
  generalize p * s - r * q = D at *
  rcases Int.lt_trichotomy D 0 with g | g | g
  · rcases hne with hp | hp
    · have := of_btw (D := -D) (t := -c) (by omega) (by rw [Int.neg_mul, Int.neg_mul, i3]) hp b1; omega
    · have := of_btw (D := -D) (t := -c) (by omega) (by rw [Int.neg_mul, Int.neg_mul, i4]) hp b2; omega
  · rw [g, Int.zero_mul] at i3 i4
    have : c = 0 := by
      rcases hne with hp | hp
      · rcases Int.mul_eq_zero.1 i3.symm with h | h
        · exact h
        · exact absurd h hp
      · rcases Int.mul_eq_zero.1 i4.symm with h | h
        · exact h
        · exact absurd h hp
    omega
  · rcases hne with hp | hp
    · have := of_btw g i3 hp b1; omega
    · have := of_btw g i4 hp b2; omega

theorem btw_dim {p q x y : Int} (hp : p ≠ 0) (h : p * y = x * q) (hb : btw x p) : btw y q := by
  rcases Int.lt_or_lt_of_ne hp with g | g
  · refine btw_of (D := -p) (t := -x) (by omega) (by rw [Int.neg_mul, Int.neg_mul, h]) ?_ ?_ <;> (unfold btw at hb; omega)
  · refine btw_of (D := p) (t := x) g h ?_ ?_ <;> (unfold btw at hb; omega)

theorem ov_one {p u r : Int} (h : ov p u r) : btw u p ∨ btw (u + r) p ∨ (btw (-u) r ∧ r ≠ 0) := by
  unfold ov mn mx at h
  unfold btw
  obtain ⟨h1, h2⟩ := h
  split at h1 <;> split at h1 <;> split at h2 <;> split at h2 <;> omega

/-- All on one line: an end of one edge lies on the other. -/
theorem line_on {p q r s u v : Int} (hne : p ≠ 0 ∨ q ≠ 0) (h0 : p * v = u * q) (h1 : p * s = r * q) (h2 : u * s = r * v) (o1 : ov p u r) (o2 : ov q v s) :
    (btw u p ∧ btw v q) ∨ (btw (u + r) p ∧ btw (v + s) q) ∨ (btw (-u) r ∧ btw (-v) s) := by
  by_cases hp : p = 0
  · subst hp
    have hq : q ≠ 0 := by rcases hne with h | h; exact absurd rfl h; exact h
    have hu : u = 0 := by
      rcases Int.mul_eq_zero.1 (show u * q = 0 by omega) with h | h
      · exact h
      · exact absurd h hq
    have hr : r = 0 := by
      rcases Int.mul_eq_zero.1 (show r * q = 0 by omega) with h | h
      · exact h
      · exact absurd h hq
    subst hu hr
    have z : btw (0 : Int) 0 := .inl ⟨by omega, by omega⟩
    rcases ov_one o2 with h | h | ⟨h, -⟩
    · exact .inl ⟨z, h⟩
    · exact .inr (.inl ⟨z, h⟩)
    · exact .inr (.inr ⟨z, h⟩)
  · rcases ov_one o1 with h | h | ⟨h, hr⟩
    · exact .inl ⟨h, btw_dim hp h0 h⟩
    · refine .inr (.inl ⟨h, btw_dim hp ?_ h⟩)
      rw [Int.mul_add, Int.add_mul, h0, h1]
    · refine .inr (.inr ⟨h, btw_dim hr ?_ h⟩)
      rw [Int.mul_neg, Int.neg_mul, h2]

end Go.Proofs.Ytnijcdphmibjaaa
