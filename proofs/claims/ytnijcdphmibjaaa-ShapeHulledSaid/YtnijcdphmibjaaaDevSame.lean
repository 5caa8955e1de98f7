/- Package shape and the reference find the same: edges that meet or turn back, simple polygons, convex polygons. -/
import Derived.Test.YtnijcdphmibjaaaDevMath
namespace Go.Proofs.Ytnijcdphmibjaaa

theorem mn_spec (a b : Int) : mn a b ≤ a ∧ mn a b ≤ b ∧ (mn a b = a ∨ mn a b = b) := by
  unfold mn; split <;> omega
theorem mx_spec (a b : Int) : a ≤ mx a b ∧ b ≤ mx a b ∧ (mx a b = a ∨ mx a b = b) := by
  unfold mx; split <;> omega
theorem box1 (a p u r : Int) : (mx (mn a (a + p)) (mn (a + u) (a + u + r)) ≤ mn (mx a (a + p)) (mx (a + u) (a + u + r))) ↔ ov p u r := by
  unfold ov
  have h1 := mn_spec a (a + p)
  have h2 := mn_spec (a + u) (a + u + r)
  have h3 := mx_spec a (a + p)
  have h4 := mx_spec (a + u) (a + u + r)
  have h5 := mn_spec 0 p
  have h6 := mx_spec 0 p
  have h7 := mn_spec u (u + r)
  have h8 := mx_spec u (u + r)
  have h9 := mx_spec (mn a (a + p)) (mn (a + u) (a + u + r))
  have h10 := mn_spec (mx a (a + p)) (mx (a + u) (a + u + r))
  generalize mx (mn a (a + p)) (mn (a + u) (a + u + r)) = x1 at *
  generalize mn (mx a (a + p)) (mx (a + u) (a + u + r)) = x2 at *
  generalize mn a (a + p) = x3 at *
  generalize mn (a + u) (a + u + r) = x4 at *
  generalize mx a (a + p) = x5 at *
  generalize mx (a + u) (a + u + r) = x6 at *
  generalize mn 0 p = x7 at *
  generalize mx 0 p = x8 at *
  generalize mn u (u + r) = x9 at *
  generalize mx u (u + r) = x10 at *
  omega
theorem in1 (a p u : Int) : inB (a + u) (mn a (a + p)) (mx a (a + p)) = true ↔ btw u p := by
  rw [inB_true]; unfold btw mn mx; split <;> split <;> omega

theorem box_iff (ax ay p q u v r s : Int) : boxB ax ay (ax + p) (ay + q) (ax + u) (ay + v) (ax + u + r) (ay + v + s) = true ↔ ov p u r ∧ ov q v s := by
  unfold boxB
  rw [Bool.and_eq_true, decide_eq_true_eq, decide_eq_true_eq, box1, box1]
theorem reach_iff (ax ay bx by' cx cy dx dy : Int) : reachB ax ay bx by' cx cy dx dy = true ↔ opp (cross ax ay bx by' cx cy) (cross ax ay bx by' dx dy) := by
  unfold reachB opp
  rw [Bool.and_eq_true, decide_eq_true_eq, decide_eq_true_eq]
theorem on_iff (ax ay p q u v : Int) : onB ax ay (ax + p) (ay + q) (ax + u) (ay + v) = true ↔ al p q u v = 0 ∧ btw u p ∧ btw v q := by
  unfold onB
  rw [Bool.and_eq_true, Bool.and_eq_true, in1, in1, beq_iff_eq]
  have : cross ax ay (ax + p) (ay + q) (ax + u) (ay + v) = al p q u v := by unfold cross al; grind
  rw [this]
  exact and_assoc

theorem sgn_opp {a b : Int} : sgn a * sgn b < 0 ↔ opp a b ∧ a ≠ 0 ∧ b ≠ 0 := by
  rw [opp_iff]
  unfold sgn
  rcases Int.lt_trichotomy a 0 with h | h | h <;> rcases Int.lt_trichotomy b 0 with h' | h' | h'
  all_goals
    first
      | (rw [if_neg (by omega), if_pos (by omega), if_neg (by omega), if_pos (by omega)]; omega)
      | (rw [if_neg (by omega), if_pos (by omega), if_neg (by omega), if_neg (by omega)]; omega)
      | (rw [if_neg (by omega), if_pos (by omega), if_pos (by omega)]; omega)
      | (rw [if_neg (by omega), if_neg (by omega), if_neg (by omega), if_pos (by omega)]; omega)
      | (rw [if_neg (by omega), if_neg (by omega), if_neg (by omega), if_neg (by omega)]; omega)
      | (rw [if_neg (by omega), if_neg (by omega), if_pos (by omega)]; omega)
      | (rw [if_pos (by omega), if_neg (by omega), if_pos (by omega)]; omega)
      | (rw [if_pos (by omega), if_neg (by omega), if_neg (by omega)]; omega)
      | (rw [if_pos (by omega), if_pos (by omega)]; omega)

theorem opp_neg {a b : Int} : opp (-a) (-b) ↔ opp a b := by
  rw [opp_iff, opp_iff]; omega

/-- An end on the other edge's line, where both are reached, is on the edge. -/
theorem on_of_reach {p q r s u v : Int} (hD : p * s - r * q ≠ 0) (h0 : al p q u v = 0) (h2 : opp (u * s - r * v) (r * (q - v) - (p - u) * s)) : btw u p ∧ btw v q := by
  obtain ⟨i1, i2, i3, i4⟩ := cross_ids p q r s u v
  rw [h0, Int.zero_mul, Int.sub_zero] at i3 i4
  rw [opp_iff, ← i2] at h2
  generalize u * s - r * v = c at *
  generalize p * s - r * q = D at *
  rcases Int.lt_or_lt_of_ne hD with g | g
  · exact ⟨btw_of (D := -D) (t := -c) (by omega) (by rw [Int.neg_mul, Int.neg_mul, i3]) (by omega) (by omega), btw_of (D := -D) (t := -c) (by omega) (by rw [Int.neg_mul, Int.neg_mul, i4]) (by omega) (by omega)⟩
  · exact ⟨btw_of g i3 (by omega) (by omega), btw_of g i4 (by omega) (by omega)⟩

theorem meet_rel (p q r s u v : Int) (h1 : p ≠ 0 ∨ q ≠ 0) (h2 : r ≠ 0 ∨ s ≠ 0) :
    (((ov p u r ∧ ov q v s) ∧ opp (al p q u v) (al p q (u + r) (v + s))) ∧ opp (u * s - r * v) (r * (q - v) - (p - u) * s)) ↔
      ((((al p q u v = 0 ∧ btw u p ∧ btw v q) ∨ (al p q (u + r) (v + s) = 0 ∧ btw (u + r) p ∧ btw (v + s) q)) ∨ (u * s - r * v = 0 ∧ btw (-u) r ∧ btw (-v) s)) ∨ (r * (q - v) - (p - u) * s = 0 ∧ btw (p - u) r ∧ btw (q - v) s)) ∨
        ((opp (al p q u v) (al p q (u + r) (v + s)) ∧ al p q u v ≠ 0 ∧ al p q (u + r) (v + s) ≠ 0) ∧ opp (u * s - r * v) (r * (q - v) - (p - u) * s) ∧ u * s - r * v ≠ 0 ∧ r * (q - v) - (p - u) * s ≠ 0) := by
  obtain ⟨i1, i2, i3, i4⟩ := cross_ids p q r s u v
  have e1 : (u + r) * -s - -r * (v + s) = -(u * s - r * v) := by grind
  have e2 : -r * (q - (v + s)) - (p - (u + r)) * -s = -(r * (q - v) - (p - u) * s) := by grind
  have e3 : al r s (-u) (-v) = u * s - r * v := by unfold al; grind
  have e4 : -u * q - p * -v = al p q u v := by unfold al; grind
  have e5 : p * (s - -v) - (r - -u) * q = al p q (u + r) (v + s) := by unfold al; grind
  have e6 : al r s (p - u) (q - v) = r * (q - v) - (p - u) * s := by unfold al; grind
  have e7 : (p - u) * -q - -p * (q - v) = -al p q u v := by unfold al; grind
  have e8 : -p * (s - (q - v)) - (r - (p - u)) * -q = -al p q (u + r) (v + s) := by unfold al; grind
  constructor
  · rintro ⟨⟨⟨o1, o2⟩, op1⟩, op2⟩
    by_cases hD : p * s - r * q = 0
    · rw [hD] at i1 i2
      have a0 : al p q u v = 0 := by rw [i1, opp_iff] at op1; omega
      have c0 : u * s - r * v = 0 := by rw [← i2, opp_iff] at op2; omega
      rcases line_on h1 (show p * v = u * q by unfold al at a0; omega) (by omega) (by omega) o1 o2 with h | h | h
      · exact .inl (.inl (.inl (.inl ⟨a0, h⟩)))
      · exact .inl (.inl (.inl (.inr ⟨by rw [i1, a0]; rfl, h⟩)))
      · exact .inl (.inl (.inr ⟨c0, h⟩))
    · by_cases a0 : al p q u v = 0
      · exact .inl (.inl (.inl (.inl ⟨a0, on_of_reach hD a0 op2⟩)))
      · by_cases b0 : al p q (u + r) (v + s) = 0
        · refine .inl (.inl (.inl (.inr ⟨b0, on_of_reach (r := -r) (s := -s) ?_ b0 ?_⟩)))
          · have : p * -s - -r * q = -(p * s - r * q) := by grind
            omega
          · rw [e1, e2, opp_neg]; exact op2
        · by_cases c0 : u * s - r * v = 0
          · refine .inl (.inl (.inr ⟨c0, on_of_reach (p := r) (q := s) (r := p) (s := q) ?_ (by rw [e3]; exact c0) ?_⟩))
            · have : r * q - p * s = -(p * s - r * q) := by grind
              omega
            · rw [e4, e5]; exact op1
          · by_cases d0 : r * (q - v) - (p - u) * s = 0
            · refine .inl (.inr ⟨d0, on_of_reach (p := r) (q := s) (r := -p) (s := -q) ?_ (by rw [e6]; exact d0) ?_⟩)
              · have : r * -q - -p * s = p * s - r * q := by grind
                omega
              · rw [e7, e8, opp_neg]; exact op1
            · exact .inr ⟨⟨op1, a0, b0⟩, op2, c0, d0⟩
  · rintro ((((⟨a0, b1, b2⟩ | ⟨a0, b1, b2⟩) | ⟨a0, b1, b2⟩) | ⟨a0, b1, b2⟩) | ⟨⟨op1, a0, b0⟩, op2, c0, d0⟩)
    · refine ⟨⟨⟨?_, ?_⟩, ?_⟩, reach_of_on h1 a0 b1 b2⟩
      · unfold ov; have := mn_spec 0 p; have := mx_spec 0 p; have := mn_spec u (u + r); have := mx_spec u (u + r); unfold btw at b1; omega
      · unfold ov; have := mn_spec 0 q; have := mx_spec 0 q; have := mn_spec v (v + s); have := mx_spec v (v + s); unfold btw at b2; omega
      · rw [opp_iff, a0]; omega
    · have k := reach_of_on (r := -r) (s := -s) h1 a0 b1 b2
      rw [e1, e2, opp_neg] at k
      refine ⟨⟨⟨?_, ?_⟩, ?_⟩, k⟩
      · unfold ov; have := mn_spec 0 p; have := mx_spec 0 p; have := mn_spec u (u + r); have := mx_spec u (u + r); unfold btw at b1; omega
      · unfold ov; have := mn_spec 0 q; have := mx_spec 0 q; have := mn_spec v (v + s); have := mx_spec v (v + s); unfold btw at b2; omega
      · rw [opp_iff, a0]; omega
    · have k := reach_of_on (p := r) (q := s) (r := p) (s := q) h2 (by rw [e3]; exact a0) b1 b2
      rw [e4, e5] at k
      refine ⟨⟨⟨?_, ?_⟩, k⟩, by rw [opp_iff, a0]; omega⟩
      · unfold ov; have := mn_spec 0 p; have := mx_spec 0 p; have := mn_spec u (u + r); have := mx_spec u (u + r); unfold btw at b1; omega
      · unfold ov; have := mn_spec 0 q; have := mx_spec 0 q; have := mn_spec v (v + s); have := mx_spec v (v + s); unfold btw at b2; omega
    · have k := reach_of_on (p := r) (q := s) (r := -p) (s := -q) h2 (by rw [e6]; exact a0) b1 b2
      rw [e7, e8, opp_neg] at k
      refine ⟨⟨⟨?_, ?_⟩, k⟩, by rw [opp_iff, a0]; omega⟩
      · unfold ov; have := mn_spec 0 p; have := mx_spec 0 p; have := mn_spec u (u + r); have := mx_spec u (u + r); unfold btw at b1; omega
      · unfold ov; have := mn_spec 0 q; have := mx_spec 0 q; have := mn_spec v (v + s); have := mx_spec v (v + s); unfold btw at b2; omega
    · have hD : p * s - r * q ≠ 0 := by
        intro e
        rw [e] at i1
        rw [i1, opp_iff] at op1
        omega
      exact ⟨⟨boxes_of hD op1 op2, op1⟩, op2⟩

theorem meet_same {a b c d : Pt} (h1 : eqP a b = false) (h2 : eqP c d = false) : meet2P a b c d = meetP a b c d := by
  obtain ⟨ax, ay⟩ := a
  obtain ⟨bx, by'⟩ := b
  obtain ⟨cx, cy⟩ := c
  obtain ⟨dx, dy⟩ := d
  obtain ⟨p, rfl⟩ : ∃ p, bx = ax + p := ⟨bx - ax, by omega⟩
  obtain ⟨q, rfl⟩ : ∃ q, by' = ay + q := ⟨by' - ay, by omega⟩
  obtain ⟨u, rfl⟩ : ∃ u, cx = ax + u := ⟨cx - ax, by omega⟩
  obtain ⟨v, rfl⟩ : ∃ v, cy = ay + v := ⟨cy - ay, by omega⟩
  obtain ⟨r, rfl⟩ : ∃ r, dx = ax + u + r := ⟨dx - ax - u, by omega⟩
  obtain ⟨s, rfl⟩ : ∃ s, dy = ay + v + s := ⟨dy - ay - v, by omega⟩
  have g1 : p ≠ 0 ∨ q ≠ 0 := by
    unfold eqP eqI at h1
    rw [Bool.and_eq_false_iff, beq_eq_false_iff_ne, beq_eq_false_iff_ne] at h1
    simp only at h1; omega
  have g2 : r ≠ 0 ∨ s ≠ 0 := by
    unfold eqP eqI at h2
    rw [Bool.and_eq_false_iff, beq_eq_false_iff_ne, beq_eq_false_iff_ne] at h2
    simp only at h2; omega
  have c1 : cross ax ay (ax + p) (ay + q) (ax + u) (ay + v) = al p q u v := by unfold cross al; grind
  have c2 : cross ax ay (ax + p) (ay + q) (ax + u + r) (ay + v + s) = al p q (u + r) (v + s) := by unfold cross al; grind
  have c3 : cross (ax + u) (ay + v) (ax + u + r) (ay + v + s) ax ay = u * s - r * v := by unfold cross; grind
  have c4 : cross (ax + u) (ay + v) (ax + u + r) (ay + v + s) (ax + p) (ay + q) = r * (q - v) - (p - u) * s := by unfold cross; grind
  have o1 := on_iff ax ay p q u v
  have o2 : onB ax ay (ax + p) (ay + q) (ax + u + r) (ay + v + s) = true ↔ al p q (u + r) (v + s) = 0 ∧ btw (u + r) p ∧ btw (v + s) q := by
    have := on_iff ax ay p q (u + r) (v + s)
    rwa [← Int.add_assoc, ← Int.add_assoc] at this
  have o3 : onB (ax + u) (ay + v) (ax + u + r) (ay + v + s) ax ay = true ↔ u * s - r * v = 0 ∧ btw (-u) r ∧ btw (-v) s := by
    have := on_iff (ax + u) (ay + v) r s (-u) (-v)
    rw [show ax + u + -u = ax by omega, show ay + v + -v = ay by omega, show al r s (-u) (-v) = u * s - r * v by unfold al; grind] at this
    exact this
  have o4 : onB (ax + u) (ay + v) (ax + u + r) (ay + v + s) (ax + p) (ay + q) = true ↔ r * (q - v) - (p - u) * s = 0 ∧ btw (p - u) r ∧ btw (q - v) s := by
    have := on_iff (ax + u) (ay + v) r s (p - u) (q - v)
    rw [show ax + u + (p - u) = ax + p by omega, show ay + v + (q - v) = ay + q by omega, show al r s (p - u) (q - v) = r * (q - v) - (p - u) * s by unfold al; grind] at this
    exact this
  rw [Bool.eq_iff_iff]
  unfold meet2P meetP meet2B meetB
  simp only
  rw [Bool.and_eq_true, Bool.and_eq_true, box_iff, reach_iff, reach_iff, Bool.or_eq_true, Bool.or_eq_true, Bool.or_eq_true, Bool.or_eq_true, Bool.and_eq_true, decide_eq_true_eq, decide_eq_true_eq, sgn_opp, sgn_opp, c1, c2, c3, c4, o1, o2, o3, o4]
  exact meet_rel p q r s u v g1 g2

end Go.Proofs.Ytnijcdphmibjaaa
