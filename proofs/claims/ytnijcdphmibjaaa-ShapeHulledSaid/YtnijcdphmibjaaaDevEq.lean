/- Package shape and the reference find the same polygons simple and convex. -/
import Derived.Test.YtnijcdphmibjaaaDevSame
namespace Go.Proofs.Ytnijcdphmibjaaa

theorem back_rel {p q r s : Int} (h1 : p ≠ 0 ∨ q ≠ 0) (h2 : r ≠ 0 ∨ s ≠ 0) (h : p * s = r * q) : 0 < p * r + q * s ↔ (btw r p ∧ btw s q) ∨ (btw p r ∧ btw q s) := by
  constructor
  · intro hd
    by_cases hp : p = 0
    · subst hp
      have hq : q ≠ 0 := by rcases h1 with h' | h'; exact absurd rfl h'; exact h'
      have hr : r = 0 := by
        rcases Int.mul_eq_zero.1 (show r * q = 0 by omega) with h' | h'
        · exact h'
        · exact absurd h' hq
      subst hr
      have hd' : 0 < q * s := by omega
      have hs : (0 < q ∧ 0 < s) ∨ (q < 0 ∧ s < 0) := by
        rcases Int.lt_trichotomy q 0 with g | g | g
        · right; refine ⟨g, ?_⟩
          rcases Int.lt_or_le s 0 with k | k
          · exact k
          · have := Int.mul_nonpos_of_nonpos_of_nonneg (Int.le_of_lt g) k; omega
        · exact absurd g hq
        · left; refine ⟨g, ?_⟩
          rcases Int.lt_or_le 0 s with k | k
          · exact k
          · have := Int.mul_nonpos_of_nonneg_of_nonpos (Int.le_of_lt g) k; omega
      unfold btw
      omega
    · have hr : r ≠ 0 := by
        intro e; subst e
        have hs : s = 0 := by
          rcases Int.mul_eq_zero.1 (show p * s = 0 by omega) with h' | h'
          · exact absurd h' hp
          · exact h'
        subst hs
        simp at h2
      have k1 : p * (p * r + q * s) = r * (p * p + q * q) := by
        have : q * (p * s) = q * (r * q) := by rw [h]
        grind
      have k2 : 0 < p * p + q * q := by
        have a : 0 < p * p := by
          rcases Int.lt_or_lt_of_ne hp with g | g
          · exact Int.mul_pos_of_neg_of_neg g g
          · exact Int.mul_pos g g
        have b : 0 ≤ q * q := by
          rcases Int.le_total 0 q with g | g
          · exact Int.mul_nonneg g g
          · exact Int.mul_nonneg_of_nonpos_of_nonpos g g
        omega
      generalize p * r + q * s = d at *
      generalize p * p + q * q = f at *
      have hs : (0 < p ∧ 0 < r) ∨ (p < 0 ∧ r < 0) := by
        rcases Int.lt_or_lt_of_ne hp with g | g
        · right; refine ⟨g, ?_⟩
          have := Int.mul_neg_of_neg_of_pos g hd
          rcases Int.lt_or_le r 0 with k | k
          · exact k
          · have := Int.mul_nonneg k (Int.le_of_lt k2); omega
        · left; refine ⟨g, ?_⟩
          have := Int.mul_pos g hd
          rcases Int.lt_or_le 0 r with k | k
          · exact k
          · have := Int.mul_nonpos_of_nonpos_of_nonneg k (Int.le_of_lt k2); omega
      have hb : btw r p ∨ btw p r := by unfold btw; omega
      rcases hb with hb | hb
      · exact .inl ⟨hb, btw_dim hp h hb⟩
      · exact .inr ⟨hb, btw_dim hr h.symm hb⟩
  · have key : ∀ x y : Int, btw x y → 0 ≤ y * x ∧ (y * x = 0 → x = 0) := by
      intro x y hb
      rcases hb with ⟨b1, b2⟩ | ⟨b1, b2⟩
      · refine ⟨Int.mul_nonneg (by omega) b1, fun e => ?_⟩
        rcases Int.mul_eq_zero.1 e with k | k <;> omega
      · refine ⟨Int.mul_nonneg_of_nonpos_of_nonpos (by omega) b2, fun e => ?_⟩
        rcases Int.mul_eq_zero.1 e with k | k <;> omega
    rintro (⟨b1, b2⟩ | ⟨b1, b2⟩)
    · obtain ⟨k1, k2⟩ := key _ _ b1
      obtain ⟨k3, k4⟩ := key _ _ b2
      rcases h2 with g | g <;> omega
    · obtain ⟨k1, k2⟩ := key _ _ b1
      obtain ⟨k3, k4⟩ := key _ _ b2
      rw [Int.mul_comm p r, Int.mul_comm q s]
      rcases h1 with g | g <;> omega

theorem back_same {a b c : Pt} (h1 : eqP a b = false) (h2 : eqP b c = false) : backP a b c = (onP a b c || onP b c a) := by
  obtain ⟨ax, ay⟩ := a
  obtain ⟨bx, by'⟩ := b
  obtain ⟨cx, cy⟩ := c
  obtain ⟨p, rfl⟩ : ∃ p, ax = bx + p := ⟨ax - bx, by omega⟩
  obtain ⟨q, rfl⟩ : ∃ q, ay = by' + q := ⟨ay - by', by omega⟩
  obtain ⟨r, rfl⟩ : ∃ r, cx = bx + r := ⟨cx - bx, by omega⟩
  obtain ⟨s, rfl⟩ : ∃ s, cy = by' + s := ⟨cy - by', by omega⟩
  have g1 : p ≠ 0 ∨ q ≠ 0 := by
    unfold eqP eqI at h1
    rw [Bool.and_eq_false_iff, beq_eq_false_iff_ne, beq_eq_false_iff_ne] at h1
    simp only at h1; omega
  have g2 : r ≠ 0 ∨ s ≠ 0 := by
    unfold eqP eqI at h2
    rw [Bool.and_eq_false_iff, beq_eq_false_iff_ne, beq_eq_false_iff_ne] at h2
    simp only at h2; omega
  have o1 : onB (bx + p) (by' + q) bx by' (bx + r) (by' + s) = true ↔ p * s - r * q = 0 ∧ btw r p ∧ btw s q := by
    have := on_iff (bx + p) (by' + q) (-p) (-q) (r - p) (s - q)
    rw [show bx + p + -p = bx by omega, show by' + q + -q = by' by omega, show bx + p + (r - p) = bx + r by omega, show by' + q + (s - q) = by' + s by omega, show al (-p) (-q) (r - p) (s - q) = -(p * s - r * q) by unfold al; grind] at this
    rw [this]; unfold btw; omega
  have o2 : onB bx by' (bx + r) (by' + s) (bx + p) (by' + q) = true ↔ p * s - r * q = 0 ∧ btw p r ∧ btw q s := by
    rw [on_iff]; unfold al
    exact ⟨fun ⟨e, h⟩ => ⟨by omega, h⟩, fun ⟨e, h⟩ => ⟨by omega, h⟩⟩
  have d1 : (bx + p - bx) * (by' + s - by') - (bx + r - bx) * (by' + q - by') = p * s - r * q := by grind
  have d2 : (bx + p - bx) * (bx + r - bx) + (by' + q - by') * (by' + s - by') = p * r + q * s := by grind
  rw [Bool.eq_iff_iff]
  unfold backP onP backB
  simp only
  rw [Bool.or_eq_true, Bool.and_eq_true, beq_iff_eq, decide_eq_true_eq, o1, o2, d1, d2]
  constructor
  · rintro ⟨e, hd⟩
    rcases (back_rel g1 g2 (by omega)).1 hd with h | h
    · exact .inl ⟨e, h⟩
    · exact .inr ⟨e, h⟩
  · rintro (⟨e, h⟩ | ⟨e, h⟩)
    · exact ⟨e, (back_rel g1 g2 (by omega)).2 (.inl h)⟩
    · exact ⟨e, (back_rel g1 g2 (by omega)).2 (.inr h)⟩

theorem meetP_comm (a b c d : Pt) : meetP a b c d = meetP c d a b := by
  unfold meetP meetB
  generalize onB a.1 a.2 b.1 b.2 c.1 c.2 = o1
  generalize onB a.1 a.2 b.1 b.2 d.1 d.2 = o2
  generalize onB c.1 c.2 d.1 d.2 a.1 a.2 = o3
  generalize onB c.1 c.2 d.1 d.2 b.1 b.2 = o4
  rw [Bool.and_comm]
  cases o1 <;> cases o2 <;> cases o3 <;> cases o4 <;> rfl

theorem eqP_iff {a b : Pt} : eqP a b = true ↔ a = b := by
  obtain ⟨x, y⟩ := a
  obtain ⟨u, v⟩ := b
  simp [eqP, eqI]

theorem simple2B_iff (l : List Pt) : simple2B l = true ↔ ∀ i, i < l.length → zeroAt l i = false ∧ backAt l i = false ∧ ∀ j, j + 2 ≤ i → hit2At l i j = false := by
  unfold simple2B simple2At
  simp only [List.all_eq_true, List.mem_range, Bool.and_eq_true, Bool.not_eq_true', Bool.or_eq_false_iff, Bool.or_eq_true, decide_eq_true_eq]
  constructor
  · intro h i hi
    obtain ⟨⟨a, b⟩, c⟩ := h i hi
    refine ⟨a, b, fun j hj => ?_⟩
    rcases c j (by omega) with k | k
    · omega
    · exact k
  · intro h i hi
    obtain ⟨a, b, c⟩ := h i hi
    refine ⟨⟨a, b⟩, fun j hj => ?_⟩
    by_cases e : i < j + 2
    · exact .inl e
    · exact .inr (c j (by omega))

theorem simpleB_iff (l : List Pt) : simpleB l = true ↔ (∀ i, i < l.length → zeroAt l i = false) ∧ ∀ i, i < l.length → foldAt l i = false ∧ ∀ k, k < l.length → i + 2 ≤ k → hitAt l i k = false := by
  constructor
  · unfold simpleB
    simp only [List.all_eq_true, List.mem_range, Bool.and_eq_true, Bool.not_eq_true', Bool.or_eq_true, decide_eq_true_eq]
    rintro ⟨h1, h2⟩
    refine ⟨h1, fun i hi => ⟨(h2 i hi).1, fun k hk hik => ?_⟩⟩
    rcases (h2 i hi).2 k hk with g | g
    · omega
    · exact g
  · rintro ⟨h1, h2⟩
    exact simpleB_yes h1 (fun j hj => ⟨(h2 j hj).1, fun k hjk hk => (h2 j hj).2 k hk hjk⟩)

theorem zero_next {l : List Pt} (h : ∀ i, i < l.length → zeroAt l i = false) (i : Nat) (hn : 0 < l.length) : eqP (nx l i) (nx l (i + 1)) = false := by
  have := h ((i + 1) % l.length) (Nat.mod_lt _ hn)
  unfold zeroAt at this
  rw [show gt l ((i + 1) % l.length) = nx l i from rfl] at this
  unfold nx at this ⊢
  rwa [Nat.mod_add_mod] at this

theorem hit_same {l : List Pt} {i j : Nat} (hi : i < l.length) (hj : j + 2 ≤ i) (z1 : zeroAt l i = false) (z2 : zeroAt l j = false) : hit2At l i j = hitAt l j i := by
  unfold hit2At hitAt
  rw [meet_same z1 z2, meetP_comm]
  have : (i - j == l.length - 1) = ((i + 1) % l.length == j) := by
    rw [Bool.eq_iff_iff, beq_iff_eq, beq_iff_eq]
    by_cases e : i + 1 = l.length
    · rw [e, Nat.mod_self]; omega
    · rw [Nat.mod_eq_of_lt (by omega)]; omega
  rw [this]

theorem simple_same (l : List Pt) : simple2B l = simpleB l := by
  rw [Bool.eq_iff_iff, simple2B_iff, simpleB_iff]
  constructor
  · intro h
    have hz : ∀ i, i < l.length → zeroAt l i = false := fun i hi => (h i hi).1
    refine ⟨hz, fun i hi => ⟨?_, fun k hk hik => ?_⟩⟩
    · have b := (h i hi).2.1
      unfold backAt at b
      rw [back_same (hz i hi) (zero_next hz i (by omega))] at b
      exact b
    · rw [← hit_same hk hik (hz k hk) (hz i hi)]
      exact (h k hk).2.2 i hik
  · rintro ⟨hz, h⟩ i hi
    refine ⟨hz i hi, ?_, fun j hj => ?_⟩
    · unfold backAt
      rw [back_same (hz i hi) (zero_next hz i (by omega))]
      exact (h i hi).1
    · rw [hit_same hi hj (hz i hi) (hz j (by omega))]
      exact (h j (by omega)).2 i hi hj

theorem cmpQ_first (a b : Pt) : decide (cmpQ a b < 0) = firstP a b := by
  obtain ⟨ax, ay⟩ := a
  obtain ⟨bx, by'⟩ := b
  rw [Bool.eq_iff_iff]
  simp only [cmpQ, cmpP, firstP, firstB, Bool.or_eq_true, Bool.and_eq_true, beq_iff_eq, decide_eq_true_eq]
  unfold orI cmpI
  by_cases h1 : ay < by' <;> by_cases h2 : by' < ay <;> by_cases h3 : ax < bx <;> by_cases h4 : bx < ax <;> simp [h1, h2, h3, h4] <;> omega

theorem onP_start (a b : Pt) : onP a b a = true := by
  obtain ⟨ax, ay⟩ := a
  obtain ⟨bx, by'⟩ := b
  simp only [onP, onB, cross, inB, mn, mx, Bool.and_eq_true, beq_iff_eq, decide_eq_true_eq]
  refine ⟨⟨by grind, ?_, ?_⟩, ?_, ?_⟩ <;> split <;> omega

/-- The first point of a simple polygon is no other one. -/
theorem first_alone {l : List Pt} (h : simpleB l = true) {i : Nat} (h0 : 0 < i) (hi : i < l.length) : gt l 0 ≠ gt l i := by
  intro e
  rw [simpleB_iff] at h
  obtain ⟨hz, hh⟩ := h
  by_cases e1 : i = 1
  · subst e1
    have := hz 0 (by omega)
    unfold zeroAt nx at this
    rw [Nat.zero_add, Nat.mod_eq_of_lt hi, show l.getD 1 (0, 0) = gt l 1 from rfl] at this
    rw [eqP_iff.2 e] at this
    cases this
  · by_cases e2 : i + 1 = l.length
    · have := hz i hi
      unfold zeroAt nx at this
      rw [e2, Nat.mod_self, show l.getD 0 (0, 0) = gt l 0 from rfl] at this
      rw [eqP_iff.2 e.symm] at this
      cases this
    · have := (hh 0 (by omega)).2 i hi (by omega)
      unfold hitAt at this
      rw [Nat.mod_eq_of_lt (by omega), ← e] at this
      have o := onP_start (gt l 0) (nx l 0)
      have m : meetP (gt l 0) (nx l 0) (gt l 0) (nx l i) = true := by
        unfold onP at o
        unfold meetP meetB
        rw [o]; simp
      rw [m] at this
      simp at this

theorem convex_same (l : List Pt) : convex2B l = convexB l := by
  unfold convex2B convexB
  rw [simple_same, Bool.and_comm]
  cases hs : simpleB l
  · rfl
  · rw [Bool.true_and, Bool.true_and, Bool.eq_iff_iff, List.all_eq_true, List.all_eq_true]
    have k : ∀ i, i < l.length → convex2At l i = convexAt l i := by
      intro i hi
      unfold convex2At convexAt
      rw [cmpQ_first, Bool.not_or]
      congr 1
      by_cases e0 : i = 0
      · subst e0
        have : firstP (gt l 0) (gt l 0) = false := by simp [firstP, firstB]
        rw [this]; rfl
      · have ne := first_alone hs (Nat.pos_of_ne_zero e0) hi
        rw [show (i == 0) = false by simp [e0], Bool.false_or]
        generalize gt l 0 = a at *
        generalize gt l i = b at *
        obtain ⟨ax, ay⟩ := a
        obtain ⟨bx, by'⟩ := b
        have ne' : ¬ (ax = bx ∧ ay = by') := fun ⟨e1, e2⟩ => ne (by rw [e1, e2])
        rw [Bool.eq_iff_iff]
        simp only [firstP, firstB, Bool.not_eq_true', Bool.or_eq_false_iff, Bool.or_eq_true, Bool.and_eq_true, Bool.and_eq_false_iff, beq_iff_eq, beq_eq_false_iff_ne, decide_eq_true_eq, decide_eq_false_iff_not]
        omega
    constructor
    · intro h i hi
      rw [← k i (List.mem_range.1 hi)]; exact h i hi
    · intro h i hi
      rw [k i (List.mem_range.1 hi)]; exact h i hi
end Go.Proofs.Ytnijcdphmibjaaa
