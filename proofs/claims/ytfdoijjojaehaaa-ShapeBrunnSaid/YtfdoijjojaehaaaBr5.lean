/- Parts of the proof, one after the other: HullInt, NoFitMath, PickMath, Span, Spiral, ConvOf, Mixed. -/
import Derived.Test.YtfdoijjojaehaaaBr4
import Derived.Test.YtfdoijjojaehaaaBr2
/- Shape: a point is in the interior of a convex polygon exactly if it is to the left of all edges. -/
namespace Go.Proofs.Ytfdoijjojaehaaa

/-- To the left of all edges. -/
def Inner (K : List Pt) (p : Pt) : Prop := ∀ x, 0 < crossP (vtx K x) (vtx K (x + 1)) p

theorem vtx_mod (K : List Pt) (x : Nat) : vtx K (x % K.length) = vtx K x := by unfold vtx; rw [Nat.mod_mod]
theorem vtx_mod1 (K : List Pt) (x : Nat) : vtx K (x % K.length + 1) = vtx K (x + 1) := by unfold vtx; rw [Nat.mod_add_mod]

theorem first_down (f : Nat → Int) (y : Int) (a : Nat) (ha : y < f a) : ∀ n, f (a + n) ≤ y → ∃ m, a ≤ m ∧ m < a + n ∧ y < f m ∧ f (m + 1) ≤ y
  | 0, h => by rw [Nat.add_zero] at h; omega
  | n + 1, h => by
    rcases Int.lt_or_le y (f (a + n)) with g | g
    · exact ⟨a + n, by omega, by omega, g, h⟩
    · obtain ⟨m, m1, m2, m3⟩ := first_down f y a ha n g
      exact ⟨m, m1, by omega, m3⟩
theorem first_up (f : Nat → Int) (y : Int) (a : Nat) (ha : f a ≤ y) : ∀ n, y < f (a + n) → ∃ m, a ≤ m ∧ m < a + n ∧ f m ≤ y ∧ y < f (m + 1)
  | 0, h => by rw [Nat.add_zero] at h; omega
  | n + 1, h => by
    rcases Int.lt_or_le y (f (a + n)) with g | g
    · obtain ⟨m, m1, m2, m3⟩ := first_up f y a ha n g
      exact ⟨m, m1, by omega, m3⟩
    · exact ⟨a + n, by omega, by omega, g, h⟩

theorem left2_iff (K : List Pt) (p : Pt) (i : Nat) : left2At K p i = true ↔
    ((gt K i).2 ≤ p.2 ∧ p.2 < (nx K i).2 ∧ 0 < crossP (gt K i) (nx K i) p) ∨ ((nx K i).2 ≤ p.2 ∧ p.2 < (gt K i).2 ∧ crossP (gt K i) (nx K i) p ≤ 0) := by
  unfold left2At leftB
  rw [show cross (gt K i).1 (gt K i).2 (nx K i).1 (nx K i).2 p.1 p.2 = crossP (gt K i) (nx K i) p from rfl]
  generalize crossP (gt K i) (nx K i) p = c
  generalize (gt K i).2 = u
  generalize (nx K i).2 = v
  by_cases g1 : p.2 < u <;> by_cases g2 : p.2 < v <;> by_cases g3 : u < v <;> by_cases g4 : 0 < c <;> simp [g1, g2, g3, g4] <;> omega

theorem two_down {a b c d : Pt} {y : Int} (h1 : b.2 ≤ y) (h2 : y < a.2) (h3 : d.2 ≤ y) (h4 : y < c.2) (k1 : 0 ≤ crossP a b c) (k2 : 0 ≤ crossP a b d) (k3 : 0 ≤ crossP c d a) (k4 : 0 ≤ crossP c d b) : crossP a b d = 0 := by
  have n1 : 0 ≤ (y - d.2) * crossP a b c := Int.mul_nonneg (by omega) k1
  have n2 : 0 ≤ (c.2 - y) * crossP a b d := Int.mul_nonneg (by omega) k2
  have n3 : 0 ≤ (y - b.2) * crossP c d a := Int.mul_nonneg (by omega) k3
  have n4 : 0 ≤ (a.2 - y) * crossP c d b := Int.mul_nonneg (by omega) k4
  have id : (y - d.2) * crossP a b c + (c.2 - y) * crossP a b d + ((y - b.2) * crossP c d a + (a.2 - y) * crossP c d b) = 0 := by unfold crossP cross; grind
  have z : (c.2 - y) * crossP a b d = 0 := by omega
  exact (Int.mul_eq_zero.1 z).resolve_left (by omega)

/-- Only one edge goes up across a height, and only one goes down. -/
theorem Conv.one_up {K : List Pt} {k0 : Pt} (c : Conv K k0) {y : Int} {i j : Nat} (hi : i < K.length) (hj : j < K.length) (a1 : (gt K i).2 ≤ y) (a2 : y < (nx K i).2) (b1 : (gt K j).2 ≤ y) (b2 : y < (nx K j).2) : i = j := by
  have Ei := c.hull.edge i hi
  have Ej := c.hull.edge j hj
  have z := two_up a1 a2 b1 b2 (Ei.ok _ Ej.fst).nonneg (Ei.ok _ Ej.snd).nonneg (Ej.ok _ Ei.fst).nonneg (Ej.ok _ Ei.snd).nonneg
  have on : onP (gt K i) (nx K i) (gt K j) = true := (Ei.ok _ Ej.fst).resolve_left (by omega)
  rcases hedge_between Ei Ej on with q | q
  · exact (hull_inj c.hull hj hi q).symm
  · rw [q] at b1; omega
theorem Conv.one_down {K : List Pt} {k0 : Pt} (c : Conv K k0) {y : Int} {i j : Nat} (hi : i < K.length) (hj : j < K.length) (a1 : (nx K i).2 ≤ y) (a2 : y < (gt K i).2) (b1 : (nx K j).2 ≤ y) (b2 : y < (gt K j).2) : i = j := by
  have Ei := c.hull.edge i hi
  have Ej := c.hull.edge j hj
  have z := two_down a1 a2 b1 b2 (Ei.ok _ Ej.fst).nonneg (Ei.ok _ Ej.snd).nonneg (Ej.ok _ Ei.fst).nonneg (Ej.ok _ Ei.snd).nonneg
  have on : onP (gt K i) (nx K i) (nx K j) = true := (Ei.ok _ Ej.snd).resolve_left (by omega)
  have E3 : Hedge K (nx K j) (vtx K (j + 1 + 1)) := c.hull.edgeV (j + 1)
  rcases hedge_between Ei E3 on with q | q
  · rw [q] at b1; omega
  · have three := c.three
    have e := hull_inj c.hull (Nat.mod_lt _ (by omega)) (Nat.mod_lt _ (by omega)) (show gt K ((j + 1) % K.length) = gt K ((i + 1) % K.length) from q)
    by_cases g1 : i + 1 = K.length
    · by_cases g2 : j + 1 = K.length
      · omega
      · rw [g1, Nat.mod_self, Nat.mod_eq_of_lt (by omega)] at e; omega
    · by_cases g2 : j + 1 = K.length
      · rw [g2, Nat.mod_self, Nat.mod_eq_of_lt (by omega)] at e; omega
      · rw [Nat.mod_eq_of_lt (by omega), Nat.mod_eq_of_lt (by omega)] at e; omega

theorem inner_off {K : List Pt} {p : Pt} (h : Inner K p) (j : Nat) (hj : j < K.length) : on2At K p j = false := by
  cases e : on2At K p j
  · rfl
  · unfold on2At at e
    have z := onP_cross e
    have k := h j
    rw [vtx_lt hj, ← vtx_nx] at k
    omega

/-- A POINT TO THE LEFT OF ALL EDGES IS IN THE INTERIOR. -/
theorem inner_where {K : List Pt} {k0 p : Pt} (c : Conv K k0) (h : Inner K p) : whereD K p = 1 := by
  have three := c.three
  have pos : ∀ i, i < K.length → 0 < crossP (gt K i) (nx K i) p := fun i hi => by
    have := h i
    rwa [vtx_lt hi, ← vtx_nx] at this
  rw [whereD_off (inner_off h)]
  have up : ∀ i, i < K.length → (left2At K p i = true ↔ (gt K i).2 ≤ p.2 ∧ p.2 < (nx K i).2) := fun i hi => by
    rw [left2_iff]
    have := pos i hi
    omega
  have some_up : ∃ m, m < K.length ∧ left2At K p m = true := by
    obtain ⟨k, hk, htop⟩ := top_of (vtx K) K.length (by omega)
    have topV : ∀ x, leP (vtx K x) (vtx K k) := fun x => by
      have := htop (x % K.length) (Nat.mod_lt _ (by omega))
      rwa [vtx_mod] at this
    have le2 : ∀ {a b : Pt}, leP a b → a.2 ≤ b.2 := fun {a b} h => by
      rcases h with rfl | h
      · exact Int.le_refl _
      · unfold ltP at h; omega
    have corner : ∀ x, 0 < xr (subP (vtx K (x + 1)) (vtx K x)) (subP p (vtx K (x + 1))) ∧ 0 < xr (subP (vtx K (x + 1 + 1)) (vtx K (x + 1))) (subP p (vtx K (x + 1))) ∧ 0 < xr (subP (vtx K (x + 1)) (vtx K x)) (subP (vtx K (x + 1 + 1)) (vtx K (x + 1))) := fun x => by
      refine ⟨?_, ?_, c.turn x⟩
      · have := h x; rwa [crossP_xr2] at this
      · have := h (x + 1); rwa [crossP_xr] at this
    have hhi : p.2 < (vtx K k).2 := by
      apply Classical.byContradiction
      intro hno
      have e1 : vtx K (k + K.length - 1 + 1) = vtx K k := by rw [show k + K.length - 1 + 1 = k + K.length by omega]; exact vtx_add K k
      have e2 : vtx K (k + K.length - 1 + 1 + 1) = vtx K (k + 1) := by rw [show k + K.length - 1 + 1 + 1 = k + 1 + K.length by omega]; exact vtx_add K (k + 1)
      obtain ⟨c1, c2, c3⟩ := corner (k + K.length - 1)
      rw [e1] at c1 c2 c3
      rw [e2] at c2 c3
      have f1 := le2 (topV (k + K.length - 1))
      have f2 := le2 (topV (k + 1))
      unfold xr subP at c1 c2 c3
      simp only at c1 c2 c3
      exact no_top (a2 := (vtx K k).2 - (vtx K (k + K.length - 1)).2) (b2 := (vtx K (k + 1)).2 - (vtx K k).2) (q2 := p.2 - (vtx K k).2) (by omega) (by omega) (by omega) c1 c2 c3
    have h0 : (vtx K 0).2 ≤ p.2 := by
      apply Classical.byContradiction
      intro hno
      have e1 : vtx K (K.length - 1 + 1) = vtx K 0 := by
        have := vtx_add K 0
        rwa [Nat.zero_add, show K.length = K.length - 1 + 1 by omega] at this
      have e2 : vtx K (K.length - 1 + 1 + 1) = vtx K 1 := by
        have := vtx_add K 1
        rwa [show 1 + K.length = K.length - 1 + 1 + 1 by omega] at this
      obtain ⟨c1, c2, c3⟩ := corner (K.length - 1)
      rw [e1] at c1 c2 c3
      rw [e2] at c2 c3
      have v0 : vtx K 0 = k0 := c.hull.vtx0
      have f1 := le2 (c.low _ (c.vmem (K.length - 1)))
      have f2 := le2 (c.low _ (c.vmem 1))
      rw [← v0] at f1 f2
      generalize vtx K (K.length - 1) = r at *
      generalize vtx K 1 = s at *
      generalize vtx K 0 = o at *
      unfold xr subP at c1 c2 c3
      simp only at c1 c2 c3
      refine no_top (a1 := r.1 - o.1) (a2 := r.2 - o.2) (b1 := o.1 - s.1) (b2 := o.2 - s.2) (q1 := o.1 - p.1) (q2 := o.2 - p.2) (by omega) (by omega) (by omega) ?_ ?_ ?_
      · grind
      · grind
      · grind
    obtain ⟨m, m1, m2, m3, m4⟩ := first_up (fun x => (vtx K x).2) p.2 0 h0 k (by simpa using hhi)
    have hm : m < K.length := by omega
    exact ⟨m, hm, (up m hm).2 ⟨by rw [← vtx_lt hm]; exact m3, m4⟩⟩
  obtain ⟨m, hm, em⟩ := some_up
  have all : ∀ i, i < K.length → left2At K p i = decide (i = m) := fun i hi => by
    by_cases e : i = m
    · rw [e, em, decide_eq_true rfl]
    · rw [decide_eq_false e]
      cases q : left2At K p i
      · rfl
      · exact absurd (c.one_up hi hm ((up i hi).1 q).1 ((up i hi).1 q).2 ((up m hm).1 em).1 ((up m hm).1 em).2) e
  rw [side_one all K.length (Nat.le_refl _), if_pos hm]

theorem side_none {l : List Pt} {p : Pt} (h : ∀ i, i < l.length → left2At l p i = false) : ∀ k, k ≤ l.length → sideTo l p k = -1
  | 0, _ => rfl
  | k + 1, hk => by
    unfold sideTo
    rw [h k (by omega), if_neg (by simp), side_none h k (by omega)]
theorem side_two {l : List Pt} {p : Pt} {m n : Nat} (hmn : m ≠ n) (h : ∀ i, i < l.length → left2At l p i = (decide (i = m) || decide (i = n))) : ∀ k, k ≤ l.length → sideTo l p k = if m < k then (if n < k then -1 else 1) else (if n < k then 1 else -1)
  | 0, _ => by rw [if_neg (by omega), if_neg (by omega)]; rfl
  | k + 1, hk => by
    have ih := side_two hmn h k (by omega)
    unfold sideTo
    rw [h k (by omega), ih]
    by_cases e : k = m
    · have e2 : ¬ k = n := by omega
      by_cases g : n < k
      · simp [e, hmn, show ¬ m < m by omega, show n < m by omega, show n < m + 1 by omega]
      · simp [e, hmn, show ¬ m < m by omega, show ¬ n < m by omega, show ¬ n < m + 1 by omega]
    · by_cases e2 : k = n
      · by_cases g : m < k
        · simp [e2, show ¬ n = m by omega, show m < n by omega, show m < n + 1 by omega]
        · simp [e2, show ¬ n = m by omega, show ¬ m < n by omega, show ¬ m < n + 1 by omega]
      · have a1 : (m < k + 1) ↔ m < k := by omega
        have a2 : (n < k + 1) ↔ n < k := by omega
        simp [e, e2, a1, a2]

/-- Between the edge that goes up at its height and the one that goes down: to the left of all, or on one. -/
theorem between_inner {K : List Pt} {k0 p : Pt} (c : Conv K k0) (off : ∀ j, j < K.length → on2At K p j = false) {u d : Nat} (hu : u < K.length) (hd : d < K.length)
    (u1 : (gt K u).2 ≤ p.2) (u2 : p.2 < (nx K u).2) (d1 : (nx K d).2 ≤ p.2) (d2 : p.2 < (gt K d).2) (cu : 0 < crossP (gt K u) (nx K u) p) (cd : 0 < crossP (gt K d) (nx K d) p) : Inner K p := fun x => by
  have three := c.three
  have E := c.hull.edgeV x
  have Eu := c.hull.edge u hu
  have Ed := c.hull.edge d hd
  have offx := off (x % K.length) (Nat.mod_lt _ (by omega))
  unfold on2At at offx
  rw [vtx_nx, ← vtx_lt (Nat.mod_lt _ (by omega)), vtx_mod, vtx_mod1] at offx
  have fa := E.ok _ Eu.fst
  have fb := E.ok _ Eu.snd
  have fc := E.ok _ Ed.fst
  have fd := E.ok _ Ed.snd
  have ne := E.ne
  generalize vtx K x = s at *
  generalize vtx K (x + 1) = t at *
  generalize gt K u = a at *
  generalize nx K u = b at *
  generalize gt K d = e at *
  generalize nx K d = f at *
  have idu : (b.2 - a.2) * crossP s t p = (b.2 - p.2) * crossP s t a + (p.2 - a.2) * crossP s t b + (t.2 - s.2) * crossP a b p := by unfold crossP cross; grind
  have idd : (e.2 - f.2) * crossP s t p = (p.2 - f.2) * crossP s t e + (e.2 - p.2) * crossP s t f + (s.2 - t.2) * crossP e f p := by unfold crossP cross; grind
  have n1 := Int.mul_nonneg (show 0 ≤ b.2 - p.2 by omega) fa.nonneg
  have n2 := Int.mul_nonneg (show 0 ≤ p.2 - a.2 by omega) fb.nonneg
  have n3 := Int.mul_nonneg (show 0 ≤ p.2 - f.2 by omega) fc.nonneg
  have n4 := Int.mul_nonneg (show 0 ≤ e.2 - p.2 by omega) fd.nonneg
  rcases Int.lt_trichotomy s.2 t.2 with g | g | g
  · have := Int.mul_pos (show 0 < t.2 - s.2 by omega) cu
    exact pos_of_mul (show 0 < b.2 - a.2 by omega) idu (by omega)
  · rw [show t.2 - s.2 = 0 by omega, Int.zero_mul] at idu
    rw [show s.2 - t.2 = 0 by omega, Int.zero_mul] at idd
    have ge : 0 ≤ crossP s t p := nonneg_of_mul (show 0 < b.2 - a.2 by omega) idu (by omega)
    rcases Int.lt_or_eq_of_le ge with q | q
    · exact q
    · exfalso
      rw [← q, Int.mul_zero] at idu idd
      have za : crossP s t a = 0 := (Int.mul_eq_zero.1 (show (b.2 - p.2) * crossP s t a = 0 by omega)).resolve_left (by omega)
      have zf : crossP s t f = 0 := (Int.mul_eq_zero.1 (show (e.2 - p.2) * crossP s t f = 0 by omega)).resolve_left (by omega)
      have oa : onP s t a = true := fa.resolve_left (by omega)
      have of' : onP s t f = true := fd.resolve_left (by omega)
      have flat : ∀ z : Pt, crossP s t z = (t.1 - s.1) * (z.2 - s.2) := fun z => by
        unfold crossP cross
        rw [show t.2 - s.2 = 0 by omega, Int.mul_zero, Int.sub_zero]
      have hts : t.1 - s.1 ≠ 0 := fun h => ne (Prod.ext (by omega) g)
      have ya : a.2 = s.2 := by rw [flat] at za; have := (Int.mul_eq_zero.1 za).resolve_left hts; omega
      have yf : f.2 = s.2 := by rw [flat] at zf; have := (Int.mul_eq_zero.1 zf).resolve_left hts; omega
      have yp : p.2 = s.2 := by rw [flat] at q; have := (Int.mul_eq_zero.1 q.symm).resolve_left hts; omega
      have xa : p.1 < a.1 := by
        have e1 : crossP a b p = (a.1 - p.1) * (b.2 - a.2) := by
          unfold crossP cross
          rw [show p.2 - a.2 = 0 by omega, Int.mul_zero]; grind
        rw [e1] at cu
        rcases Int.lt_or_le p.1 a.1 with h | h
        · exact h
        · have := Int.mul_nonpos_of_nonpos_of_nonneg (show a.1 - p.1 ≤ 0 by omega) (show 0 ≤ b.2 - a.2 by omega)
          omega
      have xf : f.1 < p.1 := by
        have e1 : crossP e f p = (p.1 - f.1) * (e.2 - f.2) := by
          have : p.2 = f.2 := by omega
          unfold crossP cross
          rw [this]; grind
        rw [e1] at cd
        rcases Int.lt_or_le f.1 p.1 with h | h
        · exact h
        · have := Int.mul_nonpos_of_nonpos_of_nonneg (show p.1 - f.1 ≤ 0 by omega) (show 0 ≤ e.2 - f.2 by omega)
          omega
      rw [onP_iff] at oa of'
      have hon : onP s t p = true := by
        rw [onP_iff]
        obtain ⟨-, o1, -⟩ := oa
        obtain ⟨-, o2, -⟩ := of'
        refine ⟨?_, ?_, ?_⟩
        · unfold al
          rw [show p.2 - s.2 = 0 by omega, show t.2 - s.2 = 0 by omega]; simp
        · unfold btw at *; omega
        · unfold btw; omega
      rw [hon] at offx; cases offx
  · have := Int.mul_pos (show 0 < s.2 - t.2 by omega) cd
    exact pos_of_mul (show 0 < e.2 - f.2 by omega) idd (by omega)

/-- A POINT IN THE INTERIOR IS TO THE LEFT OF ALL EDGES. -/
theorem where_inner {K : List Pt} {k0 p : Pt} (c : Conv K k0) (h : whereD K p = 1) : Inner K p := by
  have three := c.three
  have off : ∀ j, j < K.length → on2At K p j = false := fun j hj => by
    cases e : on2At K p j
    · rfl
    · rw [whereD_on hj e] at h; cases h
  rw [whereD_off off] at h
  by_cases hU : ∃ u, u < K.length ∧ (gt K u).2 ≤ p.2 ∧ p.2 < (nx K u).2
  · obtain ⟨u, hu, u1, u2⟩ := hU
    obtain ⟨d, hd, d1, d2⟩ : ∃ d, d < K.length ∧ (nx K d).2 ≤ p.2 ∧ p.2 < (gt K d).2 := by
      obtain ⟨m, -, -, m3, m4⟩ := first_down (fun x => (vtx K x).2) p.2 (u + 1) u2 (K.length - 1) (by
        show (vtx K (u + 1 + (K.length - 1))).2 ≤ p.2
        rw [show u + 1 + (K.length - 1) = u + K.length by omega, vtx_add, vtx_lt hu]; exact u1)
      refine ⟨m % K.length, Nat.mod_lt _ (by omega), ?_, ?_⟩
      · rw [vtx_nx, vtx_mod1]; exact m4
      · rw [← vtx_lt (Nat.mod_lt _ (by omega)), vtx_mod]; exact m3
    have hud : u ≠ d := by intro e; subst e; omega
    have only : ∀ i, i < K.length → left2At K p i = true → i = u ∨ i = d := fun i hi e => by
      rcases (left2_iff K p i).1 e with ⟨a, b, _⟩ | ⟨a, b, _⟩
      · exact .inl (c.one_up hi hu a b u1 u2)
      · exact .inr (c.one_down hi hd a b d1 d2)
    by_cases cu : 0 < crossP (gt K u) (nx K u) p
    · by_cases cd : 0 < crossP (gt K d) (nx K d) p
      · exact between_inner c off hu hd u1 u2 d1 d2 cu cd
      · exfalso
        have all : ∀ i, i < K.length → left2At K p i = (decide (i = u) || decide (i = d)) := fun i hi => by
          by_cases e1 : i = u
          · subst e1; rw [(left2_iff K p i).2 (.inl ⟨u1, u2, cu⟩)]; simp
          · by_cases e2 : i = d
            · subst e2; rw [(left2_iff K p i).2 (.inr ⟨d1, d2, by omega⟩)]; simp
            · cases e : left2At K p i
              · simp [e1, e2]
              · rcases only i hi e with q | q
                · exact absurd q e1
                · exact absurd q e2
        rw [side_two hud all K.length (Nat.le_refl _), if_pos hu, if_pos hd] at h
        cases h
    · by_cases cd : 0 < crossP (gt K d) (nx K d) p
      · exfalso
        have all : ∀ i, i < K.length → left2At K p i = false := fun i hi => by
          cases e : left2At K p i
          · rfl
          · rcases only i hi e with q | q
            · subst q
              rcases (left2_iff K p i).1 e with ⟨_, _, x⟩ | ⟨x, y, _⟩
              · exact absurd x cu
              · omega
            · subst q
              rcases (left2_iff K p i).1 e with ⟨x, y, _⟩ | ⟨_, _, x⟩
              · omega
              · omega
        rw [side_none all K.length (Nat.le_refl _)] at h
        cases h
      · exfalso
        -- to the right of the edge that goes up, to the left of the one that goes down: on the first
        have Eu := c.hull.edge u hu
        have Ed := c.hull.edge d hd
        have k1 := (Eu.ok _ Ed.fst).nonneg
        have k2 := (Eu.ok _ Ed.snd).nonneg
        have o := off u hu
        unfold on2At at o
        generalize gt K u = a at *
        generalize nx K u = b at *
        generalize gt K d = e at *
        generalize nx K d = f at *
        have id : (e.2 - f.2) * crossP a b p = (p.2 - f.2) * crossP a b e + (e.2 - p.2) * crossP a b f + (b.2 - a.2) * (- crossP e f p) := by unfold crossP cross; grind
        have n1 := Int.mul_nonneg (show 0 ≤ p.2 - f.2 by omega) k1
        have n2 := Int.mul_nonneg (show 0 ≤ e.2 - p.2 by omega) k2
        have n3 := Int.mul_nonneg (show 0 ≤ b.2 - a.2 by omega) (show 0 ≤ - crossP e f p by omega)
        have ge : 0 ≤ crossP a b p := nonneg_of_mul (show 0 < e.2 - f.2 by omega) id (by omega)
        have z : crossP a b p = 0 := by omega
        have hon : onP a b p = true := by
          rcases Int.lt_or_eq_of_le u1 with g | g
          · exact on_of_between z (.inr (.inl g)) (.inr (.inl u2))
          · have e1 : crossP a b p = (a.1 - p.1) * (b.2 - a.2) := by
              unfold crossP cross
              rw [show p.2 - a.2 = 0 by omega, Int.mul_zero]; grind
            rw [z] at e1
            have := (Int.mul_eq_zero.1 e1.symm).resolve_right (by omega)
            exact on_of_between z (.inl (Prod.ext (by omega) g)) (.inr (.inl u2))
        rw [hon] at o; cases o
  · exfalso
    have noU : ∀ i, i < K.length → ¬ ((gt K i).2 ≤ p.2 ∧ p.2 < (nx K i).2) := fun i hi q => hU ⟨i, hi, q⟩
    have all : ∀ i, i < K.length → left2At K p i = false := fun i hi => by
      cases e : left2At K p i
      · rfl
      · exfalso
        rcases (left2_iff K p i).1 e with ⟨a, b, _⟩ | ⟨a, b, _⟩
        · exact noU i hi ⟨a, b⟩
        · -- what goes down goes up again
          obtain ⟨m, -, -, m3, m4⟩ := first_up (fun x => (vtx K x).2) p.2 (i + 1) a (K.length - 1) (by
            show p.2 < (vtx K (i + 1 + (K.length - 1))).2
            rw [show i + 1 + (K.length - 1) = i + K.length by omega, vtx_add, vtx_lt hi]; exact b)
          refine noU (m % K.length) (Nat.mod_lt _ (by omega)) ⟨?_, ?_⟩
          · rw [← vtx_lt (Nat.mod_lt _ (by omega)), vtx_mod]; exact m3
          · rw [vtx_nx, vtx_mod1]; exact m4
    rw [side_none all K.length (Nat.le_refl _)] at h
    cases h

end Go.Proofs.Ytfdoijjojaehaaa

/- Shape: convex polygons overlap exactly if the vector is in the interior of the sum of the one and the other's negative. -/
namespace Go.Proofs.Ytfdoijjojaehaaa

theorem Dir.pos {u v w : Pt} (h : Dir u v) : 0 < Go.Proofs.Ytfdoijjojaehaaa.xr u w ↔ 0 < Go.Proofs.Ytfdoijjojaehaaa.xr v w := by
  obtain ⟨p, q, hp, hq, e⟩ := h.xr
  have e := e w
  constructor
  · intro k; exact pos_of_mul hq e.symm (Int.mul_pos hp k)
  · intro k; exact pos_of_mul hp e (Int.mul_pos hq k)

theorem mpt_cross {a b : List Pt} (k : Nat) (v : Pt) (K : List Pt) {a0 b0 : Pt} (ca : Conv a a0) (cb : Conv b b0) (h : Hull (sums a b) K (sumP a0 b0)) :
    crossP (vtx K k) (vtx K (k + 1)) v = xr (ev K k) (subP v (sumP (vtx a (mst a b k).1) (vtx b (mst a b k).2))) := by
  rw [crossP_xr, ← merge_hull ca cb h k]
  unfold ev
  rw [← merge_hull ca cb h k]
  rfl

/-- The corners of the negatives' hull, one after the other. -/
theorem neg_steps {P K : List Pt} {a0 k0 : Pt} (ca : Conv P a0) (h : Hull (P.map negP) K k0) : ∃ t, ∀ k, vtx K k = negP (vtx P (t + k)) := by
  have two := h.two
  have hk : k0 ∈ P.map negP := by
    have := (h.edge 0 (by omega)).fst
    rwa [h.first] at this
  obtain ⟨q0, hq0, e0⟩ := List.mem_map.1 hk
  obtain ⟨t, ht, et⟩ := List.getElem_of_mem hq0
  refine ⟨t, fun k => ?_⟩
  induction k with
  | zero => rw [h.vtx0, Nat.add_zero, vtx_lt ht, gt_of (List.getElem?_eq_getElem ht), et, e0]
  | succ k ih =>
    have e1 := h.edgeV k
    have e2 := (ca.hull.edgeV (t + k)).neg
    rw [ih] at e1
    exact hedge_next e1 e2

/-- Does one polygon lie beyond an edge of the other? -/
theorem beyond_iff {a r : List Pt} (h : 0 < a.length) : beyondB a r = true ↔ ∃ i, ∀ z ∈ r, crossP (vtx a i) (vtx a (i + 1)) z ≤ 0 := by
  unfold beyondB
  rw [List.any_eq_true]
  constructor
  · rintro ⟨i, hi, e⟩
    have hi := List.mem_range.1 hi
    refine ⟨i, fun z hz => ?_⟩
    unfold beyondAt anyLeft at e
    rw [Bool.not_eq_true', List.any_eq_false] at e
    have := e z hz
    unfold leftQ at this
    rw [vtx_lt hi, ← vtx_nx]
    simpa using this
  · rintro ⟨i, e⟩
    refine ⟨i % a.length, List.mem_range.2 (Nat.mod_lt _ h), ?_⟩
    unfold beyondAt anyLeft
    rw [Bool.not_eq_true', List.any_eq_false]
    intro z hz
    have := e z hz
    rw [← vtx_mod, ← vtx_mod1, vtx_lt (Nat.mod_lt _ h), ← vtx_nx] at this
    unfold leftQ
    simpa using this
theorem beyond_not {a r : List Pt} (h : 0 < a.length) : beyondB a r = false ↔ ∀ i, ∃ z ∈ r, 0 < crossP (vtx a i) (vtx a (i + 1)) z := by
  constructor
  · intro e i
    apply Classical.byContradiction
    intro g
    have : beyondB a r = true := (beyond_iff h).2 ⟨i, fun z hz => by
      rcases Int.lt_or_le 0 (crossP (vtx a i) (vtx a (i + 1)) z) with q | q
      · exact absurd ⟨z, hz, q⟩ g
      · exact q⟩
    rw [e] at this; cases this
  · intro e
    cases q : beyondB a r
    · rfl
    · obtain ⟨i, hi⟩ := (beyond_iff h).1 q
      obtain ⟨z, hz, g⟩ := e i
      have := hi z hz
      omega

theorem vtx_movedL (b : List Pt) (v : Pt) (i : Nat) (h : 0 < b.length) : vtx (movedL b v) i = addP (vtx b i) v := by
  have hm : i % b.length < b.length := Nat.mod_lt _ h
  unfold vtx
  rw [movedL_length]
  unfold gt movedL
  rw [List.getD_eq_getElem?_getD, List.getD_eq_getElem?_getD, List.getElem?_map, List.getElem?_eq_getElem hm]
  rfl

theorem ev_neg (P K : List Pt) (t k m : Nat) (h : ∀ k, vtx K k = negP (vtx P (t + k))) (e : t + k = m) : ev K k = negP (ev P m) := by
  subst e
  unfold ev
  rw [h k, h (k + 1)]
  unfold negP subP
  rw [show t + k + 1 = t + (k + 1) by omega]
  simp only [Prod.mk.injEq]; omega

/-- OVERLAP AND INTERIOR. -/
theorem overlap_inner {a b n K : List Pt} {a0 b0 n0 v : Pt} (ca : Conv a a0) (cb : Conv b b0) (hn : Hull (b.map negP) n n0) (cn : Conv n n0) (h : Hull (sums a n) K (sumP a0 n0)) (cK : Conv K (sumP a0 n0)) :
    apartB a (movedL b v) = false ↔ Inner K v := by
  have la : 0 < a.length := by have := ca.three; omega
  have lb : 0 < b.length := by have := cb.three; omega
  have ln : 0 < n.length := by have := cn.three; omega
  have lm : 0 < (movedL b v).length := by rw [movedL_length]; exact lb
  obtain ⟨t, ht⟩ := neg_steps cb hn
  unfold apartB
  rw [Bool.or_eq_false_iff, beyond_not la, beyond_not lm]
  constructor
  · rintro ⟨h1, h2⟩ k
    rw [mpt_cross k v K ca cn h]
    obtain ⟨d, sw⟩ := sweep_at ca cn k
    by_cases g : goesA a n k
    · rw [(dir_A ca cn h g).pos]
      unfold goesA at g
      generalize (mst a n k).1 = i at *
      generalize (mst a n k).2 = j at *
      obtain ⟨z, hz, q⟩ := h1 i
      obtain ⟨y, hy, rfl⟩ := List.mem_map.1 hz
      have s := sw.side ca cn g ((hull_neg_mem cb hn (negP y)).2 (List.mem_map.2 ⟨y, hy, rfl⟩))
      rw [crossP_xr] at q
      have id : xr (ev a i) (subP v (sumP (vtx a i) (vtx n j))) = xr (subP (vtx a (i + 1)) (vtx a i)) (subP (addP y v) (vtx a i)) + xr (ev a i) (subP (negP y) (vtx n j)) := by unfold ev xr subP sumP addP negP; grind
      omega
    · have g' : goesA n a k := by
        unfold goesA at g ⊢
        rw [mst_swap k]
        simp only
        rw [xr_swap]; omega
      have D := dir_A cn ca (hull_swap h) g'
      rw [mst_swap k] at D
      simp only at D
      rw [D.pos]
      have sw' := sw.swap
      unfold goesA at g
      generalize (mst a n k).1 = i at *
      generalize (mst a n k).2 = j at *
      obtain ⟨x, hx, q⟩ := h2 (t + j)
      rw [vtx_movedL b v _ lb, vtx_movedL b v _ lb, crossP_xr] at q
      have s := sw'.side cn ca (by rw [xr_swap]; omega) hx
      have e1 := ev_neg b n t j (t + j) ht rfl
      have e2 := ht j
      have id : xr (ev n j) (subP v (sumP (vtx a i) (vtx n j))) = xr (subP (addP (vtx b (t + j + 1)) v) (addP (vtx b (t + j)) v)) (subP x (addP (vtx b (t + j)) v)) + xr (ev n j) (subP x (vtx a i)) := by
        rw [e1, e2]
        unfold ev xr subP sumP addP negP; grind
      omega
  · intro hin
    have end' := merge_end ca cn h cK
    refine ⟨fun i => ?_, fun m => ?_⟩
    · obtain ⟨k, -, e, g⟩ := passed (a := a) (b := n) (i % a.length) K.length (by rw [end'.1]; exact Nat.mod_lt _ la)
      have p := hin k
      rw [mpt_cross k v K ca cn h, (dir_A ca cn h g).pos, e] at p
      generalize (mst a n k).2 = j at *
      refine ⟨addP (vtx b (t + j)) v, List.mem_map.2 ⟨_, cb.vmem _, rfl⟩, ?_⟩
      rw [← vtx_mod, ← vtx_mod1, crossP_xr]
      unfold ev at p
      rw [ht j] at p
      generalize vtx a (i % a.length) = x at *
      generalize vtx a (i % a.length + 1) = x' at *
      have id : subP v (sumP x (negP (vtx b (t + j)))) = subP (addP (vtx b (t + j)) v) x := by unfold subP sumP addP negP; simp only [Prod.mk.injEq]; omega
      rwa [id] at p
    · -- the edge of the negatives that this one is
      obtain ⟨j, hj⟩ : ∃ j, ∃ c, t + j = m + b.length * c := by
        refine ⟨m + b.length * t - t, t, ?_⟩
        have : t ≤ b.length * t := Nat.le_mul_of_pos_left t lb
        omega
      obtain ⟨c, hc⟩ := hj
      have vm : ∀ x, vtx b (x + b.length * c) = vtx b x := fun x => by unfold vtx; rw [Nat.add_mul_mod_self_left]
      obtain ⟨k, -, e, g⟩ := passed (a := n) (b := a) (j % n.length) K.length (by
        rw [mst_swap, end'.1]; exact Nat.mod_lt _ ln)
      have p := hin k
      have D := dir_A cn ca (hull_swap h) g
      rw [mpt_cross k v K ca cn h, D.pos, e] at p
      rw [mst_swap] at e
      simp only at e
      rw [e] at p
      generalize (mst a n k).1 = i at *
      refine ⟨vtx a i, ca.vmem i, ?_⟩
      rw [vtx_movedL b v _ lb, vtx_movedL b v _ lb, crossP_xr]
      have q1 : vtx n (j % n.length) = negP (vtx b m) := by rw [vtx_mod, ht j, hc, vm]
      have q2 : vtx n (j % n.length + 1) = negP (vtx b (m + 1)) := by rw [vtx_mod1, ht (j + 1), show t + (j + 1) = m + 1 + b.length * c by omega, vm]
      unfold ev at p
      rw [q1, q2] at p
      generalize vtx b m = y at *
      generalize vtx b (m + 1) = y' at *
      generalize vtx a i = x at *
      have id : xr (subP (addP y' v) (addP y v)) (subP x (addP y v)) = xr (subP (negP y') (negP y)) (subP v (sumP x (negP y))) := by unfold xr subP sumP addP negP; grind
      omega

/-- The other way round, moved back. -/
theorem apart_back {a b : List Pt} {a0 b0 v : Pt} (ca : Conv a a0) (cb : Conv b b0) : apartB b (movedL a (negP v)) = apartB a (movedL b v) := by
  have la : 0 < a.length := by have := ca.three; omega
  have lb : 0 < b.length := by have := cb.three; omega
  have key : ∀ {x y : List Pt} {w : Pt}, 0 < x.length → 0 < y.length → beyondB x (movedL y w) = beyondB (movedL x (negP w)) y := fun {x y w} lx ly => by
    rw [Bool.eq_iff_iff, beyond_iff lx, beyond_iff (by rw [movedL_length]; exact lx)]
    have id : ∀ i z, crossP (vtx (movedL x (negP w)) i) (vtx (movedL x (negP w)) (i + 1)) z = crossP (vtx x i) (vtx x (i + 1)) (addP z w) := fun i z => by
      rw [vtx_movedL x _ _ lx, vtx_movedL x _ _ lx]
      unfold crossP cross addP negP; grind
    constructor
    · rintro ⟨i, hi⟩
      exact ⟨i, fun z hz => by rw [id]; exact hi _ (List.mem_map.2 ⟨z, hz, rfl⟩)⟩
    · rintro ⟨i, hi⟩
      refine ⟨i, fun z hz => ?_⟩
      obtain ⟨u, hu, rfl⟩ := List.mem_map.1 hz
      rw [← id]; exact hi u hu
  unfold apartB
  rw [key la lb, Bool.or_comm]
  congr 1
  have := key (x := b) (y := a) (w := negP v) lb la
  rw [this, negP_negP]

end Go.Proofs.Ytfdoijjojaehaaa

/- Shape: areas and lattice points of edges: their parities; polygons that are moved, or read the other way round. -/
namespace Go.Proofs.Ytfdoijjojaehaaa

def sumF (f : Nat → Int) : Nat → Int
  | 0 => 0
  | n + 1 => sumF f n + f n
theorem sumF_congr {f g : Nat → Int} : ∀ {n : Nat}, (∀ i, i < n → f i = g i) → sumF f n = sumF g n
  | 0, _ => rfl
  | n + 1, h => by unfold sumF; rw [sumF_congr (n := n) fun i hi => h i (by omega), h n (by omega)]
theorem sumF_neg (f : Nat → Int) : ∀ n, sumF (fun i => - f i) n = - sumF f n
  | 0 => rfl
  | n + 1 => by unfold sumF; rw [sumF_neg f n]; omega
theorem sumF_add (f g : Nat → Int) : ∀ n, sumF (fun i => f i + g i) n = sumF f n + sumF g n
  | 0 => rfl
  | n + 1 => by unfold sumF; rw [sumF_add f g n]; omega
theorem sumF_head (f : Nat → Int) : ∀ n, sumF f (n + 1) = f 0 + sumF (fun i => f (i + 1)) n
  | 0 => by simp [sumF]
  | n + 1 => by
    have := sumF_head f n
    show sumF f (n + 1) + f (n + 1) = f 0 + (sumF (fun i => f (i + 1)) n + f (n + 1))
    omega
theorem sumF_reflect (f : Nat → Int) : ∀ n, sumF (fun i => f (n - 1 - i)) n = sumF f n
  | 0 => rfl
  | n + 1 => by
    rw [sumF_head]
    show f (n + 1 - 1 - 0) + sumF (fun i => f (n + 1 - 1 - (i + 1))) n = sumF f n + f n
    rw [sumF_congr (g := fun i => f (n - 1 - i)) (fun i hi => by rw [show n + 1 - 1 - (i + 1) = n - 1 - i by omega]), sumF_reflect f n, show n + 1 - 1 - 0 = n by omega]
    omega
/-- Round a period, from wherever. -/
theorem sumF_shift (f : Nat → Int) (n : Nat) (hp : ∀ i, f (i + n) = f i) : ∀ c, sumF (fun i => f (i + c)) n = sumF f n
  | 0 => rfl
  | c + 1 => by
    rw [← sumF_shift f n hp c]
    have h := sumF_head (fun i => f (i + c)) n
    have e : sumF (fun i => f (i + c)) (n + 1) = sumF (fun i => f (i + c)) n + f (n + c) := rfl
    have e2 : f (n + c) = f c := by rw [Nat.add_comm]; exact hp c
    have e3 : sumF (fun i => f (i + (c + 1))) n = sumF (fun i => f (i + 1 + c)) n := sumF_congr fun i _ => by rw [show i + (c + 1) = i + 1 + c by omega]
    rw [e3]
    simp only [Nat.zero_add] at h
    omega
/-- What rises and falls round a period. -/
theorem sumF_tele (f : Nat → Int) : ∀ n, sumF (fun i => f (i + 1) - f i) n = f n - f 0
  | 0 => by simp [sumF]
  | n + 1 => by unfold sumF; rw [sumF_tele f n]; omega

def tr (l : List Pt) (i : Nat) : Int := xr (vtx l i) (vtx l (i + 1))
def gcdP (u v : Pt) : Int := (Nat.gcd (v.1 - u.1).natAbs (v.2 - u.2).natAbs : Nat)
def gd (l : List Pt) (i : Nat) : Int := gcdP (vtx l i) (vtx l (i + 1))
def border (l : List Pt) : Int := sumF (gd l) l.length

theorem area2_sum (l : List Pt) : area2 l = sumF (tr l) l.length := by
  have key : ∀ k, k ≤ l.length → area2To l k = sumF (tr l) k := by
    intro k
    induction k with
    | zero => intro _; rfl
    | succ k ih =>
      intro hk
      have e : vtx l k = gt l k := vtx_lt (by omega)
      show area2To l k + ((gt l k).1 * (nx l k).2 - (nx l k).1 * (gt l k).2) = sumF (tr l) k + tr l k
      rw [ih (by omega)]
      unfold tr
      rw [e]; rfl
  exact key _ (Nat.le_refl _)
theorem vtx_per (l : List Pt) (i : Nat) : vtx l (i + 1 + l.length) = vtx l (i + 1) := vtx_add l (i + 1)
theorem tr_per (l : List Pt) (i : Nat) : tr l (i + l.length) = tr l i := by
  unfold tr
  rw [vtx_add, show i + l.length + 1 = i + 1 + l.length by omega, vtx_add]
theorem gd_per (l : List Pt) (i : Nat) : gd l (i + l.length) = gd l i := by
  unfold gd
  rw [vtx_add, show i + l.length + 1 = i + 1 + l.length by omega, vtx_add]
theorem gcdP_comm (u v : Pt) : gcdP u v = gcdP v u := by
  unfold gcdP
  rw [show (v.1 - u.1).natAbs = (u.1 - v.1).natAbs by omega, show (v.2 - u.2).natAbs = (u.2 - v.2).natAbs by omega]

/-- The class of a point by parities: 0 for even ones. -/
def ph (u : Pt) : Int := if u.1 % 2 = 0 ∧ u.2 % 2 = 0 then 0 else 1
theorem gcd_par (a b : Nat) : (Nat.gcd a b) % 2 = if a % 2 = 0 ∧ b % 2 = 0 then 0 else 1 := by
  split
  · rename_i h
    exact Nat.mod_eq_zero_of_dvd (Nat.dvd_gcd (Nat.dvd_of_mod_eq_zero h.1) (Nat.dvd_of_mod_eq_zero h.2))
  · rename_i h
    rcases Nat.mod_two_eq_zero_or_one (Nat.gcd a b) with g | g
    · exfalso
      have d := Nat.dvd_of_mod_eq_zero g
      exact h ⟨Nat.mod_eq_zero_of_dvd (Nat.dvd_trans d (Nat.gcd_dvd_left a b)), Nat.mod_eq_zero_of_dvd (Nat.dvd_trans d (Nat.gcd_dvd_right a b))⟩
    · exact g
theorem mul_par (a b : Int) : (a * b) % 2 = if a % 2 = 0 then 0 else b % 2 := by
  rw [Int.mul_emod]
  split
  · rename_i h; rw [h]; simp
  · rename_i h
    rw [show a % 2 = 1 by omega, Int.one_mul]; omega
theorem par_term (u v : Pt) : (xr u v + gcdP u v) % 2 = (ph u + ph v) % 2 := by
  have g : gcdP u v % 2 = if (v.1 - u.1) % 2 = 0 ∧ (v.2 - u.2) % 2 = 0 then 0 else 1 := by
    unfold gcdP
    have h := gcd_par (v.1 - u.1).natAbs (v.2 - u.2).natAbs
    have e1 : (v.1 - u.1).natAbs % 2 = 0 ↔ (v.1 - u.1) % 2 = 0 := by omega
    have e2 : (v.2 - u.2).natAbs % 2 = 0 ↔ (v.2 - u.2) % 2 = 0 := by omega
    simp only [e1, e2] at h
    split at h <;> rename_i q
    · rw [if_pos q]; omega
    · rw [if_neg q]; omega
  have m1 := mul_par u.1 v.2
  have m2 := mul_par v.1 u.2
  unfold xr ph
  rcases Int.emod_two_eq u.1 with a | a <;> rcases Int.emod_two_eq u.2 with b | b <;> rcases Int.emod_two_eq v.1 with c | c <;> rcases Int.emod_two_eq v.2 with d | d <;>
    simp only [a, b, c, d] at m1 m2 ⊢ <;> split at g <;> simp at m1 m2 ⊢ <;> omega

/-- TWICE THE AREA AND THE POINTS ON THE EDGES ARE BOTH EVEN, OR BOTH ODD. -/
theorem pick_par (l : List Pt) : (area2 l + border l) % 2 = 0 := by
  rw [area2_sum]
  unfold border
  have key : ∀ n, (sumF (tr l) n + sumF (gd l) n) % 2 = (2 * sumF (fun i => ph (vtx l i)) n + (ph (vtx l n) - ph (vtx l 0))) % 2 := by
    intro n
    induction n with
    | zero => simp [sumF]
    | succ n ih =>
      have t := par_term (vtx l n) (vtx l (n + 1))
      show (sumF (tr l) n + tr l n + (sumF (gd l) n + gd l n)) % 2 = (2 * (sumF (fun i => ph (vtx l i)) n + ph (vtx l n)) + (ph (vtx l (n + 1)) - ph (vtx l 0))) % 2
      unfold tr gd at *
      omega
  rw [key]
  have e : vtx l l.length = vtx l 0 := by have := vtx_add l 0; rwa [Nat.zero_add] at this
  rw [e]
  omega

-- moved
theorem tr_moved (l : List Pt) (v : Pt) (h : 0 < l.length) (i : Nat) : tr (movedL l v) i = tr l i + (xr v (vtx l (i + 1)) - xr v (vtx l i)) := by
  unfold tr
  rw [vtx_movedL l v _ h, vtx_movedL l v _ h]
  unfold xr addP; grind
theorem area2_moved (l : List Pt) (v : Pt) (h : 0 < l.length) : area2 (movedL l v) = area2 l := by
  rw [area2_sum, area2_sum, movedL_length, sumF_congr (fun i _ => tr_moved l v h i), sumF_add, sumF_tele (fun i => xr v (vtx l i))]
  have e : vtx l l.length = vtx l 0 := by have := vtx_add l 0; rwa [Nat.zero_add] at this
  rw [e]; omega
theorem border_moved (l : List Pt) (v : Pt) (h : 0 < l.length) : border (movedL l v) = border l := by
  unfold border
  rw [movedL_length]
  refine sumF_congr fun i _ => ?_
  unfold gd
  rw [vtx_movedL l v _ h, vtx_movedL l v _ h]
  unfold gcdP addP
  simp only
  rw [show (vtx l (i + 1)).1 + v.1 - ((vtx l i).1 + v.1) = (vtx l (i + 1)).1 - (vtx l i).1 by omega, show (vtx l (i + 1)).2 + v.2 - ((vtx l i).2 + v.2) = (vtx l (i + 1)).2 - (vtx l i).2 by omega]

-- the other way round
theorem vtx_rev (l : List Pt) (i : Nat) (hi : i ≤ 2 * l.length - 1) (h : 0 < l.length) : vtx l.reverse i = vtx l (2 * l.length - 1 - i) := by
  have key : ∀ j, j < l.length → gt l.reverse j = gt l (l.length - 1 - j) := fun j hj => by
    unfold gt
    rw [List.getD_eq_getElem?_getD, List.getD_eq_getElem?_getD, List.getElem?_reverse hj]
  unfold vtx
  rw [List.length_reverse]
  by_cases g : i < l.length
  · rw [Nat.mod_eq_of_lt g, key i g]
    congr 1
    rw [show 2 * l.length - 1 - i = (l.length - 1 - i) + l.length by omega, Nat.add_mod_right, Nat.mod_eq_of_lt (by omega)]
  · have e : i % l.length = i - l.length := by
      rw [show i = (i - l.length) + l.length by omega, Nat.add_mod_right, Nat.mod_eq_of_lt (by omega)]; omega
    rw [e, key _ (by omega)]
    congr 1
    rw [Nat.mod_eq_of_lt (by omega)]; omega
theorem area2_rev (l : List Pt) (h : 0 < l.length) : area2 l.reverse = - area2 l := by
  rw [area2_sum, area2_sum, List.length_reverse]
  have e : sumF (tr l.reverse) l.length = sumF (fun i => - tr l (l.length - 1 - i + (l.length - 1))) l.length := sumF_congr fun i hi => by
    unfold tr
    rw [vtx_rev l i (by omega) h, vtx_rev l (i + 1) (by omega) h, show 2 * l.length - 1 - i = l.length - 1 - i + (l.length - 1) + 1 by omega, show 2 * l.length - 1 - (i + 1) = l.length - 1 - i + (l.length - 1) by omega, xr_swap]
  rw [e, sumF_neg, sumF_reflect (fun i => tr l (i + (l.length - 1))), sumF_shift (tr l) l.length (tr_per l)]
theorem border_rev (l : List Pt) (h : 0 < l.length) : border l.reverse = border l := by
  unfold border
  rw [List.length_reverse]
  have e : sumF (gd l.reverse) l.length = sumF (fun i => gd l (l.length - 1 - i + (l.length - 1))) l.length := sumF_congr fun i hi => by
    unfold gd
    rw [vtx_rev l i (by omega) h, vtx_rev l (i + 1) (by omega) h, show 2 * l.length - 1 - i = l.length - 1 - i + (l.length - 1) + 1 by omega, show 2 * l.length - 1 - (i + 1) = l.length - 1 - i + (l.length - 1) by omega, gcdP_comm]
  rw [e, sumF_reflect (fun i => gd l (i + (l.length - 1))), sumF_shift (gd l) l.length (gd_per l)]

-- simple polygons by their corners
structure SimpleV (l : List Pt) : Prop where
  ne : ∀ i, i < l.length → vtx l i ≠ vtx l (i + 1)
  fold : ∀ i, i < l.length → onP (vtx l i) (vtx l (i + 1)) (vtx l (i + 1 + 1)) = false ∧ onP (vtx l (i + 1)) (vtx l (i + 1 + 1)) (vtx l i) = false
  hit : ∀ i k, i + 2 ≤ k → k < l.length → ((k + 1) % l.length ≠ i) → meetP (vtx l i) (vtx l (i + 1)) (vtx l k) (vtx l (k + 1)) = false
theorem simpleV (l : List Pt) : simpleB l = true ↔ SimpleV l := by
  rw [simpleB_iff]
  constructor
  · rintro ⟨h1, h2⟩
    refine ⟨fun i hi e => ?_, fun i hi => ?_, fun i k hk hl hne => ?_⟩
    · have := h1 i hi
      unfold zeroAt at this
      rw [← vtx_lt hi, vtx_nx, eqP_iff.2 e] at this; cases this
    · have := (h2 i hi).1
      unfold foldAt at this
      rw [← vtx_lt hi, vtx_nx, vtx_nx, Bool.or_eq_false_iff] at this
      exact this
    · have := (h2 i (by omega)).2 k hl hk
      unfold hitAt at this
      rw [← vtx_lt hl, ← vtx_lt (show i < l.length by omega), vtx_nx, vtx_nx, Bool.and_eq_false_iff] at this
      rcases this with q | q
      · simp at q; exact absurd q hne
      · exact q
  · intro h
    refine ⟨fun i hi => ?_, fun i hi => ⟨?_, fun k hl hk => ?_⟩⟩
    · unfold zeroAt
      rw [← vtx_lt hi, vtx_nx]
      exact eqP_false (h.ne i hi)
    · unfold foldAt
      rw [← vtx_lt hi, vtx_nx, vtx_nx, (h.fold i hi).1, (h.fold i hi).2]; rfl
    · unfold hitAt
      rw [← vtx_lt hl, ← vtx_lt hi, vtx_nx, vtx_nx]
      by_cases e : (k + 1) % l.length = i
      · simp [e]
      · rw [h.hit i k hk hl e]; simp

theorem crossP_moved (a b c v : Pt) : crossP (addP a v) (addP b v) (addP c v) = crossP a b c := by unfold crossP cross addP; grind
theorem inB_moved (p a b v : Int) : inB (p + v) (mn (a + v) (b + v)) (mx (a + v) (b + v)) = inB p (mn a b) (mx a b) := by
  rw [Bool.eq_iff_iff, inB_true, inB_true]
  unfold mn mx
  split <;> split <;> split <;> split <;> omega
theorem onP_moved (a b p v : Pt) : onP (addP a v) (addP b v) (addP p v) = onP a b p := by
  have c := crossP_moved a b p v
  unfold crossP at c
  unfold onP onB
  rw [c]
  unfold addP
  simp only
  rw [inB_moved, inB_moved]
theorem meetP_moved (a b c d v : Pt) : meetP (addP a v) (addP b v) (addP c v) (addP d v) = meetP a b c d := by
  have o : ∀ a b c : Pt, onB (addP a v).1 (addP a v).2 (addP b v).1 (addP b v).2 (addP c v).1 (addP c v).2 = onB a.1 a.2 b.1 b.2 c.1 c.2 := fun a b c => onP_moved a b c v
  have k : ∀ a b c : Pt, cross (addP a v).1 (addP a v).2 (addP b v).1 (addP b v).2 (addP c v).1 (addP c v).2 = cross a.1 a.2 b.1 b.2 c.1 c.2 := fun a b c => crossP_moved a b c v
  unfold meetP meetB
  rw [o, o, o, o, k, k, k, k]
theorem mn_comm (a b : Int) : mn a b = mn b a := by unfold mn; split <;> split <;> omega
theorem mx_comm (a b : Int) : mx a b = mx b a := by unfold mx; split <;> split <;> omega
theorem onP_turn (a b p : Pt) : onP b a p = onP a b p := by
  unfold onP onB
  rw [mn_comm b.1, mx_comm b.1, mn_comm b.2, mx_comm b.2]
  have e : cross b.1 b.2 a.1 a.2 p.1 p.2 = - cross a.1 a.2 b.1 b.2 p.1 p.2 := by unfold cross; grind
  rw [e]
  congr 2
  rw [Bool.eq_iff_iff, beq_iff_eq, beq_iff_eq]; omega
theorem sgn_neg (x : Int) : sgn (-x) = - sgn x := by
  unfold sgn
  split <;> split <;> (try split) <;> (try split) <;> omega
theorem meetP_turn1 (a b c d : Pt) : meetP b a c d = meetP a b c d := by
  have o : ∀ x : Pt, onB b.1 b.2 a.1 a.2 x.1 x.2 = onB a.1 a.2 b.1 b.2 x.1 x.2 := fun x => onP_turn a b x
  have k : ∀ x : Pt, cross b.1 b.2 a.1 a.2 x.1 x.2 = - cross a.1 a.2 b.1 b.2 x.1 x.2 := fun x => by unfold cross; grind
  unfold meetP meetB
  rw [o, o, k, k, sgn_neg, sgn_neg, Int.neg_mul_neg, Int.mul_comm (sgn (cross c.1 c.2 d.1 d.2 b.1 b.2))]
  congr 1
  generalize onB c.1 c.2 d.1 d.2 b.1 b.2 = x
  generalize onB c.1 c.2 d.1 d.2 a.1 a.2 = y
  cases x <;> cases y <;> simp
theorem meetP_turn (a b c d : Pt) : meetP b a d c = meetP a b c d := by
  rw [meetP_turn1, meetP_comm, meetP_turn1, meetP_comm]

theorem simple_moved {l : List Pt} (v : Pt) (h0 : 0 < l.length) (h : simpleB l = true) : simpleB (movedL l v) = true := by
  rw [simpleV] at *
  have e := vtx_movedL l v
  refine ⟨fun i hi => ?_, fun i hi => ?_, fun i k hk hl hne => ?_⟩
  · rw [movedL_length] at hi
    rw [e _ h0, e _ h0]
    intro q
    refine h.ne i hi ?_
    unfold addP at q
    simp only [Prod.mk.injEq] at q
    exact Prod.ext (by omega) (by omega)
  · rw [movedL_length] at hi
    rw [e _ h0, e _ h0, e _ h0, onP_moved, onP_moved]
    exact h.fold i hi
  · rw [movedL_length] at hl hne
    rw [e _ h0, e _ h0, e _ h0, e _ h0, meetP_moved]
    exact h.hit i k hk hl hne

theorem simple_rev {l : List Pt} (h3 : 3 ≤ l.length) (h : simpleB l = true) : simpleB l.reverse = true := by
  rw [simpleV] at *
  have e := fun i hi => vtx_rev l i hi (by omega)
  -- any corner's number, by its remainder
  have vm : ∀ x y, x % l.length = y % l.length → vtx l x = vtx l y := fun x y q => by rw [← vtx_mod l x, q, vtx_mod]
  have vm1 : ∀ x y, x % l.length = y % l.length → vtx l (x + 1) = vtx l (y + 1) := fun x y q => by rw [← vtx_mod1 l x, q, vtx_mod1]
  have vm2 : ∀ x y, x % l.length = y % l.length → vtx l (x + 1 + 1) = vtx l (y + 1 + 1) := fun x y q => by
    have q2 : (x + 1) % l.length = (y + 1) % l.length := by rw [Nat.add_mod, q, ← Nat.add_mod]
    exact vm1 _ _ q2
  refine ⟨fun i hi => ?_, fun i hi => ?_, fun i k hk hl hne => ?_⟩
  · rw [List.length_reverse] at hi
    rw [e i (by omega), e (i + 1) (by omega), show 2 * l.length - 1 - i = (2 * l.length - 1 - (i + 1)) + 1 by omega]
    have q := Nat.mod_mod (2 * l.length - 1 - (i + 1)) l.length
    have n := h.ne ((2 * l.length - 1 - (i + 1)) % l.length) (Nat.mod_lt _ (by omega))
    rw [vm _ _ q, vm1 _ _ q] at n
    exact n.symm
  · rw [List.length_reverse] at hi
    rw [e i (by omega), e (i + 1) (by omega), e (i + 1 + 1) (by omega), show 2 * l.length - 1 - i = (2 * l.length - 1 - (i + 1 + 1)) + 1 + 1 by omega, show 2 * l.length - 1 - (i + 1) = (2 * l.length - 1 - (i + 1 + 1)) + 1 by omega]
    have q := Nat.mod_mod (2 * l.length - 1 - (i + 1 + 1)) l.length
    have n := h.fold ((2 * l.length - 1 - (i + 1 + 1)) % l.length) (Nat.mod_lt _ (by omega))
    rw [vm _ _ q, vm1 _ _ q, vm2 _ _ q] at n
    exact ⟨(onP_turn _ _ _).trans n.2, (onP_turn _ _ _).trans n.1⟩
  · rw [List.length_reverse] at hl hne
    rw [e i (by omega), e (i + 1) (by omega), e k (by omega), e (k + 1) (by omega), show 2 * l.length - 1 - i = (2 * l.length - 1 - (i + 1)) + 1 by omega, show 2 * l.length - 1 - k = (2 * l.length - 1 - (k + 1)) + 1 by omega, meetP_turn, meetP_comm]
    have q1 : (2 * l.length - 1 - (i + 1)) % l.length = (l.length - 2 - i) % l.length := by
      rw [show 2 * l.length - 1 - (i + 1) = (l.length - 2 - i) + l.length by omega, Nat.add_mod_right]
    rw [vm _ _ q1, vm1 _ _ q1]
    by_cases g : k = l.length - 1
    · have q2 : (2 * l.length - 1 - (k + 1)) % l.length = (l.length - 1) % l.length := by
        rw [show 2 * l.length - 1 - (k + 1) = l.length - 1 by omega]
      rw [vm _ _ q2, vm1 _ _ q2, meetP_comm]
      have k1 : (k + 1) % l.length = 0 := by rw [g, show l.length - 1 + 1 = l.length by omega, Nat.mod_self]
      refine h.hit _ _ (by omega) (by omega) ?_
      rw [show l.length - 1 + 1 = l.length by omega, Nat.mod_self]
      omega
    · have q2 : (2 * l.length - 1 - (k + 1)) % l.length = (l.length - 2 - k) % l.length := by
        rw [show 2 * l.length - 1 - (k + 1) = (l.length - 2 - k) + l.length by omega, Nat.add_mod_right]
      rw [vm _ _ q2, vm1 _ _ q2]
      refine h.hit _ _ (by omega) (by omega) ?_
      rw [Nat.mod_eq_of_lt (by omega)]
      omega

end Go.Proofs.Ytfdoijjojaehaaa

/- Shape: two edges that rise across the same heights: what is to the left below is to the left above, if they do not meet. -/
namespace Go.Proofs.Ytfdoijjojaehaaa

theorem leP_y {a b : Pt} (h : leP a b) : a.2 ≤ b.2 ∧ (a.2 = b.2 → a.1 ≤ b.1) := by
  rcases h with rfl | h
  · exact ⟨Int.le_refl _, fun _ => Int.le_refl _⟩
  · unfold ltP at h; omega
theorem ltP_y {a b : Pt} (h : ltP a b) : a.2 ≤ b.2 ∧ (a.2 = b.2 → a.1 < b.1) := by
  unfold ltP at h; omega
theorem zero3 {p q r : Int} (hp : 0 ≤ p) (hq : 0 ≤ q) (hr : 0 ≤ r) (h : p + q + r = 0) : p = 0 ∧ q = 0 ∧ r = 0 := by omega
theorem flat4 {a c d : Pt} (h1 : a.2 = c.2) (h2 : d.2 = c.2) : crossP c d a = 0 := by
  unfold crossP cross
  rw [h1, h2, Int.sub_self, Int.mul_zero, Int.mul_zero]; rfl
theorem mul_zero_left {p q : Int} (hp : 0 < p) (h : p * q = 0) : q = 0 := (Int.mul_eq_zero.1 h).resolve_left (by omega)

/-- One edge within the heights of the other: if it crosses the other's line, it crosses the other. -/
theorem span_in {a b c d : Pt} (ca : leP c a) (ab : ltP a b) (bd : leP b d) (hA : 0 < crossP c d a) (hB : crossP c d b < 0) : crossP a b c < 0 ∧ 0 < crossP a b d := by
  obtain ⟨y1, x1⟩ := leP_y ca
  obtain ⟨y2, x2⟩ := ltP_y ab
  obtain ⟨y3, x3⟩ := leP_y bd
  have flat : ∀ {z : Pt}, a.2 = c.2 → d.2 = c.2 → False := fun h1 h2 => by rw [flat4 h1 h2] at hA; omega
  constructor
  · apply Classical.byContradiction
    intro hC
    have n1 := Int.mul_nonneg (show 0 ≤ crossP a b c by omega) (show 0 ≤ d.2 - c.2 by omega)
    have n2 := Int.mul_nonneg (show 0 ≤ crossP c d a by omega) (show 0 ≤ b.2 - c.2 by omega)
    have n3 := Int.mul_nonneg (show 0 ≤ - crossP c d b by omega) (show 0 ≤ a.2 - c.2 by omega)
    have id : crossP a b c * (d.2 - c.2) + crossP c d a * (b.2 - c.2) + - crossP c d b * (a.2 - c.2) = 0 := by unfold crossP cross; grind
    have idx : crossP a b c * (d.1 - c.1) + crossP c d a * (b.1 - c.1) + - crossP c d b * (a.1 - c.1) = 0 := by unfold crossP cross; grind
    obtain ⟨z1, z2, z3⟩ := zero3 n1 n2 n3 id
    have e2 := mul_zero_left hA z2
    have e3 := mul_zero_left (show 0 < - crossP c d b by omega) z3
    by_cases g : d.2 = c.2
    · exact flat (z := a) (by omega) g
    · have eC : crossP a b c = 0 := (Int.mul_eq_zero.1 z1).resolve_right (by omega)
      rw [eC, Int.zero_mul, Int.zero_add] at idx
      have p2 := Int.mul_pos hA (show 0 < b.1 - c.1 by omega)
      have p3 := Int.mul_nonneg (show 0 ≤ - crossP c d b by omega) (show 0 ≤ a.1 - c.1 by omega)
      omega
  · apply Classical.byContradiction
    intro hD
    have n1 := Int.mul_nonneg (show 0 ≤ - crossP a b d by omega) (show 0 ≤ d.2 - c.2 by omega)
    have n2 := Int.mul_nonneg (show 0 ≤ crossP c d a by omega) (show 0 ≤ d.2 - b.2 by omega)
    have n3 := Int.mul_nonneg (show 0 ≤ - crossP c d b by omega) (show 0 ≤ d.2 - a.2 by omega)
    have id : - crossP a b d * (d.2 - c.2) + crossP c d a * (d.2 - b.2) + - crossP c d b * (d.2 - a.2) = 0 := by unfold crossP cross; grind
    have idx : - crossP a b d * (d.1 - c.1) + crossP c d a * (d.1 - b.1) + - crossP c d b * (d.1 - a.1) = 0 := by unfold crossP cross; grind
    obtain ⟨z1, z2, z3⟩ := zero3 n1 n2 n3 id
    have e2 := mul_zero_left hA z2
    have e3 := mul_zero_left (show 0 < - crossP c d b by omega) z3
    by_cases g : d.2 = c.2
    · exact flat (z := a) (by omega) g
    · have eC : - crossP a b d = 0 := (Int.mul_eq_zero.1 z1).resolve_right (by omega)
      rw [eC, Int.zero_mul, Int.zero_add] at idx
      have p2 := Int.mul_nonneg (show 0 ≤ crossP c d a by omega) (show 0 ≤ d.1 - b.1 by omega)
      have p3 := Int.mul_pos (show 0 < - crossP c d b by omega) (show 0 < d.1 - a.1 by omega)
      omega
/-- The same from the other side. -/
theorem span_in' {a b c d : Pt} (ca : leP c a) (ab : ltP a b) (bd : leP b d) (hA : crossP c d a < 0) (hB : 0 < crossP c d b) : 0 < crossP a b c ∧ crossP a b d < 0 := by
  obtain ⟨y1, x1⟩ := leP_y ca
  obtain ⟨y2, x2⟩ := ltP_y ab
  obtain ⟨y3, x3⟩ := leP_y bd
  have flat : ∀ {z : Pt}, a.2 = c.2 → d.2 = c.2 → False := fun h1 h2 => by rw [flat4 h1 h2] at hA; omega
  constructor
  · apply Classical.byContradiction
    intro hC
    have n1 := Int.mul_nonneg (show 0 ≤ - crossP a b c by omega) (show 0 ≤ d.2 - c.2 by omega)
    have n2 := Int.mul_nonneg (show 0 ≤ - crossP c d a by omega) (show 0 ≤ b.2 - c.2 by omega)
    have n3 := Int.mul_nonneg (show 0 ≤ crossP c d b by omega) (show 0 ≤ a.2 - c.2 by omega)
    have id : - crossP a b c * (d.2 - c.2) + - crossP c d a * (b.2 - c.2) + crossP c d b * (a.2 - c.2) = 0 := by unfold crossP cross; grind
    have idx : - crossP a b c * (d.1 - c.1) + - crossP c d a * (b.1 - c.1) + crossP c d b * (a.1 - c.1) = 0 := by unfold crossP cross; grind
    obtain ⟨z1, z2, z3⟩ := zero3 n1 n2 n3 id
    have e2 := mul_zero_left (show 0 < - crossP c d a by omega) z2
    have e3 := mul_zero_left hB z3
    by_cases g : d.2 = c.2
    · exact flat (z := a) (by omega) g
    · have eC : - crossP a b c = 0 := (Int.mul_eq_zero.1 z1).resolve_right (by omega)
      rw [eC, Int.zero_mul, Int.zero_add] at idx
      have p2 := Int.mul_pos (show 0 < - crossP c d a by omega) (show 0 < b.1 - c.1 by omega)
      have p3 := Int.mul_nonneg (show 0 ≤ crossP c d b by omega) (show 0 ≤ a.1 - c.1 by omega)
      omega
  · apply Classical.byContradiction
    intro hD
    have n1 := Int.mul_nonneg (show 0 ≤ crossP a b d by omega) (show 0 ≤ d.2 - c.2 by omega)
    have n2 := Int.mul_nonneg (show 0 ≤ - crossP c d a by omega) (show 0 ≤ d.2 - b.2 by omega)
    have n3 := Int.mul_nonneg (show 0 ≤ crossP c d b by omega) (show 0 ≤ d.2 - a.2 by omega)
    have id : crossP a b d * (d.2 - c.2) + - crossP c d a * (d.2 - b.2) + crossP c d b * (d.2 - a.2) = 0 := by unfold crossP cross; grind
    have idx : crossP a b d * (d.1 - c.1) + - crossP c d a * (d.1 - b.1) + crossP c d b * (d.1 - a.1) = 0 := by unfold crossP cross; grind
    obtain ⟨z1, z2, z3⟩ := zero3 n1 n2 n3 id
    have e2 := mul_zero_left (show 0 < - crossP c d a by omega) z2
    have e3 := mul_zero_left hB z3
    by_cases g : d.2 = c.2
    · exact flat (z := a) (by omega) g
    · have eC : crossP a b d = 0 := (Int.mul_eq_zero.1 z1).resolve_right (by omega)
      rw [eC, Int.zero_mul, Int.zero_add] at idx
      have p2 := Int.mul_nonneg (show 0 ≤ - crossP c d a by omega) (show 0 ≤ d.1 - b.1 by omega)
      have p3 := Int.mul_pos hB (show 0 < d.1 - a.1 by omega)
      omega

/-- One edge begins within the other's heights and ends above them. -/
theorem span_over {a b c d : Pt} (ca : leP c a) (ad : ltP a d) (db : leP d b) (hA : 0 < crossP c d a) (hD : 0 < crossP a b d) : crossP c d b < 0 ∧ crossP a b c < 0 := by
  obtain ⟨y1, x1⟩ := leP_y ca
  obtain ⟨y2, x2⟩ := ltP_y ad
  obtain ⟨y3, x3⟩ := leP_y db
  have flat : a.2 = c.2 → d.2 = c.2 → False := fun h1 h2 => by rw [flat4 h1 h2] at hA; omega
  have k1 : crossP c d b < 0 := by
    apply Classical.byContradiction
    intro hB
    have n1 := Int.mul_nonneg (show 0 ≤ crossP c d b by omega) (show 0 ≤ d.2 - a.2 by omega)
    have n2 := Int.mul_nonneg (show 0 ≤ crossP c d a by omega) (show 0 ≤ b.2 - d.2 by omega)
    have n3 := Int.mul_nonneg (show 0 ≤ crossP a b d by omega) (show 0 ≤ d.2 - c.2 by omega)
    have id : crossP c d b * (d.2 - a.2) + crossP c d a * (b.2 - d.2) + crossP a b d * (d.2 - c.2) = 0 := by unfold crossP cross; grind
    obtain ⟨z1, z2, z3⟩ := zero3 n1 n2 n3 id
    have e3 := mul_zero_left hD z3
    exact flat (by omega) (by omega)
  refine ⟨k1, ?_⟩
  apply Classical.byContradiction
  intro hC
  have n1 := Int.mul_nonneg (show 0 ≤ crossP a b c by omega) (show 0 ≤ d.2 - c.2 by omega)
  have n2 := Int.mul_nonneg (show 0 ≤ crossP c d a by omega) (show 0 ≤ b.2 - c.2 by omega)
  have n3 := Int.mul_nonneg (show 0 ≤ - crossP c d b by omega) (show 0 ≤ a.2 - c.2 by omega)
  have id : crossP a b c * (d.2 - c.2) + crossP c d a * (b.2 - c.2) + - crossP c d b * (a.2 - c.2) = 0 := by unfold crossP cross; grind
  obtain ⟨z1, z2, z3⟩ := zero3 n1 n2 n3 id
  have e2 := mul_zero_left hA z2
  exact flat (by omega) (by omega)
theorem span_over' {a b c d : Pt} (ca : leP c a) (ad : ltP a d) (db : leP d b) (hA : crossP c d a < 0) (hD : crossP a b d < 0) : 0 < crossP c d b ∧ 0 < crossP a b c := by
  obtain ⟨y1, x1⟩ := leP_y ca
  obtain ⟨y2, x2⟩ := ltP_y ad
  obtain ⟨y3, x3⟩ := leP_y db
  have flat : a.2 = c.2 → d.2 = c.2 → False := fun h1 h2 => by rw [flat4 h1 h2] at hA; omega
  have k1 : 0 < crossP c d b := by
    apply Classical.byContradiction
    intro hB
    have n1 := Int.mul_nonneg (show 0 ≤ - crossP c d b by omega) (show 0 ≤ d.2 - a.2 by omega)
    have n2 := Int.mul_nonneg (show 0 ≤ - crossP c d a by omega) (show 0 ≤ b.2 - d.2 by omega)
    have n3 := Int.mul_nonneg (show 0 ≤ - crossP a b d by omega) (show 0 ≤ d.2 - c.2 by omega)
    have id : - crossP c d b * (d.2 - a.2) + - crossP c d a * (b.2 - d.2) + - crossP a b d * (d.2 - c.2) = 0 := by unfold crossP cross; grind
    obtain ⟨z1, z2, z3⟩ := zero3 n1 n2 n3 id
    have e3 := mul_zero_left (show 0 < - crossP a b d by omega) z3
    exact flat (by omega) (by omega)
  refine ⟨k1, ?_⟩
  apply Classical.byContradiction
  intro hC
  have n1 := Int.mul_nonneg (show 0 ≤ - crossP a b c by omega) (show 0 ≤ d.2 - c.2 by omega)
  have n2 := Int.mul_nonneg (show 0 ≤ - crossP c d a by omega) (show 0 ≤ b.2 - c.2 by omega)
  have n3 := Int.mul_nonneg (show 0 ≤ crossP c d b by omega) (show 0 ≤ a.2 - c.2 by omega)
  have id : - crossP a b c * (d.2 - c.2) + - crossP c d a * (b.2 - c.2) + crossP c d b * (a.2 - c.2) = 0 := by unfold crossP cross; grind
  obtain ⟨z1, z2, z3⟩ := zero3 n1 n2 n3 id
  have e2 := mul_zero_left (show 0 < - crossP c d a by omega) z2
  exact flat (by omega) (by omega)

theorem meet_cross {a b c d : Pt} (h : meetP a b c d = false) : onP a b c = false ∧ onP a b d = false ∧ onP c d a = false ∧ onP c d b = false ∧
    ¬ (((0 < crossP a b c ∧ crossP a b d < 0) ∨ (crossP a b c < 0 ∧ 0 < crossP a b d)) ∧ ((0 < crossP c d a ∧ crossP c d b < 0) ∨ (crossP c d a < 0 ∧ 0 < crossP c d b))) := by
  unfold meetP meetB at h
  simp only [Bool.or_eq_false_iff, Bool.and_eq_false_iff, decide_eq_false_iff_not] at h
  obtain ⟨⟨⟨⟨o1, o2⟩, o3⟩, o4⟩, k⟩ := h
  refine ⟨o1, o2, o3, o4, fun ⟨k1, k2⟩ => ?_⟩
  have s : ∀ x y : Int, (0 < x ∧ y < 0) ∨ (x < 0 ∧ 0 < y) → sgn x * sgn y < 0 := fun x y h => by
    unfold sgn
    rcases h with ⟨p, q⟩ | ⟨p, q⟩
    · rw [if_pos p, if_neg (by omega), if_pos q]; omega
    · rw [if_neg (by omega), if_pos p, if_pos q]; omega
  rcases k with k | k
  · exact k (s _ _ k1)
  · exact k (s _ _ k2)

/-- The first edge is to the left of the second where the higher one of both begins. -/
def LftB (a b c d : Pt) : Prop := (leP c a → 0 < crossP c d a) ∧ (leP a c → crossP a b c < 0)
/-- And where the lower one of both ends. -/
def LftT (a b c d : Pt) : Prop := (leP b d → 0 < crossP c d b) ∧ (leP d b → crossP a b d < 0)

theorem lft_up {a b c d : Pt} (ab : ltP a b) (cd : ltP c d) (ad : ltP a d) (cb : ltP c b) (h : LftB a b c d) (hm : meetP a b c d = false) : LftT a b c d := by
  obtain ⟨o1, o2, o3, o4, k⟩ := meet_cross hm
  rcases leP_total c a with g | g
  · have hA := h.1 g
    refine ⟨fun bd => ?_, fun db => ?_⟩
    · rcases Int.lt_trichotomy (crossP c d b) 0 with q | q | q
      · exfalso
        have := span_in g ab bd hA q
        exact k ⟨.inr this, .inl ⟨hA, q⟩⟩
      · rw [on_of_between q (.inr cb) bd] at o4; cases o4
      · exact q
    · rcases Int.lt_trichotomy (crossP a b d) 0 with q | q | q
      · exact q
      · rw [on_of_between q (.inr ad) db] at o2; cases o2
      · exfalso
        have := span_over g ad db hA q
        exact k ⟨.inr ⟨this.2, q⟩, .inl ⟨hA, this.1⟩⟩
  · have hC := h.2 (.inr g)
    refine ⟨fun bd => ?_, fun db => ?_⟩
    · rcases Int.lt_trichotomy (crossP c d b) 0 with q | q | q
      · exfalso
        have := span_over' (a := c) (b := d) (c := a) (d := b) (.inr g) cb bd hC q
        exact k ⟨.inr ⟨hC, this.1⟩, .inl ⟨this.2, q⟩⟩
      · rw [on_of_between q (.inr cb) bd] at o4; cases o4
      · exact q
    · rcases Int.lt_trichotomy (crossP a b d) 0 with q | q | q
      · exact q
      · rw [on_of_between q (.inr ad) db] at o2; cases o2
      · exfalso
        have := span_in' (a := c) (b := d) (c := a) (d := b) (.inr g) cd db hC q
        exact k ⟨.inr ⟨hC, q⟩, .inl this⟩

end Go.Proofs.Ytfdoijjojaehaaa

/- Shape: a simple polygon that turns to the left at all corners goes up once and down once. -/
namespace Go.Proofs.Ytfdoijjojaehaaa

/-- Two chains that rise and do not meet: which one is to the left does not change. -/
theorem two_chains {C E : Nat → Pt} {p q : Nat} (hC : ∀ i, i < p → ltP (C i) (C (i + 1))) (hE : ∀ j, j < q → ltP (E j) (E (j + 1))) :
    ∀ m i j, (p - i) + (q - j) = m → (∀ i' j', i ≤ i' → j ≤ j' → i' < p → j' < q → (i' + 1 < p ∨ j' + 1 < q) → meetP (C i') (C (i' + 1)) (E j') (E (j' + 1)) = false) →
      i < p → j < q → ltP (C i) (E (j + 1)) → ltP (E j) (C (i + 1)) → LftB (C i) (C (i + 1)) (E j) (E (j + 1)) →
      ∃ i' j', i ≤ i' ∧ i' < p ∧ j ≤ j' ∧ j' < q ∧ LftB (C i') (C (i' + 1)) (E j') (E (j' + 1)) ∧ ltP (C i') (E (j' + 1)) ∧ ltP (E j') (C (i' + 1)) ∧
        ((i' + 1 = p ∧ leP (C p) (E (j' + 1))) ∨ (j' + 1 = q ∧ leP (E q) (C (i' + 1))))
  | 0, i, j, hm, _, hi, _, _, _, _ => by omega
  | m + 1, i, j, hm, nm, hi, hj, o1, o2, hl => by
    rcases leP_total (C (i + 1)) (E (j + 1)) with g | g
    · by_cases hp : i + 1 = p
      · exact ⟨i, j, Nat.le_refl _, hi, Nat.le_refl _, hj, hl, o1, o2, .inl ⟨hp, by rw [← hp]; exact g⟩⟩
      · have up := lft_up (hC i hi) (hE j hj) o1 o2 hl (nm i j (Nat.le_refl _) (Nat.le_refl _) hi hj (.inl (by omega)))
        have k := up.1 g
        have g' : ltP (C (i + 1)) (E (j + 1)) := by
          rcases g with e | g
          · rw [e] at k
            exfalso
            have : crossP (E j) (E (j + 1)) (E (j + 1)) = 0 := by unfold crossP cross; grind
            omega
          · exact g
        obtain ⟨i', j', a1, a2⟩ := two_chains hC hE m (i + 1) j (by omega) (fun i' j' h1 h2 => nm i' j' (by omega) h2) (by omega) hj g' (ltP_trans o2 (hC (i + 1) (by omega)))
          ⟨fun _ => k, fun h => absurd (leP_ltP h o2) (ltP_irrefl _)⟩
        exact ⟨i', j', by omega, a2⟩
    · by_cases hq : j + 1 = q
      · exact ⟨i, j, Nat.le_refl _, hi, Nat.le_refl _, hj, hl, o1, o2, .inr ⟨hq, by rw [← hq]; exact .inr g⟩⟩
      · have up := lft_up (hC i hi) (hE j hj) o1 o2 hl (nm i j (Nat.le_refl _) (Nat.le_refl _) hi hj (.inr (by omega)))
        have k := up.2 (.inr g)
        obtain ⟨i', j', a1, a2, a3, a4⟩ := two_chains hC hE m i (j + 1) (by omega) (fun i' j' h1 h2 => nm i' j' h1 (by omega)) hi (by omega) (ltP_trans o1 (hE (j + 1) (by omega))) g
          ⟨fun h => absurd (leP_ltP h o1) (ltP_irrefl _), fun _ => k⟩
        exact ⟨i', j', a1, a2, by omega, a4⟩

theorem chain_le {C : Nat → Pt} {p : Nat} (hC : ∀ i, i < p → ltP (C i) (C (i + 1))) {i : Nat} : ∀ {j}, i ≤ j → j ≤ p → leP (C i) (C j)
  | 0, h, _ => by have : i = 0 := by omega
                  rw [this]; exact leP_refl _
  | j + 1, h, hp => by
    by_cases e : i = j + 1
    · rw [e]; exact leP_refl _
    · exact leP_trans (chain_le hC (j := j) (by omega) (by omega)) (.inr (hC j (by omega)))
theorem chain_lt {C : Nat → Pt} {p : Nat} (hC : ∀ i, i < p → ltP (C i) (C (i + 1))) {i j : Nat} (h : i < j) (hp : j ≤ p) : ltP (C i) (C j) :=
  ltP_leP (hC i (by omega)) (chain_le hC (i := i + 1) (by omega) hp)
/-- The edge that crosses a point's height. -/
theorem chain_at {C : Nat → Pt} {x : Pt} (h0 : leP (C 0) x) : ∀ p, ltP x (C p) → ∃ j, j < p ∧ leP (C j) x ∧ ltP x (C (j + 1))
  | 0, h => absurd (leP_ltP h0 h) (ltP_irrefl _)
  | p + 1, h => by
    rcases leP_total (C p) x with g | g
    · exact ⟨p, by omega, g, h⟩
    · obtain ⟨j, h1, h2⟩ := chain_at h0 p g
      exact ⟨j, by omega, h2⟩

theorem meet_of_on {a b c d : Pt} (h : onP a b c = true) : meetP a b c d = true := by
  cases e : meetP a b c d
  · rw [(meet_cross e).1] at h; cases h
  · rfl
theorem cross_cyc (a b c : Pt) : crossP b c a = crossP a b c := by unfold crossP cross; grind
theorem cross_end (a b : Pt) : crossP a b b = 0 := by unfold crossP cross; grind

/-- Up, down to above where it began, and up again: not as high as before. -/
theorem lower_top {v : Nat → Pt} {a b c d : Nat} (hab : a < b) (hbc : b < c) (hcd : c < d)
    (r1 : ∀ i, a ≤ i → i < b → ltP (v i) (v (i + 1))) (f1 : ∀ i, b ≤ i → i < c → ltP (v (i + 1)) (v i)) (r2 : ∀ i, c ≤ i → i < d → ltP (v i) (v (i + 1)))
    (tb : 0 < crossP (v (b - 1)) (v b) (v (b + 1))) (tc : 0 < crossP (v (c - 1)) (v c) (v (c + 1)))
    (nm : ∀ i k, a ≤ i → i + 2 ≤ k → k < d → meetP (v i) (v (i + 1)) (v k) (v (k + 1)) = false) (hac : ltP (v a) (v c)) : ltP (v d) (v b) := by
  apply Classical.byContradiction
  intro hno
  have hbd0 : leP (v b) (v d) := (leP_total (v b) (v d)).resolve_right hno
  have hbd : ltP (v b) (v d) := by
    rcases hbd0 with e | h
    · exfalso
      have m := nm (b - 1) (d - 1) (by omega) (by omega) (by omega)
      rw [show b - 1 + 1 = b by omega, show d - 1 + 1 = d by omega] at m
      have o := (meet_cross m).2.1
      rw [← e, onP_turn, onP_start] at o
      cases o
    · exact h
  -- the three chains
  have hC : ∀ i, i < b - a → ltP (v (a + i)) (v (a + i + 1)) := fun i hi => r1 (a + i) (by omega) (by omega)
  have hE : ∀ j, j < c - b → ltP (v (c - j)) (v (c - (j + 1))) := fun j hj => by
    have := f1 (c - (j + 1)) (by omega) (by omega)
    rwa [show c - (j + 1) + 1 = c - j by omega] at this
  have hG : ∀ i, i < d - c → ltP (v (c + i)) (v (c + i + 1)) := fun i hi => r2 (c + i) (by omega) (by omega)
  have hcb : ltP (v c) (v b) := by
    have := chain_lt (C := fun j => v (c - j)) (p := c - b) hE (i := 0) (j := c - b) (by omega) (Nat.le_refl _)
    simp only [Nat.sub_zero] at this
    rwa [show c - (c - b) = b by omega] at this
  -- where the first chain crosses the height of the lower corner
  obtain ⟨j, hj, j1, j2⟩ := chain_at (C := fun i => v (a + i)) (x := v c) (.inr (by simpa using hac)) (b - a) (by
    show ltP (v c) (v (a + (b - a)))
    rw [show a + (b - a) = b by omega]; exact hcb)
  have j1 : leP (v (a + j)) (v c) := j1
  have j2 : ltP (v c) (v (a + j + 1)) := j2
  -- the lower corner is to its left
  have hleft : 0 < crossP (v (a + j)) (v (a + j + 1)) (v c) := by
    rcases Int.lt_trichotomy (crossP (v (a + j)) (v (a + j + 1)) (v c)) 0 with g | g | g
    · exfalso
      have hne : v (a + j) ≠ v c := fun e => by
        rw [← e] at g
        have : crossP (v (a + j)) (v (a + j + 1)) (v (a + j)) = 0 := by unfold crossP cross; grind
        omega
      have jlt : ltP (v (a + j)) (v c) := j1.resolve_left hne
      have c1 := hE 0 (by omega)
      simp only [Nat.sub_zero] at c1
      obtain ⟨i', j', x1, x2, x3, x4, x5, x6, x7, x8⟩ := two_chains (C := fun i => v (a + i)) (E := fun j => v (c - j)) (p := b - a) (q := c - b) hC hE _ j 0 rfl
        (fun i' j' h1 h2 h3 h4 h5 => by
          show meetP (v (a + i')) (v (a + i' + 1)) (v (c - j')) (v (c - (j' + 1))) = false
          have m := nm (a + i') (c - (j' + 1)) (by omega) (by omega) (by omega)
          rw [show c - (j' + 1) + 1 = c - j' by omega] at m
          rw [meetP_comm, meetP_turn1, ← meetP_comm]; exact m)
        hj (by omega) (leP_ltP j1 (by simpa using c1)) j2
        ⟨fun h => absurd (leP_ltP (by simpa using h) jlt) (ltP_irrefl _), fun _ => g⟩
      have x5 : LftB (v (a + i')) (v (a + i' + 1)) (v (c - j')) (v (c - (j' + 1))) := x5
      have both : i' + 1 = b - a ∧ j' + 1 = c - b := by
        rcases x8 with ⟨e, h⟩ | ⟨e, h⟩
        · refine ⟨e, ?_⟩
          by_cases q : j' + 1 = c - b
          · exact q
          · exfalso
            have := chain_lt (C := fun j => v (c - j)) (p := c - b) hE (i := j' + 1) (j := c - b) (by omega) (Nat.le_refl _)
            have this : ltP (v (c - (j' + 1))) (v (c - (c - b))) := this
            have h : leP (v (a + (b - a))) (v (c - (j' + 1))) := h
            rw [show c - (c - b) = b by omega] at this
            rw [show a + (b - a) = b by omega] at h
            exact ltP_irrefl _ (leP_ltP h this)
        · refine ⟨?_, e⟩
          by_cases q : i' + 1 = b - a
          · exact q
          · exfalso
            have := chain_lt (C := fun i => v (a + i)) (p := b - a) hC (i := i' + 1) (j := b - a) (by omega) (Nat.le_refl _)
            have this : ltP (v (a + (i' + 1))) (v (a + (b - a))) := this
            have h : leP (v (c - (c - b))) (v (a + (i' + 1))) := h
            rw [show a + (b - a) = b by omega] at this
            rw [show c - (c - b) = b by omega] at h
            exact ltP_irrefl _ (leP_ltP h this)
      have e1 : a + i' = b - 1 := by omega
      have e2 : c - j' = b + 1 := by omega
      have e3 : c - (j' + 1) = b := by omega
      rw [e1, show b - 1 + 1 = b by omega, e2, e3] at x5
      rcases leP_total (v (b + 1)) (v (b - 1)) with q | q
      · have k := x5.1 q
        have := crossP_rot (v b) (v (b + 1)) (v (b - 1))
        have := cross_cyc (v (b - 1)) (v b) (v (b + 1))
        omega
      · have k := x5.2 (.inr q)
        omega
    · exfalso
      have m := nm (a + j) c (by omega) (by omega) hcd
      rw [meet_of_on (on_of_between g j1 (.inr j2))] at m
      cases m
    · exact g
  -- the second rise stays to its left
  have right : ∃ i, i < d - c ∧ ltP (v (c + i)) (v b) ∧ leP (v b) (v (c + i + 1)) ∧ crossP (v (c + i)) (v (c + i + 1)) (v b) < 0 := by
    have g0 := hG 0 (by omega)
    simp only [Nat.add_zero] at g0
    obtain ⟨i', j', x1, x2, x3, x4, x5, x6, x7, x8⟩ := two_chains (C := fun i => v (c + i)) (E := fun i => v (a + i)) (p := d - c) (q := b - a) hG hC _ 0 j rfl
      (fun i' j' h1 h2 h3 h4 h5 => by
        show meetP (v (c + i')) (v (c + i' + 1)) (v (a + j')) (v (a + j' + 1)) = false
        rw [meetP_comm]
        exact nm (a + j') (c + i') (by omega) (by omega) (by omega))
      (by omega) hj j2 (leP_ltP j1 (by simpa using g0))
      ⟨fun _ => hleft, fun h => by
        exfalso
        have e := leP_anti (by simpa using h) j1
        have : crossP (v (a + j)) (v (a + j + 1)) (v c) = 0 := by rw [e]; unfold crossP cross; grind
        omega⟩
    have x5 : LftB (v (c + i')) (v (c + i' + 1)) (v (a + j')) (v (a + j' + 1)) := x5
    have x6 : ltP (v (c + i')) (v (a + j' + 1)) := x6
    have x7 : ltP (v (a + j')) (v (c + i' + 1)) := x7
    rcases x8 with ⟨e, h⟩ | ⟨e, h⟩
    · exfalso
      have h : leP (v (c + (d - c))) (v (a + (j' + 1))) := h
      rw [show c + (d - c) = d by omega] at h
      have := chain_le (C := fun i => v (a + i)) (p := b - a) hC (i := j' + 1) (j := b - a) (by omega) (Nat.le_refl _)
      have this : leP (v (a + (j' + 1))) (v (a + (b - a))) := this
      rw [show a + (b - a) = b by omega] at this
      exact ltP_irrefl _ (leP_ltP (leP_trans h this) hbd)
    · have h : leP (v (a + (b - a))) (v (c + (i' + 1))) := h
      rw [show a + (b - a) = b by omega] at h
      have eb : a + j' + 1 = b := by omega
      have m := nm (a + j') (c + i') (by omega) (by omega) (by omega)
      rw [meetP_comm] at m
      have up := lft_up (hG i' x2) (hC j' x4) x6 x7 x5 m
      rw [eb] at up x6
      exact ⟨i', x2, x6, h, up.2 h⟩
  -- and to the right of the fall
  have left : ∃ i, i < d - c ∧ ltP (v (c + i)) (v b) ∧ leP (v b) (v (c + i + 1)) ∧ 0 < crossP (v (c + i)) (v (c + i + 1)) (v b) := by
    have e0 := hE 0 (by omega)
    have g0 := hG 0 (by omega)
    simp only [Nat.sub_zero, Nat.add_zero, Nat.zero_add] at e0 g0
    have t1 : 0 < crossP (v c) (v (c + 1)) (v (c - 1)) := by rw [cross_cyc]; exact tc
    have t2 : crossP (v c) (v (c - 1)) (v (c + 1)) < 0 := by
      have := crossP_rot (v (c - 1)) (v c) (v (c + 1))
      omega
    -- from a state behind the first pair on
    have go : ∀ i j, (0 < i ∨ 0 < j) → i < c - b → j < d - c → ltP (v (c - i)) (v (c + (j + 1))) → ltP (v (c + j)) (v (c - (i + 1))) → LftB (v (c - i)) (v (c - (i + 1))) (v (c + j)) (v (c + (j + 1))) →
        ∃ i, i < d - c ∧ ltP (v (c + i)) (v b) ∧ leP (v b) (v (c + i + 1)) ∧ 0 < crossP (v (c + i)) (v (c + i + 1)) (v b) := by
      intro i j hij hi hj' o1 o2 hl
      have nm2 : ∀ i' j', i ≤ i' → j ≤ j' → i' < c - b → j' < d - c → meetP (v (c - i')) (v (c - (i' + 1))) (v (c + j')) (v (c + (j' + 1))) = false := fun i' j' h1 h2 h3 h4 => by
        have m := nm (c - (i' + 1)) (c + j') (by omega) (by omega) (by omega)
        rw [show c - (i' + 1) + 1 = c - i' by omega] at m
        rw [meetP_turn1]; exact m
      obtain ⟨i', j', x1, x2, x3, x4, x5, x6, x7, x8⟩ := two_chains (C := fun i => v (c - i)) (E := fun j => v (c + j)) (p := c - b) (q := d - c) hE hG _ i j rfl
        (fun i' j' h1 h2 h3 h4 _ => nm2 i' j' h1 h2 h3 h4) hi hj' o1 o2 hl
      have x5 : LftB (v (c - i')) (v (c - (i' + 1))) (v (c + j')) (v (c + (j' + 1))) := x5
      have x6 : ltP (v (c - i')) (v (c + (j' + 1))) := x6
      have x7 : ltP (v (c + j')) (v (c - (i' + 1))) := x7
      rcases x8 with ⟨e, h⟩ | ⟨e, h⟩
      · have h : leP (v (c - (c - b))) (v (c + (j' + 1))) := h
        rw [show c - (c - b) = b by omega] at h
        have eb : c - (i' + 1) = b := by omega
        have up := lft_up (hE i' x2) (hG j' x4) x6 x7 x5 (nm2 i' j' x1 x3 x2 x4)
        rw [eb] at up x7
        exact ⟨j', x4, x7, h, up.1 h⟩
      · exfalso
        have h : leP (v (c + (d - c))) (v (c - (i' + 1))) := h
        rw [show c + (d - c) = d by omega] at h
        have := chain_le (C := fun j => v (c - j)) (p := c - b) hE (i := i' + 1) (j := c - b) (by omega) (Nat.le_refl _)
        have this : leP (v (c - (i' + 1))) (v (c - (c - b))) := this
        rw [show c - (c - b) = b by omega] at this
        exact ltP_irrefl _ (leP_ltP (leP_trans h this) hbd)
    rcases leP_total (v (c - 1)) (v (c + 1)) with g | g
    · by_cases q : c - b = 1
      · have eb : c - 1 = b := by omega
        rw [eb] at t1 g
        exact ⟨0, by omega, by simpa using hcb, by simpa using g, by simpa using t1⟩
      · have g' : ltP (v (c - 1)) (v (c + 1)) := by
          rcases g with e | g
          · rw [e, cross_end] at t1; omega
          · exact g
        have e1 := hE 1 (by omega)
        refine go 1 0 (.inl (by omega)) (by omega) (by omega) (by simpa using g') (by simpa using ltP_trans e0 e1) ⟨fun _ => by simpa using t1, fun h => ?_⟩
        exact absurd (leP_ltP (by simpa using h) e0) (ltP_irrefl _)
    · by_cases q : d - c = 1
      · exfalso
        have ed : c + 1 = d := by omega
        rw [ed] at g
        have := chain_le (C := fun j => v (c - j)) (p := c - b) hE (i := 1) (j := c - b) (by omega) (Nat.le_refl _)
        have this : leP (v (c - 1)) (v (c - (c - b))) := this
        rw [show c - (c - b) = b by omega] at this
        exact ltP_irrefl _ (ltP_trans (ltP_leP g this) hbd)
      · have g1 := hG 1 (by omega)
        refine go 0 1 (.inr (by omega)) (by omega) (by omega) (by simpa using ltP_trans g0 g1) (by simpa using g) ⟨fun h => ?_, fun _ => by simpa using t2⟩
        exact absurd (leP_ltP (by simpa using h) g0) (ltP_irrefl _)
  obtain ⟨i, hi, a1, a2, a3⟩ := right
  obtain ⟨k, hk, b1, b2, b3⟩ := left
  have eik : i = k := by
    rcases Nat.lt_trichotomy i k with q | q | q
    · exfalso
      have := chain_le (C := fun i => v (c + i)) (p := d - c) hG (i := i + 1) (j := k) (by omega) (by omega)
      exact ltP_irrefl _ (leP_ltP (leP_trans a2 this) b1)
    · exact q
    · exfalso
      have := chain_le (C := fun i => v (c + i)) (p := d - c) hG (i := k + 1) (j := i) (by omega) (by omega)
      exact ltP_irrefl _ (leP_ltP (leP_trans b2 this) a1)
  subst eik
  omega

end Go.Proofs.Ytfdoijjojaehaaa

/- Shape: what both programs call convex in normal form is a convex polygon. -/
namespace Go.Proofs.Ytfdoijjojaehaaa

theorem onP_neg3 (a b p : Pt) : onP (negP a) (negP b) (negP p) = onP a b p := onP_neg a b p
theorem meetP_neg (a b c d : Pt) : meetP (negP a) (negP b) (negP c) (negP d) = meetP a b c d := by
  have o : ∀ a b c : Pt, onB (negP a).1 (negP a).2 (negP b).1 (negP b).2 (negP c).1 (negP c).2 = onB a.1 a.2 b.1 b.2 c.1 c.2 := fun a b c => onP_neg a b c
  have k : ∀ a b c : Pt, cross (negP a).1 (negP a).2 (negP b).1 (negP b).2 (negP c).1 (negP c).2 = cross a.1 a.2 b.1 b.2 c.1 c.2 := fun a b c => crossP_neg a b c
  unfold meetP meetB
  rw [o, o, o, o, k, k, k, k]

/-- The end of a run. -/
theorem run_end (R : Nat → Prop) (n : Nat) (hn : ¬ R n) : ∀ m i, n - i = m → i ≤ n → ∃ j, i ≤ j ∧ j ≤ n ∧ (∀ k, i ≤ k → k < j → R k) ∧ ¬ R j
  | 0, i, hm, hi => ⟨i, Nat.le_refl _, hi, fun k h1 h2 => by omega, by rw [show i = n by omega]; exact hn⟩
  | m + 1, i, hm, hi => by
    by_cases h : R i
    · obtain ⟨j, j1, j2, j3, j4⟩ := run_end R n hn m (i + 1) (by omega) (by omega)
      refine ⟨j, by omega, j2, fun k h1 h2 => ?_, j4⟩
      by_cases e : k = i
      · rw [e]; exact h
      · exact j3 k (by omega) h2
    · exact ⟨i, Nat.le_refl _, hi, fun k h1 h2 => by omega, h⟩

/-- A polygon by its corners: what the two programs ask of it. -/
structure TurnV (l : List Pt) : Prop where
  three : 3 ≤ l.length
  simp_ : SimpleV l
  turn : ∀ i, 0 < crossP (vtx l i) (vtx l (i + 1)) (vtx l (i + 1 + 1))
  low : ∀ i, i < l.length → 0 < i → ltP (vtx l 0) (vtx l i)

theorem turnV {l : List Pt} (h3 : 3 ≤ l.length) (h : convexB l = true) : TurnV l := by
  have hs := convexB_simple h
  unfold convexB at h
  rw [Bool.and_eq_true, List.all_eq_true] at h
  have at_ : ∀ i, i < l.length → convexAt l i = true := fun i hi => h.2 i (List.mem_range.2 hi)
  refine ⟨h3, (simpleV l).1 hs, fun i => ?_, fun i hi h0 => ?_⟩
  · have hm : i % l.length < l.length := Nat.mod_lt _ (by omega)
    have k := at_ (i % l.length) hm
    unfold convexAt at k
    rw [Bool.and_eq_true] at k
    have k1 := k.1
    rw [Bool.not_eq_true', decide_eq_false_iff_not] at k1
    rw [← vtx_lt hm, vtx_nx, vtx_nx, vtx_mod, vtx_mod1] at k1
    have e : vtx l (i % l.length + 1 + 1) = vtx l (i + 1 + 1) := by
      unfold vtx
      rw [Nat.add_assoc, Nat.mod_add_mod]
    rw [e] at k1
    omega
  · have k := at_ i hi
    unfold convexAt at k
    rw [Bool.and_eq_true, Bool.or_eq_true] at k
    rcases k.2 with q | q
    · simp at q; omega
    · rw [vtx_lt hi, vtx_lt (show 0 < l.length by omega)]
      exact firstP_iff.1 q

theorem TurnV.ends {l : List Pt} (h : TurnV l) : vtx l l.length = vtx l 0 := by have := vtx_add l 0; rwa [Nat.zero_add] at this
theorem TurnV.edge {l : List Pt} (h : TurnV l) {i : Nat} (hi : i < l.length) : ltP (vtx l i) (vtx l (i + 1)) ∨ ltP (vtx l (i + 1)) (vtx l i) := by
  rcases leP_total (vtx l i) (vtx l (i + 1)) with q | q
  · rcases q with e | q
    · exact absurd e (h.simp_.ne i hi)
    · exact .inl q
  · exact .inr q
theorem TurnV.first {l : List Pt} (h : TurnV l) : ltP (vtx l 0) (vtx l 1) := h.low 1 (by have := h.three; omega) (by omega)
theorem TurnV.last {l : List Pt} (h : TurnV l) : ltP (vtx l l.length) (vtx l (l.length - 1)) := by
  rw [h.ends]; exact h.low _ (by have := h.three; omega) (by have := h.three; omega)
theorem TurnV.apart {l : List Pt} (h : TurnV l) {i k : Nat} (h2 : i + 2 ≤ k) (hk : k < l.length) (h0 : 0 < i ∨ k + 1 < l.length) : meetP (vtx l i) (vtx l (i + 1)) (vtx l k) (vtx l (k + 1)) = false := by
  refine h.simp_.hit i k h2 hk ?_
  by_cases e : k + 1 = l.length
  · rw [e, Nat.mod_self]; omega
  · rw [Nat.mod_eq_of_lt (by omega)]; omega
theorem TurnV.at_ {l : List Pt} (h : TurnV l) {b : Nat} (hb : 0 < b) : 0 < crossP (vtx l (b - 1)) (vtx l b) (vtx l (b + 1)) := by
  have := h.turn (b - 1)
  rwa [show b - 1 + 1 = b by omega] at this

/-- No spiral comes back to the lowest corner. -/
theorem no_spiral {l : List Pt} (h : TurnV l) : ∀ m a b c, l.length - c ≤ m → a < b → b < c → c < l.length → (∀ i, a ≤ i → i < b → ltP (vtx l i) (vtx l (i + 1))) → (∀ i, b ≤ i → i < c → ltP (vtx l (i + 1)) (vtx l i)) →
    ltP (vtx l c) (vtx l (c + 1)) → ltP (vtx l a) (vtx l c) → False
  | 0, a, b, c, hm, _, _, hc, _, _, _, _ => by omega
  | m + 1, a, b, c, hm, hab, hbc, hc, r1, f1, up, hac => by
    have three := h.three
    have hl := h.last
    -- up to the next top
    obtain ⟨d, d1, d2, d3, d4⟩ := run_end (fun i => ltP (vtx l i) (vtx l (i + 1))) (l.length - 1) (by
      rw [show l.length - 1 + 1 = l.length by omega]
      exact fun q => ltP_asymm q hl) _ c rfl (by omega)
    have hcd : c < d := by
      rcases Nat.lt_or_eq_of_le d1 with q | q
      · exact q
      · rw [← q] at d4; exact absurd up d4
    have down : ltP (vtx l (d + 1)) (vtx l d) := (h.edge (show d < l.length by omega)).resolve_left d4
    have top := lower_top (v := vtx l) hab hbc hcd r1 f1 d3 (h.at_ (by omega)) (h.at_ (by omega)) (fun i k h1 h2 h3 => h.apart h2 (by omega) (.inr (by omega))) hac
    -- down to the next low one
    obtain ⟨e, e1, e2, e3, e4⟩ := run_end (fun i => i < l.length ∧ ltP (vtx l (i + 1)) (vtx l i)) l.length (fun q => by omega) _ d rfl (by omega)
    have hde : d < e := by
      rcases Nat.lt_or_eq_of_le e1 with q | q
      · exact q
      · rw [← q] at e4; exact absurd ⟨by omega, down⟩ e4
    have low := lower_top (v := fun i => negP (vtx l i)) (a := b) (b := c) (c := d) (d := e) hbc hcd hde
      (fun i h1 h2 => ltP_neg.2 (f1 i h1 h2)) (fun i h1 h2 => ltP_neg.2 (d3 i h1 h2)) (fun i h1 h2 => ltP_neg.2 (e3 i h1 h2).2)
      (by rw [crossP_neg]; exact h.at_ (by omega)) (by rw [crossP_neg]; exact h.at_ (by omega))
      (fun i k h1 h2 h3 => by rw [meetP_neg]; exact h.apart h2 (by omega) (.inl (by omega))) (ltP_neg.2 top)
    have low : ltP (vtx l c) (vtx l e) := ltP_neg.1 low
    rcases Nat.lt_or_eq_of_le e2 with q | q
    · have up2 : ltP (vtx l e) (vtx l (e + 1)) := by
        rcases h.edge q with k | k
        · exact k
        · exact absurd ⟨q, k⟩ e4
      exact no_spiral h m c d e (by omega) hcd hde q d3 (fun i h1 h2 => (e3 i h1 h2).2) up2 low
    · rw [q, h.ends] at low
      exact ltP_asymm low (h.low c hc (by omega))

/-- Up once, and down once. -/
theorem TurnV.once {l : List Pt} (h : TurnV l) : ∃ b, 0 < b ∧ b < l.length ∧ (∀ i, i < b → ltP (vtx l i) (vtx l (i + 1))) ∧ ∀ i, b ≤ i → i < l.length → ltP (vtx l (i + 1)) (vtx l i) := by
  have three := h.three
  have hl := h.last
  obtain ⟨b, b1, b2, b3, b4⟩ := run_end (fun i => ltP (vtx l i) (vtx l (i + 1))) (l.length - 1) (by
    rw [show l.length - 1 + 1 = l.length by omega]
    exact fun q => ltP_asymm q hl) _ 0 rfl (by omega)
  have hb : 0 < b := by
    rcases Nat.lt_or_eq_of_le b1 with q | q
    · exact q
    · rw [← q] at b4; exact absurd h.first b4
  have down : ltP (vtx l (b + 1)) (vtx l b) := (h.edge (show b < l.length by omega)).resolve_left b4
  obtain ⟨c, c1, c2, c3, c4⟩ := run_end (fun i => i < l.length ∧ ltP (vtx l (i + 1)) (vtx l i)) l.length (fun q => by omega) _ b rfl (by omega)
  have hbc : b < c := by
    rcases Nat.lt_or_eq_of_le c1 with q | q
    · exact q
    · rw [← q] at c4; exact absurd ⟨by omega, down⟩ c4
  rcases Nat.lt_or_eq_of_le c2 with q | q
  · exfalso
    have up2 : ltP (vtx l c) (vtx l (c + 1)) := by
      rcases h.edge q with k | k
      · exact k
      · exact absurd ⟨q, k⟩ c4
    exact no_spiral h _ 0 b c (Nat.le_refl _) hb hbc q (fun i _ h2 => b3 i (by omega) h2) (fun i h1 h2 => (c3 i h1 h2).2) up2 (h.low c q (by omega))
  · exact ⟨b, hb, by omega, fun i hi => b3 i (by omega) hi, fun i h1 h2 => (c3 i h1 (by omega)).2⟩

def ngP (p : Pt) : Pt := negP p
theorem xr_neg2 (u v : Pt) : xr (negP u) (negP v) = xr u v := by unfold xr negP; grind
theorem xr_negR (u v : Pt) : xr u (negP v) = - xr u v := by unfold xr negP; grind
theorem xr_negL (u v : Pt) : xr (negP u) v = - xr u v := by unfold xr negP; grind

/-- Vectors that turn to the left all the way, in one half plane: each later one is to the left of each earlier one. -/
theorem up_chain {U : Nat → Pt} {s t : Nat} (hu : ∀ k, s ≤ k → k ≤ t → Up (U k)) (hx : ∀ k, s ≤ k → k < t → 0 < xr (U k) (U (k + 1))) : ∀ k, s < k → k ≤ t → 0 < xr (U s) (U k)
  | 0, h, _ => by omega
  | k + 1, h, hk => by
    by_cases e : s = k
    · rw [← e]; exact hx s (Nat.le_refl _) (by omega)
    · have ih := up_chain hu hx k (by omega) (by omega)
      exact xr_trans1 (hu s (Nat.le_refl _) (by omega)) (hu k (by omega) (by omega)) (hu (k + 1) (by omega) hk) ih (by have := hx k (by omega) (by omega); omega)

/-- One round of vectors, each to the left of the one before: what is to the right of the first one stays so. -/
theorem round_once {U : Nat → Pt} {s t n : Nat} (h0 : 0 < s) (hst : s ≤ t) (htn : t ≤ n) (hn : U n = U 0) (hx : ∀ k, k < n → 0 < xr (U k) (U (k + 1)))
    (u1 : ∀ k, k < s → Up (U k)) (u2 : ∀ k, s ≤ k → k < t → Up (negP (U k))) (u3 : ∀ k, t ≤ k → k < n → Up (U k)) {k : Nat} (hk0 : 0 < k) (hk : k + 1 < n) (hle : xr (U 0) (U k) ≤ 0) : xr (U 0) (U (k + 1)) ≤ 0 := by
  have U0 : Up (U 0) := u1 0 h0
  have u3' : ∀ k, t ≤ k → k ≤ n → Up (U k) := fun k h1 h2 => by
    by_cases e : k = n
    · rw [e, hn]; exact U0
    · exact u3 k h1 (by omega)
  have last : ∀ j, t ≤ j → j < n → xr (U 0) (U j) < 0 := fun j h1 h2 => by
    have := up_chain (U := U) (s := j) (t := n) (fun k a b => u3' k (by omega) b) (fun k a b => hx k b) n h2 (Nat.le_refl _)
    rw [hn, xr_swap] at this
    omega
  rcases Nat.lt_or_ge k s with g | g
  · exfalso
    have := up_chain (U := U) (s := 0) (t := k) (fun j _ b => u1 j (by omega)) (fun j _ b => hx j (by omega)) k hk0 (Nat.le_refl _)
    omega
  · rcases Nat.lt_or_ge (k + 1) t with g2 | g2
    · have := xr_trans2 U0 (u2 k g (by omega)) (u2 (k + 1) (by omega) g2) (by rw [xr_negR]; omega) (by rw [xr_neg2]; exact hx k (by omega))
      rw [xr_negR] at this
      omega
    · have := last (k + 1) g2 hk
      omega

/-- What rises and then falls back to where it began is never below. -/
theorem hill {g S : Nat → Int} {N : Nat} (hS0 : S 0 = 0) (hS : ∀ k, k < N → S (k + 1) = S k + g k) (hN : S N = 0) (h0 : 0 < g 0) (hl : g (N - 1) < 0) (hst : ∀ k, 0 < k → k + 1 < N → g k ≤ 0 → g (k + 1) ≤ 0) {k : Nat} (hk0 : 0 < k) (hk : k < N) : 0 < S k := by
  have last : 0 < S (N - 1) := by
    have := hS (N - 1) (by omega)
    rw [show N - 1 + 1 = N by omega] at this
    omega
  apply Classical.byContradiction
  intro hno
  -- from there on it only falls
  have key : ∀ j, k ≤ j → j < N → S j ≤ 0 ∧ (j < N - 1 → g j ≤ 0) ∨ S j ≤ 0 := fun _ _ _ => by
    rename_i j h1 h2
    exact .inr (by
      -- the step into the first such place went down
      have first : ∃ m, 0 < m ∧ m ≤ k ∧ S m ≤ 0 ∧ g (m - 1) ≤ 0 := by
        have : ∀ m, 0 < m → S m ≤ 0 → m < N → ∃ m', 0 < m' ∧ m' ≤ m ∧ S m' ≤ 0 ∧ g (m' - 1) ≤ 0 := by
          intro m
          induction m with
          | zero => intro h; omega
          | succ m ih =>
            intro _ hm hN'
            have e := hS m (by omega)
            by_cases z : m = 0
            · subst z; rw [hS0] at e; omega
            · by_cases p : S m ≤ 0
              · obtain ⟨m', a, b, c⟩ := ih (by omega) p (by omega)
                exact ⟨m', a, by omega, c⟩
              · exact ⟨m + 1, by omega, Nat.le_refl _, hm, by rw [Nat.add_sub_cancel]; omega⟩
        exact this k hk0 (by omega) hk
      obtain ⟨m, m1, m2, m3, m4⟩ := first
      have m0 : m ≠ 1 := fun e => by rw [e] at m4; simp at m4; omega
      have fall : ∀ j, m ≤ j → j < N → g (j - 1) ≤ 0 ∧ S j ≤ 0 := by
        intro j
        induction j with
        | zero => intro h; omega
        | succ j ih =>
          intro h1 h2
          by_cases e : m = j + 1
          · subst e; exact ⟨m4, m3⟩
          · obtain ⟨a, b⟩ := ih (by omega) (by omega)
            have c := hst (j - 1) (by omega) (by omega) a
            rw [show j - 1 + 1 = j by omega] at c
            have e2 := hS j (by omega)
            rw [Nat.add_sub_cancel]
            exact ⟨c, by omega⟩
      exact (fall j (by omega) h2).2)
  have := key (N - 1) (by omega) (by omega)
  omega

/-- CONVEX IN NORMAL FORM. -/
theorem conv_of_convexB {l : List Pt} (h3 : 3 ≤ l.length) (hc : convexB l = true) : Conv l (gt l 0) := by
  have h := turnV h3 hc
  obtain ⟨b, hb, hbn, hr, hf⟩ := h.once
  have per : ∀ i, vtx l (i + l.length) = vtx l i := fun i => vtx_add l i
  have evp : ∀ i, ev l (i + l.length) = ev l i := fun i => by
    unfold ev
    rw [vtx_add, show i + l.length + 1 = i + 1 + l.length by omega, vtx_add]
  have evx : ∀ i, 0 < xr (ev l i) (ev l (i + 1)) := fun i => by
    have := h.turn i
    rw [crossP_xr2] at this
    exact this
  have upr : ∀ i, i < b → Up (ev l i) := fun i hi => up_sub.2 (hr i hi)
  have upf : ∀ i, b ≤ i → i < l.length → Up (negP (ev l i)) := fun i h1 h2 => by
    have := up_sub.2 (hf i h1 h2)
    have e : subP (vtx l i) (vtx l (i + 1)) = negP (ev l i) := by unfold ev subP negP; simp only [Prod.mk.injEq]; omega
    rwa [e] at this
  -- each edge has all corners to its left, or on it
  have left : ∀ i, i < l.length → ∀ k, 0 < k → k < l.length - 1 → 0 < crossP (vtx l i) (vtx l (i + 1)) (vtx l (i + 1 + k)) := fun i hi k hk0 hk => by
    have hst : ∀ k, 0 < k → k + 1 < l.length → xr (ev l i) (ev l (i + k)) ≤ 0 → xr (ev l i) (ev l (i + (k + 1))) ≤ 0 := by
      by_cases g : i < b
      · intro k h1 h2 h3
        exact round_once (U := fun k => ev l (i + k)) (s := b - i) (t := l.length - i) (n := l.length) (by omega) (by omega) (by omega) (by simpa using evp i) (fun k _ => evx (i + k))
          (fun k hk => upr (i + k) (by omega)) (fun k h1 h2 => upf (i + k) (by omega) (by omega))
          (fun k h1 h2 => by
            show Up (ev l (i + k))
            rw [show i + k = (i + k - l.length) + l.length by omega, evp]
            exact upr _ (by omega)) h1 h2 h3
      · intro k h1 h2 h3
        have r := round_once (U := fun k => negP (ev l (i + k))) (s := l.length - i) (t := l.length - i + b) (n := l.length) (by omega) (by omega) (by omega) (by
            show negP (ev l (i + l.length)) = negP (ev l (i + 0))
            rw [evp, Nat.add_zero]) (fun k _ => by
            show 0 < xr (negP (ev l (i + k))) (negP (ev l (i + (k + 1))))
            rw [xr_neg2]; exact evx (i + k))
          (fun k hk => upf (i + k) (by omega) (by omega)) (fun k h1 h2 => by
            show Up (negP (negP (ev l (i + k))))
            rw [negP_negP, show i + k = (i + k - l.length) + l.length by omega, evp]
            exact upr _ (by omega))
          (fun k h1 h2 => by
            show Up (negP (ev l (i + k)))
            rw [show i + k = (i + k - l.length) + l.length by omega, evp]
            exact upf _ (by omega) (by omega)) h1 h2 (by
            show xr (negP (ev l (i + 0))) (negP (ev l (i + k))) ≤ 0
            rw [xr_neg2]; exact h3)
        have r : xr (negP (ev l (i + 0))) (negP (ev l (i + (k + 1)))) ≤ 0 := r
        rw [xr_neg2] at r
        exact r
    have e : crossP (vtx l i) (vtx l (i + 1)) (vtx l (i + 1 + k)) = xr (ev l i) (subP (vtx l (i + 1 + k)) (vtx l (i + 1))) := crossP_xr2 _ _ _
    rw [e]
    refine hill (S := fun k => xr (ev l i) (subP (vtx l (i + 1 + k)) (vtx l (i + 1)))) (g := fun k => xr (ev l i) (ev l (i + 1 + k))) (N := l.length - 1) ?_ (fun k _ => ?_) ?_ ?_ ?_ (fun k h1 h2 h3 => ?_) hk0 hk
    · show xr (ev l i) (subP (vtx l (i + 1)) (vtx l (i + 1))) = 0
      unfold xr subP; grind
    · show xr (ev l i) (subP (vtx l (i + 1 + k + 1)) (vtx l (i + 1))) = xr (ev l i) (subP (vtx l (i + 1 + k)) (vtx l (i + 1))) + xr (ev l i) (subP (vtx l (i + 1 + k + 1)) (vtx l (i + 1 + k)))
      rw [subP_add, subP_add, subP_add]; omega
    · show xr (ev l i) (subP (vtx l (i + 1 + (l.length - 1))) (vtx l (i + 1))) = 0
      rw [show i + 1 + (l.length - 1) = i + l.length by omega, vtx_add]
      unfold ev xr subP; grind
    · exact evx i
    · show xr (ev l i) (ev l (i + 1 + (l.length - 1 - 1))) < 0
      have := evx (i + (l.length - 1))
      rw [show i + (l.length - 1) + 1 = i + l.length by omega, evp, xr_swap] at this
      rw [show i + 1 + (l.length - 1 - 1) = i + (l.length - 1) by omega]
      omega
    · have := hst (k + 1) (by omega) (by omega) (by rw [show i + (k + 1) = i + 1 + k by omega]; exact h3)
      rw [show i + (k + 1 + 1) = i + 1 + (k + 1) by omega] at this
      exact this
  have hedge : ∀ i, i < l.length → Hedge l (vtx l i) (vtx l (i + 1)) := fun i hi => by
    refine ⟨h.simp_.ne i hi, fun p hp => ?_, vtx_mem (by omega) i, vtx_mem (by omega) (i + 1)⟩
    obtain ⟨m, hm, rfl⟩ := List.getElem_of_mem hp
    have em : l[m] = vtx l m := by rw [vtx_lt hm, gt_of (List.getElem?_eq_getElem hm)]
    -- its place behind the edge
    obtain ⟨k, hk, ek⟩ : ∃ k, k < l.length ∧ vtx l m = vtx l (i + 1 + k) := by
      by_cases g : i + 1 ≤ m
      · exact ⟨m - (i + 1), by omega, by rw [show i + 1 + (m - (i + 1)) = m by omega]⟩
      · exact ⟨m + l.length - (i + 1), by omega, by rw [show i + 1 + (m + l.length - (i + 1)) = m + l.length by omega, vtx_add]⟩
    rw [em, ek]
    by_cases k0 : k = 0
    · subst k0
      right
      rw [Nat.add_zero, ← onP_turn, onP_start]
    · by_cases k1 : k = l.length - 1
      · right
        rw [show i + 1 + k = i + l.length by omega, vtx_add, onP_start]
      · exact .inl (left i hi k (by omega) (by omega))
  refine ⟨⟨rfl, by omega, fun i hi => ?_, fun i h0 hi e => ?_⟩, h3, fun p hp => ?_⟩
  · have := hedge i hi
    rwa [vtx_lt hi, ← vtx_nx] at this
  · have := h.low i hi h0
    rw [vtx_lt hi, vtx_lt (show 0 < l.length by omega), e] at this
    exact ltP_irrefl _ this
  · obtain ⟨m, hm, rfl⟩ := List.getElem_of_mem hp
    by_cases e : m = 0
    · subst e; rw [gt_of (List.getElem?_eq_getElem hm)]; exact leP_refl _
    · have := h.low m hm (by omega)
      rw [vtx_lt hm, vtx_lt (show 0 < l.length by omega), gt_of (List.getElem?_eq_getElem hm)] at this
      exact .inr this

end Go.Proofs.Ytfdoijjojaehaaa

/- Shape: the mixed area of two convex polygons: its square is at least the product of the areas. Plain mathematics over two chains of edges that rise. -/
namespace Go.Proofs.Ytfdoijjojaehaaa

/-- One corner less: what the inequality of the longer chain says of the shorter one. -/
theorem one_less {A B T a b k : Int} (ha : 0 ≤ a) (hb : 0 ≤ b) (hk : 0 ≤ k) (hkk : k * k = a * b) (hA : a ≤ A) (hB : b ≤ B) (hT : 2 * k ≤ T) (h : 4 * (A * B) ≤ T * T) :
    4 * ((A - a) * (B - b)) ≤ (T - 2 * k) * (T - 2 * k) := by
  apply Classical.byContradiction
  intro hno
  -- U = A b + B a is less than f = (2 k T - D) / 2, twice
  have P1 : k * k ≤ A * B := by
    rw [hkk]
    have h1 := Int.mul_le_mul_of_nonneg_right hA hb
    have h2 := Int.mul_le_mul_of_nonneg_left hB (show 0 ≤ A by omega)
    omega
  have e1 : 4 * ((A - a) * (B - b)) = 4 * (A * B) - 4 * (A * b + B * a) + 4 * (a * b) := by grind
  have e2 : (T - 2 * k) * (T - 2 * k) = T * T - 4 * (k * T) + 4 * (k * k) := by grind
  rw [e1, e2, hkk] at hno
  have hU : 4 * (A * b + B * a) < 4 * (A * B) - T * T + 4 * (k * T) := by omega
  have u0 : 0 ≤ A * b + B * a := by
    have := Int.mul_nonneg (show 0 ≤ A by omega) hb
    have := Int.mul_nonneg (show 0 ≤ B by omega) ha
    omega
  -- U squared is at least 4 k k A B
  have u2 : 4 * (k * k * (A * B)) ≤ (A * b + B * a) * (A * b + B * a) := by
    have s : 0 ≤ (A * b - B * a) * (A * b - B * a) := by
      rcases Int.le_total 0 (A * b - B * a) with g | g
      · exact Int.mul_nonneg g g
      · have := Int.mul_nonneg (show 0 ≤ -(A * b - B * a) by omega) (show 0 ≤ -(A * b - B * a) by omega)
        rwa [Int.neg_mul_neg] at this
    have id : (A * b + B * a) * (A * b + B * a) = (A * b - B * a) * (A * b - B * a) + 4 * (a * b * (A * B)) := by grind
    rw [id, hkk]; omega
  generalize hP : A * B = P at *
  generalize hUU : A * b + B * a = U at *
  -- F = 4 P - T T + 4 k T, 4 U < F
  have f2 : 16 * (U * U) < (4 * P - T * T + 4 * (k * T)) * (4 * P - T * T + 4 * (k * T)) := by
    have g1 : 4 * U < 4 * P - T * T + 4 * (k * T) := hU
    have g2 : 0 ≤ 4 * U := by omega
    have m1 := Int.mul_le_mul_of_nonneg_left (show 4 * U ≤ 4 * P - T * T + 4 * (k * T) by omega) g2
    have m2 := Int.mul_lt_mul_of_pos_right g1 (show 0 < 4 * P - T * T + 4 * (k * T) by omega)
    have e : 16 * (U * U) = 4 * U * (4 * U) := by grind
    rw [e]; omega
  have f3 : 64 * (k * k * P) < (4 * P - T * T + 4 * (k * T)) * (4 * P - T * T + 4 * (k * T)) := by omega
  -- but it is not: with D = T T - 4 P
  have D0 : 0 ≤ T * T - 4 * P := by omega
  have idF : 64 * (k * k * P) - (4 * P - T * T + 4 * (k * T)) * (4 * P - T * T + 4 * (k * T)) = (T * T - 4 * P) * (8 * (k * T) - 16 * (k * k) - (T * T - 4 * P)) := by grind
  have hD : 0 ≤ 8 * (k * T) - 16 * (k * k) - (T * T - 4 * P) := by
    -- (T - 4 k)^2 is at most 4 P
    have e : 8 * (k * T) - 16 * (k * k) - (T * T - 4 * P) = 4 * P - (T - 4 * k) * (T - 4 * k) := by grind
    rw [e]
    rcases Int.le_total (4 * k) T with g | g
    · -- from F > 0: (T - 2 k)^2 < 4 P + 4 k k
      have e3 : (T - 4 * k) * (T - 4 * k) = (T * T - 4 * (k * T)) + 4 * (k * (4 * k - T)) := by grind
      have m := Int.mul_nonneg hk (show 0 ≤ T - 4 * k by omega)
      have e4 : k * (4 * k - T) = -(k * (T - 4 * k)) := by grind
      rw [e3, e4]
      omega
    · have g1 : 0 ≤ 4 * k - T := by omega
      have g2 : 4 * k - T ≤ 2 * k := by omega
      have m1 := Int.mul_le_mul_of_nonneg_left g2 g1
      have m2 := Int.mul_le_mul_of_nonneg_right g2 (show 0 ≤ 2 * k by omega)
      have e5 : (T - 4 * k) * (T - 4 * k) = (4 * k - T) * (4 * k - T) := by grind
      have e6 : 2 * k * (2 * k) = 4 * (k * k) := by grind
      rw [e5]; omega
  have := Int.mul_nonneg D0 hD
  omega

/-- An edge of both: its direction, the first polygon's part of it, and the second one's. -/
structure Ed where
  u : Pt
  f : Pt
  g : Pt
/-- A part in a direction. -/
def Part (u f : Pt) : Prop := ∃ p q : Int, 0 ≤ p ∧ 0 < q ∧ q * f.1 = p * u.1 ∧ q * f.2 = p * u.2
theorem Part.zero (u : Pt) : Part u (0, 0) := ⟨0, 1, by omega, by omega, by simp, by simp⟩
theorem Part.left {u f z : Pt} (h : Part u f) (hz : 0 ≤ xr z u) : 0 ≤ xr z f := by
  obtain ⟨p, q, hp, hq, h1, h2⟩ := h
  refine nonneg_of_mul hq (s := p * xr z u) ?_ (Int.mul_nonneg hp hz)
  have e : q * xr z f - p * xr z u = z.1 * (q * f.2 - p * u.2) - z.2 * (q * f.1 - p * u.1) := by unfold xr; grind
  rw [h1, h2, Int.sub_self, Int.sub_self, Int.mul_zero, Int.mul_zero] at e
  omega
theorem Part.right {u f z : Pt} (h : Part u f) (hz : 0 ≤ xr u z) : 0 ≤ xr f z := by
  obtain ⟨p, q, hp, hq, h1, h2⟩ := h
  refine nonneg_of_mul hq (s := p * xr u z) ?_ (Int.mul_nonneg hp hz)
  have e : q * xr f z - p * xr u z = (q * f.1 - p * u.1) * z.2 - z.1 * (q * f.2 - p * u.2) := by unfold xr; grind
  rw [h1, h2, Int.sub_self, Int.sub_self, Int.zero_mul, Int.mul_zero] at e
  omega
theorem Part.par {u f : Pt} (h : Part u f) : xr u f = 0 := by
  obtain ⟨p, q, hp, hq, h1, h2⟩ := h
  have e : q * xr u f = 0 := by
    have : q * xr u f = u.1 * (q * f.2) - u.2 * (q * f.1) := by unfold xr; grind
    rw [this, h1, h2]; grind
  exact mul_zero_left hq e
theorem Part.par2 {u f g : Pt} (h : Part u f) (k : Part u g) : xr f g = 0 := by
  obtain ⟨p, q, hp, hq, h1, h2⟩ := h
  have e : q * xr f g = p * xr u g := by
    have : q * xr f g = (q * f.1) * g.2 - g.1 * (q * f.2) := by unfold xr; grind
    rw [this, h1, h2]; unfold xr; grind
  rw [k.par, Int.mul_zero] at e
  exact mul_zero_left hq e
def mulP (c : Int) (p : Pt) : Pt := (c * p.1, c * p.2)
theorem Part.more {u f : Pt} (h : Part u f) {w s : Int} (hw : 0 ≤ w) (hs : 0 ≤ s) : Part u (sumP (mulP w f) (mulP s u)) := by
  obtain ⟨p, q, hp, hq, h1, h2⟩ := h
  refine ⟨w * p + q * s, q, ?_, hq, ?_, ?_⟩
  · have := Int.mul_nonneg hw hp
    have := Int.mul_nonneg (show 0 ≤ q by omega) hs
    omega
  · unfold sumP mulP
    simp only
    have : q * (w * f.1 + s * u.1) = w * (q * f.1) + q * s * u.1 := by grind
    rw [this, h1]; grind
  · unfold sumP mulP
    simp only
    have : q * (w * f.2 + s * u.2) = w * (q * f.2) + q * s * u.2 := by grind
    rw [this, h2]; grind
theorem Part.scale {u f : Pt} (h : Part u f) {w : Int} (hw : 0 ≤ w) : Part u (mulP w f) := by
  have := h.more hw (Int.le_refl 0)
  have e : sumP (mulP w f) (mulP 0 u) = mulP w f := by unfold sumP mulP; simp
  rwa [e] at this

def Ed.ok (e : Ed) : Prop := Up e.u ∧ Part e.u e.f ∧ Part e.u e.g
/-- Edges that rise and turn to the left. -/
def Rise : List Ed → Prop
  | [] => True
  | [e] => e.ok
  | e :: e' :: r => e.ok ∧ 0 < xr e.u e'.u ∧ Rise (e' :: r)

def totF : List Ed → Pt
  | [] => (0, 0)
  | e :: r => sumP e.f (totF r)
def totG : List Ed → Pt
  | [] => (0, 0)
  | e :: r => sumP e.g (totG r)
def qF : List Ed → Int
  | [] => 0
  | e :: r => xr e.f (totF r) + qF r
def qG : List Ed → Int
  | [] => 0
  | e :: r => xr e.g (totG r) + qG r
def qM : List Ed → Int
  | [] => 0
  | e :: r => xr e.f (totG r) + xr e.g (totF r) + qM r

def scaleE (w : Int) (e : Ed) : Ed := ⟨e.u, mulP w e.f, mulP w e.g⟩
theorem xr_mul (w v : Int) (p q : Pt) : xr (mulP w p) (mulP v q) = w * v * xr p q := by unfold xr mulP; grind
theorem mulP_sum (w : Int) (p q : Pt) : mulP w (sumP p q) = sumP (mulP w p) (mulP w q) := by unfold mulP sumP; simp only [Prod.mk.injEq]; constructor <;> grind
theorem scale_all (w : Int) : ∀ r : List Ed, totF (r.map (scaleE w)) = mulP w (totF r) ∧ totG (r.map (scaleE w)) = mulP w (totG r) ∧ qF (r.map (scaleE w)) = w * w * qF r ∧ qG (r.map (scaleE w)) = w * w * qG r ∧ qM (r.map (scaleE w)) = w * w * qM r
  | [] => by simp [totF, totG, qF, qG, qM, mulP]
  | e :: r => by
    obtain ⟨h1, h2, h3, h4, h5⟩ := scale_all w r
    simp only [List.map_cons, totF, totG, qF, qG, qM, h1, h2, h3, h4, h5]
    refine ⟨?_, ?_, ?_, ?_, ?_⟩
    · rw [mulP_sum]; rfl
    · rw [mulP_sum]; rfl
    · rw [show (scaleE w e).f = mulP w e.f from rfl, xr_mul]; grind
    · rw [show (scaleE w e).g = mulP w e.g from rfl, xr_mul]; grind
    · rw [show (scaleE w e).f = mulP w e.f from rfl, show (scaleE w e).g = mulP w e.g from rfl, xr_mul, xr_mul]; grind
theorem Rise.scale {w : Int} (hw : 0 ≤ w) : ∀ {r : List Ed}, Rise r → Rise (r.map (scaleE w))
  | [], _ => trivial
  | [e], h => ⟨h.1, h.2.1.scale hw, h.2.2.scale hw⟩
  | e :: e' :: r, h => ⟨⟨h.1.1, h.1.2.1.scale hw, h.1.2.2.scale hw⟩, h.2.1, Rise.scale hw (r := e' :: r) h.2.2⟩
theorem Rise.head {e : Ed} {r : List Ed} (h : Rise (e :: r)) : e.ok := by
  cases r with
  | nil => exact h
  | cons e' r => exact h.1
theorem Rise.tail {e : Ed} {r : List Ed} (h : Rise (e :: r)) : Rise r := by
  cases r with
  | nil => trivial
  | cons e' r => exact h.2.2
/-- What comes later is to the left. -/
theorem Rise.later : ∀ {r : List Ed} {e : Ed}, Rise (e :: r) → ∀ d ∈ r, 0 < xr e.u d.u
  | [], _, _, _, h => by cases h
  | e' :: r, e, h, d, hd => by
    rcases List.mem_cons.1 hd with rfl | hd
    · exact h.2.1
    · have ih := Rise.later (e := e') h.2.2 d hd
      have ok : d.ok := by
        have : ∀ {r : List Ed}, Rise r → ∀ d ∈ r, d.ok := by
          intro r
          induction r with
          | nil => intro _ d hd; cases hd
          | cons x r ihr =>
            intro hx d hd
            rcases List.mem_cons.1 hd with rfl | hd
            · exact hx.head
            · exact ihr hx.tail d hd
        exact this h.2.2.tail d hd
      exact xr_trans1 h.1.1 h.2.2.head.1 ok.1 h.2.1 (by omega)
theorem tot_left {z : Pt} : ∀ {r : List Ed}, (∀ d ∈ r, 0 ≤ xr z d.u) → Rise r → 0 ≤ xr z (totF r) ∧ 0 ≤ xr z (totG r)
  | [], _, _ => by unfold totF totG xr; simp
  | e :: r, h, hr => by
    obtain ⟨h1, h2⟩ := tot_left (r := r) (fun d hd => h d (List.mem_cons_of_mem _ hd)) hr.tail
    have a := hr.head.2.1.left (h e (by simp))
    have b := hr.head.2.2.left (h e (by simp))
    have e1 : xr z (sumP e.f (totF r)) = xr z e.f + xr z (totF r) := by unfold xr sumP; grind
    have e2 : xr z (sumP e.g (totG r)) = xr z e.g + xr z (totG r) := by unfold xr sumP; grind
    unfold totF totG
    omega
theorem q_nonneg : ∀ {r : List Ed}, Rise r → 0 ≤ qF r ∧ 0 ≤ qG r ∧ 0 ≤ qM r
  | [], _ => by simp [qF, qG, qM]
  | e :: r, h => by
    obtain ⟨h1, h2, h3⟩ := q_nonneg h.tail
    obtain ⟨t1, t2⟩ := tot_left (z := e.u) (fun d hd => by have := h.later d hd; omega) h.tail
    have a := h.head.2.1.right t1
    have b := h.head.2.2.right t2
    have c := h.head.2.1.right t2
    have d := h.head.2.2.right t1
    unfold qF qG qM
    omega

/-- The second of three edges, taken into the first one and the third one. -/
def fuse1 (w : Int) (a b c : Ed) : Ed := ⟨a.u, sumP (mulP w a.f) (mulP (xr b.f c.u) a.u), sumP (mulP w a.g) (mulP (xr b.g c.u) a.u)⟩
def fuse3 (w : Int) (a b c : Ed) : Ed := ⟨c.u, sumP (mulP w c.f) (mulP (xr a.u b.f) c.u), sumP (mulP w c.g) (mulP (xr a.u b.g) c.u)⟩
def fused (a b c : Ed) (r : List Ed) : List Ed := fuse1 (xr a.u c.u) a b c :: fuse3 (xr a.u c.u) a b c :: r.map (scaleE (xr a.u c.u))

theorem fused_rise {a b c : Ed} {r : List Ed} (h : Rise (a :: b :: c :: r)) : 0 < xr a.u c.u ∧ Rise (fused a b c r) := by
  have hw : 0 < xr a.u c.u := h.later c (by simp)
  have hbc : 0 < xr b.u c.u := h.2.2.2.1
  have hab : 0 < xr a.u b.u := h.2.1
  have oka := h.head
  have okb := h.tail.head
  have okc := h.tail.tail.head
  have k1 : (fuse1 (xr a.u c.u) a b c).ok := ⟨oka.1, oka.2.1.more (by omega) (okb.2.1.right (by omega)), oka.2.2.more (by omega) (okb.2.2.right (by omega))⟩
  have k3 : (fuse3 (xr a.u c.u) a b c).ok := ⟨okc.1, okc.2.1.more (by omega) (okb.2.1.left (by omega)), okc.2.2.more (by omega) (okb.2.2.left (by omega))⟩
  refine ⟨hw, k1, hw, ?_⟩
  cases r with
  | nil => exact k3
  | cons d r =>
    refine ⟨k3, ?_, ?_⟩
    · exact h.tail.tail.2.1
    · exact Rise.scale (w := xr a.u c.u) (by omega) (r := d :: r) h.tail.tail.tail

theorem cramer (a c f : Pt) : mulP (xr a c) f = sumP (mulP (xr f c) a) (mulP (xr a f) c) := by unfold mulP sumP xr; simp only [Prod.mk.injEq]; constructor <;> grind

theorem fused_tot {a b c : Ed} (r : List Ed) : totF (fused a b c r) = mulP (xr a.u c.u) (totF (a :: b :: c :: r)) ∧ totG (fused a b c r) = mulP (xr a.u c.u) (totG (a :: b :: c :: r)) := by
  obtain ⟨h1, h2, -⟩ := scale_all (xr a.u c.u) r
  have k1 := cramer a.u c.u b.f
  have k2 := cramer a.u c.u b.g
  constructor
  · simp only [fused, totF, h1, mulP_sum, k1, fuse1, fuse3]
    unfold sumP; simp only [Prod.mk.injEq]; constructor <;> omega
  · simp only [fused, totG, h2, mulP_sum, k2, fuse1, fuse3]
    unfold sumP; simp only [Prod.mk.injEq]; constructor <;> omega

end Go.Proofs.Ytfdoijjojaehaaa
