/- Shape: a hull is one; the points that it was made of lie in it or on its edges. -/
import Derived.Test.YtnijcdphmibjaaaHullConvex
import Derived.Test.YtnijcdphmibjaaaRefWhere
namespace Go.Proofs.Ytnijcdphmibjaaa

/-- The corners, round and round. -/
def vtx (H : List Pt) (x : Nat) : Pt := gt H (x % H.length)
theorem Hull.edgeV {P H : List Pt} {s0 : Pt} (h : Hull P H s0) (x : Nat) : Hedge P (vtx H x) (vtx H (x + 1)) := by
  have two := h.two
  have := h.edge (x % H.length) (Nat.mod_lt _ (by omega))
  have m : nx H (x % H.length) = vtx H (x + 1) := by
    show gt H ((x % H.length + 1) % H.length) = _
    rw [Nat.mod_add_mod]; rfl
  rwa [m] at this
theorem vtx_lt {H : List Pt} {x : Nat} (h : x < H.length) : vtx H x = gt H x := by unfold vtx; rw [Nat.mod_eq_of_lt h]
theorem vtx_nx (H : List Pt) (x : Nat) : nx H x = vtx H (x + 1) := rfl
theorem vtx_add (H : List Pt) (x : Nat) : vtx H (x + H.length) = vtx H x := by unfold vtx; rw [Nat.add_mod_right]
theorem Hull.vtx0 {P H : List Pt} {s0 : Pt} (h : Hull P H s0) : vtx H 0 = s0 := by
  have two := h.two
  rw [vtx_lt (by omega)]; exact h.first

theorem hull_steps {P H K : List Pt} {s0 : Pt} (h : Hull P H s0) (k : Hull P K s0) : ∀ x, vtx H x = vtx K x
  | 0 => by rw [h.vtx0, k.vtx0]
  | x + 1 => by
    have e1 := h.edgeV x
    have e2 := k.edgeV x
    rw [hull_steps h k x] at e1
    exact hedge_next e1 e2

theorem hull_len_le {P H K : List Pt} {s0 : Pt} (h : Hull P H s0) (k : Hull P K s0) : K.length ≤ H.length := by
  have two := h.two
  rcases Nat.lt_or_ge H.length K.length with g | g
  · exfalso
    have e := hull_steps h k H.length
    rw [vtx_lt g] at e
    refine k.once H.length (by omega) g ?_
    rw [← e]
    have := vtx_add H 0
    rw [Nat.zero_add] at this
    rw [this, h.vtx0]
  · exact g

theorem hull_unique {P H K : List Pt} {s0 : Pt} (h : Hull P H s0) (k : Hull P K s0) : H = K := by
  have hl : H.length = K.length := Nat.le_antisymm (hull_len_le k h) (hull_len_le h k)
  refine List.ext_getElem hl fun i h1 h2 => ?_
  have e := hull_steps h k i
  rw [vtx_lt h1, vtx_lt h2] at e
  rw [gt_of (List.getElem?_eq_getElem h1), gt_of (List.getElem?_eq_getElem h2)] at e
  exact e

theorem hull_sub {P H : List Pt} {s0 : Pt} (h : Hull P H s0) {p : Pt} (hp : p ∈ H) : p ∈ P := by
  obtain ⟨i, hi, rfl⟩ := List.getElem_of_mem hp
  have := (h.edge i hi).fst
  rwa [gt_of (List.getElem?_eq_getElem hi)] at this
theorem vtx_mem {H : List Pt} (h : 0 < H.length) (x : Nat) : vtx H x ∈ H := by
  unfold vtx
  rw [gt_of (List.getElem?_eq_getElem (Nat.mod_lt x h))]
  exact List.getElem_mem _
/-- The hull of the hull's corners is itself. -/
theorem hull_self {P H : List Pt} {s0 : Pt} (h : Hull P H s0) : Hull H H s0 := by
  have two := h.two
  refine ⟨h.first, h.two, fun i hi => ?_, h.once⟩
  have e := h.edge i hi
  refine ⟨e.ne, fun p hp => e.ok p (hull_sub h hp), ?_, ?_⟩
  · rw [← vtx_lt hi]; exact vtx_mem (by omega) _
  · rw [vtx_nx]; exact vtx_mem (by omega) _

theorem nodup_le {l m : List Pt} (h : l.Nodup) (hs : ∀ p ∈ l, p ∈ m) : l.length ≤ m.length := by
  induction l generalizing m with
  | nil => simp
  | cons x l ih =>
    obtain ⟨h1, h2⟩ := List.nodup_cons.1 h
    have hx := hs x (by simp)
    have := ih (m := m.erase x) h2 fun p hp => (List.mem_erase_of_ne (fun e => h1 (by rw [← e]; exact hp))).2 (hs p (by simp [hp]))
    rw [List.length_erase_of_mem hx] at this
    have : 0 < m.length := List.length_pos_of_mem hx
    simp only [List.length_cons]
    omega
theorem hull_length {P H : List Pt} {s0 : Pt} (h : Hull P H s0) : H.length ≤ P.length := by
  refine nodup_le ?_ fun p hp => hull_sub h hp
  refine List.pairwise_iff_getElem.2 fun i j hi hj hij e => ?_
  have := hull_inj h (i := i) (j := j) hi hj (by rw [gt_of (List.getElem?_eq_getElem hi), gt_of (List.getElem?_eq_getElem hj)]; exact e)
  omega

theorem crossP_rot (a b p : Pt) : crossP b a p = - crossP a b p := by unfold crossP cross; grind

theorem top_of (f : Nat → Pt) : ∀ k, 0 < k → ∃ j, j < k ∧ ∀ i, i < k → leP (f i) (f j)
  | 0, h => by omega
  | 1, _ => ⟨0, by omega, fun i hi => by
    have : i = 0 := by omega
    rw [this]; exact leP_refl _⟩
  | k + 2, _ => by
    obtain ⟨j, hj, h⟩ := top_of f (k + 1) (by omega)
    rcases leP_total (f j) (f (k + 1)) with g | g
    · refine ⟨k + 1, by omega, fun i hi => ?_⟩
      rcases Nat.lt_or_ge i (k + 1) with q | q
      · exact leP_trans (h i q) g
      · have : i = k + 1 := by omega
        rw [this]; exact leP_refl _
    · refine ⟨j, by omega, fun i hi => ?_⟩
      rcases Nat.lt_or_ge i (k + 1) with q | q
      · exact h i q
      · have : i = k + 1 := by omega
        rw [this]; exact .inr g

theorem no_top {a1 a2 b1 b2 q1 q2 : Int} (ha : 0 ≤ a2) (hb : b2 ≤ 0) (hq : 0 ≤ q2) (h1 : 0 < a1 * q2 - q1 * a2) (h2 : 0 < b1 * q2 - q1 * b2) (h3 : 0 < a1 * b2 - b1 * a2) : False := by
  have id : q2 * (a1 * b2 - b1 * a2) = -((b1 * q2 - q1 * b2) * a2) + (a1 * q2 - q1 * a2) * b2 := by grind
  have n1 : 0 ≤ q2 * (a1 * b2 - b1 * a2) := Int.mul_nonneg hq (by omega)
  have n2 : 0 ≤ (b1 * q2 - q1 * b2) * a2 := Int.mul_nonneg (by omega) ha
  have n3 : 0 ≤ (a1 * q2 - q1 * a2) * -b2 := Int.mul_nonneg (by omega) (by omega)
  rw [Int.mul_neg] at n3
  have z2 : (b1 * q2 - q1 * b2) * a2 = 0 := by omega
  have z3 : (a1 * q2 - q1 * a2) * b2 = 0 := by omega
  have e2 := (Int.mul_eq_zero.1 z2).resolve_left (by omega)
  have e3 := (Int.mul_eq_zero.1 z3).resolve_left (by omega)
  rw [e2, e3, Int.mul_zero, Int.mul_zero] at h3
  omega

theorem two_up {a b c d : Pt} {y : Int} (h1 : a.2 ≤ y) (h2 : y < b.2) (h3 : c.2 ≤ y) (h4 : y < d.2) (k1 : 0 ≤ crossP a b c) (k2 : 0 ≤ crossP a b d) (k3 : 0 ≤ crossP c d a) (k4 : 0 ≤ crossP c d b) : crossP a b c = 0 := by
  have n1 : 0 ≤ (d.2 - y) * crossP a b c := Int.mul_nonneg (by omega) k1
  have n2 : 0 ≤ (y - c.2) * crossP a b d := Int.mul_nonneg (by omega) k2
  have n3 : 0 ≤ (b.2 - y) * crossP c d a := Int.mul_nonneg (by omega) k3
  have n4 : 0 ≤ (y - a.2) * crossP c d b := Int.mul_nonneg (by omega) k4
  have id : (d.2 - y) * crossP a b c + (y - c.2) * crossP a b d + ((b.2 - y) * crossP c d a + (y - a.2) * crossP c d b) = 0 := by unfold crossP cross; grind
  have z : (d.2 - y) * crossP a b c = 0 := by omega
  exact (Int.mul_eq_zero.1 z).resolve_left (by omega)

theorem side_one {l : List Pt} {p : Pt} {m : Nat} (h : ∀ i, i < l.length → left2At l p i = decide (i = m)) : ∀ k, k ≤ l.length → sideTo l p k = if m < k then 1 else -1
  | 0, _ => by rw [if_neg (by omega)]; rfl
  | k + 1, hk => by
    have ih := side_one h k (by omega)
    unfold sideTo
    rw [h k (by omega)]
    by_cases e : k = m
    · rw [decide_eq_true e, if_pos rfl, ih, if_neg (by omega), if_pos (by omega)]; rfl
    · rw [decide_eq_false e, if_neg (by simp), ih]
      by_cases g : m < k
      · rw [if_pos g, if_pos (by omega)]
      · rw [if_neg g, if_neg (by omega)]

/-- EVERY POINT LIES IN THE HULL OR ON ITS EDGES. -/
theorem hull_where {P H : List Pt} {s0 p : Pt} (h : Hull P H s0) (hlow : ∀ p ∈ P, leP s0 p) (hp : p ∈ P) : whereD H p = 0 ∨ whereD H p = 1 := by
  have two := h.two
  by_cases ho : ∃ i, i < H.length ∧ on2At H p i = true
  · obtain ⟨i, hi, e⟩ := ho
    exact .inl (whereD_on hi e)
  · have off : ∀ j, j < H.length → on2At H p j = false := fun j hj => by
      cases e : on2At H p j
      · rfl
      · exact absurd ⟨j, hj, e⟩ ho
    have pos : ∀ i, i < H.length → 0 < crossP (gt H i) (nx H i) p := fun i hi => by
      rcases (h.edge i hi).ok p hp with q | q
      · exact q
      · have := off i hi
        unfold on2At at this
        rw [this] at q; cases q
    have posV : ∀ x, 0 < crossP (vtx H x) (vtx H (x + 1)) p := fun x => by
      have := pos (x % H.length) (Nat.mod_lt _ (by omega))
      have m : nx H (x % H.length) = vtx H (x + 1) := by
        show gt H ((x % H.length + 1) % H.length) = _
        rw [Nat.mod_add_mod]; rfl
      rw [m] at this; exact this
    right
    rw [whereD_off off]
    have up : ∀ i, i < H.length → (left2At H p i = true ↔ (gt H i).2 ≤ p.2 ∧ p.2 < (nx H i).2) := fun i hi => by
      have := pos i hi
      unfold left2At leftB
      rw [show cross (gt H i).1 (gt H i).2 (nx H i).1 (nx H i).2 p.1 p.2 = crossP (gt H i) (nx H i) p from rfl, decide_eq_true this]
      by_cases g1 : p.2 < (gt H i).2 <;> by_cases g2 : p.2 < (nx H i).2 <;> by_cases g3 : (gt H i).2 < (nx H i).2 <;> simp [g1, g2, g3] <;> omega
    have one : ∀ i j, i < H.length → j < H.length → left2At H p i = true → left2At H p j = true → i = j := fun i j hi hj ei ej => by
      obtain ⟨a1, a2⟩ := (up i hi).1 ei
      obtain ⟨b1, b2⟩ := (up j hj).1 ej
      have Ei := h.edge i hi
      have Ej := h.edge j hj
      have z := two_up a1 a2 b1 b2 (Ei.ok _ Ej.fst).nonneg (Ei.ok _ Ej.snd).nonneg (Ej.ok _ Ei.fst).nonneg (Ej.ok _ Ei.snd).nonneg
      have on : onP (gt H i) (nx H i) (gt H j) = true := (Ei.ok _ Ej.fst).resolve_left (by omega)
      rcases hedge_between Ei Ej on with q | q
      · exact (hull_inj h hj hi q).symm
      · rw [q] at b1; omega
    have some_up : ∃ m, m < H.length ∧ left2At H p m = true := by
      obtain ⟨k, hk, htop⟩ := top_of (vtx H) H.length (by omega)
      have topV : ∀ x, leP (vtx H x) (vtx H k) := fun x => by
        have := htop (x % H.length) (Nat.mod_lt _ (by omega))
        have e : vtx H (x % H.length) = vtx H x := by unfold vtx; rw [Nat.mod_mod]
        rw [e] at this; exact this
      have hhi : p.2 < (vtx H k).2 := by
        apply Classical.byContradiction
        intro hno
        have c1 := posV (k + H.length - 1)
        have c2 := posV k
        have e1 : vtx H (k + H.length - 1 + 1) = vtx H k := by rw [show k + H.length - 1 + 1 = k + H.length by omega]; exact vtx_add H k
        rw [e1] at c1
        have t1 := topV (k + H.length - 1)
        have t2 := topV (k + 1)
        have E1 := h.edgeV (k + H.length - 1)
        rw [e1] at E1
        have E2 := h.edgeV k
        have c3 : 0 < crossP (vtx H (k + H.length - 1)) (vtx H k) (vtx H (k + 1)) := by
          rcases E1.ok _ E2.snd with q | q
          · exact q
          · exfalso
            rcases E1.ok p hp with r | r
            · have hq := onP_cross q
              -- the next corner lies on the edge before: it is its first point
              rcases hedge_between E1 (h.edgeV (k + 1)) q with g | g
              · rw [g] at c2
                have := crossP_rot (vtx H (k + H.length - 1)) (vtx H k) p
                omega
              · exact E2.ne g.symm
            · have := onP_cross r
              omega
        have f1 : (vtx H (k + H.length - 1)).2 ≤ (vtx H k).2 := by
          rcases t1 with e | e
          · rw [e]; exact Int.le_refl _
          · unfold ltP at e; omega
        have f2 : (vtx H (k + 1)).2 ≤ (vtx H k).2 := by
          rcases t2 with e | e
          · rw [e]; exact Int.le_refl _
          · unfold ltP at e; omega
        rw [crossP_xr2] at c1 c3
        rw [crossP_xr] at c2
        unfold xr subP at c1 c2 c3
        simp only at c1 c2 c3
        exact no_top (a2 := (vtx H k).2 - (vtx H (k + H.length - 1)).2) (b2 := (vtx H (k + 1)).2 - (vtx H k).2) (q2 := p.2 - (vtx H k).2) (by omega) (by omega) (by omega) c1 c2 c3
      have h0 : (vtx H 0).2 ≤ p.2 := by
        rw [h.vtx0]
        rcases hlow p hp with e | e
        · rw [e]; exact Int.le_refl _
        · unfold ltP at e; omega
      have climb : ∀ x, p.2 < (vtx H x).2 → ∃ m, m < x ∧ (vtx H m).2 ≤ p.2 ∧ p.2 < (vtx H (m + 1)).2 := by
        intro x
        induction x with
        | zero => intro hx; omega
        | succ x ih =>
          intro hx
          rcases Int.lt_or_le p.2 (vtx H x).2 with g | g
          · obtain ⟨m, m1, m2⟩ := ih g
            exact ⟨m, by omega, m2⟩
          · exact ⟨x, by omega, g, hx⟩
      obtain ⟨m, m1, m2, m3⟩ := climb k hhi
      have hm : m < H.length := by omega
      exact ⟨m, hm, (up m hm).2 ⟨by rw [← vtx_lt hm]; exact m2, m3⟩⟩
    obtain ⟨m, hm, em⟩ := some_up
    have all : ∀ i, i < H.length → left2At H p i = decide (i = m) := fun i hi => by
      by_cases e : i = m
      · rw [e, em, decide_eq_true rfl]
      · rw [decide_eq_false e]
        cases q : left2At H p i
        · rfl
        · exact absurd (one i m hi hm q em) e
    rw [side_one all H.length (Nat.le_refl _), if_pos hm]

end Go.Proofs.Ytnijcdphmibjaaa
