/- Shape: a hull is convex in normal form, as the reference finds it. -/
import Derived.Test.YtnijcdphmibjaaaHullWrap
namespace Go.Proofs.Ytnijcdphmibjaaa

theorem hedge_next {P : List Pt} {a b c : Pt} (h : Hedge P a b) (k : Hedge P a c) : b = c := by
  have h1 := h.ok c k.snd
  have h2 := k.ok b h.snd
  have e := crossP_swap a b c
  have z1 := h1.nonneg
  have z2 := h2.nonneg
  rcases h1 with q | q
  · omega
  · rcases h2 with r | r
    · omega
    · exact (on_both q r).symm

theorem zero_of {p q X Y : Int} (hp : 0 < p) (hq : 0 < q) (h : p * X = q * Y) (hX : X ≤ 0) (hY : 0 ≤ Y) : X = 0 ∧ Y = 0 := by
  have h1 : 0 ≤ q * Y := Int.mul_nonneg (by omega) hY
  have h2 : 0 ≤ p * -X := Int.mul_nonneg (by omega) (by omega)
  rw [Int.mul_neg] at h2
  have e1 : p * X = 0 := by omega
  have e2 : q * Y = 0 := by omega
  exact ⟨(Int.mul_eq_zero.1 e1).resolve_left (by omega), (Int.mul_eq_zero.1 e2).resolve_left (by omega)⟩

/-- A point strictly between two others sees them on both sides of every line through it. -/
theorem mid_zero {ux uy wx wy ex ey : Int} (hp : ux * wy = wx * uy) (bx : btw ux (ux + wx)) (hby : btw uy (uy + wy)) (hu : ¬ (ux = 0 ∧ uy = 0)) (hw : ¬ (wx = 0 ∧ wy = 0))
    (na : ex * uy - ux * ey ≤ 0) (nb : 0 ≤ ex * wy - wx * ey) : ex * uy - ux * ey = 0 ∧ ex * wy - wx * ey = 0 := by
  unfold btw at bx hby
  have k1 : wx * (ex * uy - ux * ey) = ux * (ex * wy - wx * ey) := by grind
  have k2 : wy * (ex * uy - ux * ey) = uy * (ex * wy - wx * ey) := by grind
  generalize ex * uy - ux * ey = X at *
  generalize ex * wy - wx * ey = Y at *
  by_cases hx : ux = 0
  · have hy : uy ≠ 0 := fun e => hu ⟨hx, e⟩
    rw [hx, Int.zero_mul] at hp
    have hwx : wx = 0 := (Int.mul_eq_zero.1 hp.symm).resolve_right hy
    have hwy : wy ≠ 0 := fun e => hw ⟨hwx, e⟩
    rcases Int.lt_or_lt_of_ne hy with g | g
    · exact zero_of (p := -wy) (q := -uy) (by omega) (by omega) (by rw [Int.neg_mul, Int.neg_mul, k2]) na nb
    · exact zero_of (p := wy) (q := uy) (by omega) (by omega) k2 na nb
  · have hwx : wx ≠ 0 := fun e => by
      rw [e, Int.zero_mul] at hp
      have := (Int.mul_eq_zero.1 hp).resolve_left hx
      exact hw ⟨e, this⟩
    rcases Int.lt_or_lt_of_ne hx with g | g
    · exact zero_of (p := -wx) (q := -ux) (by omega) (by omega) (by rw [Int.neg_mul, Int.neg_mul, k1]) na nb
    · exact zero_of (p := wx) (q := ux) (by omega) (by omega) k1 na nb

theorem mid_no {ux uy wx wy ex ey : Int} (hp : ux * wy = wx * uy) (bx : btw ux (ux + wx)) (hby : btw uy (uy + wy)) (hu : ¬ (ux = 0 ∧ uy = 0)) (hw : ¬ (wx = 0 ∧ wy = 0))
    (a1 : btw (-ux) ex) (a2 : btw (-uy) ey) (b1 : btw wx ex) (b2 : btw wy ey) : False := by
  unfold btw at *
  by_cases hx : ux = 0
  · have hy : uy ≠ 0 := fun e => hu ⟨hx, e⟩
    rw [hx, Int.zero_mul] at hp
    have hwx : wx = 0 := (Int.mul_eq_zero.1 hp.symm).resolve_right hy
    have hwy : wy ≠ 0 := fun e => hw ⟨hwx, e⟩
    omega
  · have hwx : wx ≠ 0 := fun e => by
      rw [e, Int.zero_mul] at hp
      have := (Int.mul_eq_zero.1 hp).resolve_left hx
      exact hw ⟨e, this⟩
    omega

/-- No corner lies within an edge. -/
theorem hedge_between {P : List Pt} {a b c d : Pt} (h : Hedge P a b) (k : Hedge P c d) (on : onP a b c = true) : c = a ∨ c = b := by
  have ka := k.ok a h.fst
  have kb := k.ok b h.snd
  have na := ka.nonneg
  have nb := kb.nonneg
  rw [onP_iff] at on
  obtain ⟨z, o1, o2⟩ := on
  apply Classical.byContradiction
  intro hno
  have hu : ¬ (c.1 - a.1 = 0 ∧ c.2 - a.2 = 0) := fun e => hno (.inl (Prod.ext (by omega) (by omega)))
  have hw : ¬ (b.1 - c.1 = 0 ∧ b.2 - c.2 = 0) := fun e => hno (.inr (Prod.ext (by omega) (by omega)))
  have hp : (c.1 - a.1) * (b.2 - c.2) = (b.1 - c.1) * (c.2 - a.2) := by unfold al at z; grind
  have bx : btw (c.1 - a.1) (c.1 - a.1 + (b.1 - c.1)) := by rw [show c.1 - a.1 + (b.1 - c.1) = b.1 - a.1 by omega]; exact o1
  have hby : btw (c.2 - a.2) (c.2 - a.2 + (b.2 - c.2)) := by rw [show c.2 - a.2 + (b.2 - c.2) = b.2 - a.2 by omega]; exact o2
  have na' : (d.1 - c.1) * (c.2 - a.2) - (c.1 - a.1) * (d.2 - c.2) ≤ 0 := by
    have : crossP c d a = -((d.1 - c.1) * (c.2 - a.2) - (c.1 - a.1) * (d.2 - c.2)) := by unfold crossP cross; grind
    omega
  have nb' : 0 ≤ (d.1 - c.1) * (b.2 - c.2) - (b.1 - c.1) * (d.2 - c.2) := nb
  obtain ⟨z1, z2⟩ := mid_zero hp bx hby hu hw na' nb'
  have oa : onP c d a = true := ka.resolve_left fun q => by
    have : crossP c d a = -((d.1 - c.1) * (c.2 - a.2) - (c.1 - a.1) * (d.2 - c.2)) := by unfold crossP cross; grind
    omega
  have ob : onP c d b = true := kb.resolve_left fun q => by
    have : crossP c d b = (d.1 - c.1) * (b.2 - c.2) - (b.1 - c.1) * (d.2 - c.2) := rfl
    omega
  rw [onP_iff] at oa ob
  exact mid_no (ex := d.1 - c.1) (ey := d.2 - c.2) hp bx hby hu hw (by rw [show -(c.1 - a.1) = a.1 - c.1 by omega]; exact oa.2.1) (by rw [show -(c.2 - a.2) = a.2 - c.2 by omega]; exact oa.2.2) ob.2.1 ob.2.2

theorem hull_walk {P H : List Pt} {s0 : Pt} (h : Hull P H s0) {i j : Nat} (e : gt H (i % H.length) = gt H (j % H.length)) : ∀ k, gt H ((i + k) % H.length) = gt H ((j + k) % H.length)
  | 0 => e
  | k + 1 => by
    have two := h.two
    have ih := hull_walk h e k
    have ei := h.edge ((i + k) % H.length) (Nat.mod_lt _ (by omega))
    have ej := h.edge ((j + k) % H.length) (Nat.mod_lt _ (by omega))
    rw [← ih] at ej
    have := hedge_next ei ej
    have m : ∀ x, nx H (x % H.length) = gt H ((x + 1) % H.length) := fun x => by
      show gt H ((x % H.length + 1) % H.length) = _
      rw [Nat.mod_add_mod]
    rw [m, m] at this
    exact this

/-- All corners are different. -/
theorem hull_inj {P H : List Pt} {s0 : Pt} (h : Hull P H s0) {i j : Nat} (hi : i < H.length) (hj : j < H.length) (e : gt H i = gt H j) : i = j := by
  have key : ∀ i j, i < j → j < H.length → gt H i = gt H j → False := fun i j hij hj e => by
    have := hull_walk h (i := i) (j := j) (by rw [Nat.mod_eq_of_lt (by omega), Nat.mod_eq_of_lt hj]; exact e) (H.length - j)
    rw [show j + (H.length - j) = H.length by omega, Nat.mod_self, Nat.mod_eq_of_lt (by omega), h.first] at this
    exact h.once _ (by omega) (by omega) this
  rcases Nat.lt_trichotomy i j with g | g | g
  · exact (key i j g hj e).elim
  · exact g
  · exact (key j i g hi e.symm).elim

theorem sgn_mul {X Y : Int} (hX : 0 ≤ X) (hY : 0 ≤ Y) : ¬ sgn X * sgn Y < 0 := by
  have key : ∀ Z, 0 ≤ Z → sgn Z = 0 ∨ sgn Z = 1 := fun Z hZ => by
    unfold sgn
    split
    · exact .inr rfl
    · split
      · omega
      · exact .inl rfl
  rcases key X hX with e | e <;> rcases key Y hY with f | f <;> rw [e, f] <;> decide

theorem hedge_apart {P : List Pt} {a b c d a' b' : Pt} (h : Hedge P a b) (k : Hedge P c d) (ha : Hedge P b a') (hd : Hedge P d b') (h1 : c ≠ a) (h2 : c ≠ b) (h3 : d ≠ a) (h4 : d ≠ b) : meetP a b c d = false := by
  have o1 : onP a b c = false := by
    cases e : onP a b c
    · rfl
    · rcases hedge_between h k e with q | q
      · exact absurd q h1
      · exact absurd q h2
  have o2 : onP a b d = false := by
    cases e : onP a b d
    · rfl
    · rcases hedge_between h hd e with q | q
      · exact absurd q h3
      · exact absurd q h4
  have o3 : onP c d a = false := by
    cases e : onP c d a
    · rfl
    · rcases hedge_between k h e with q | q
      · exact absurd q.symm h1
      · exact absurd q.symm h3
  have o4 : onP c d b = false := by
    cases e : onP c d b
    · rfl
    · rcases hedge_between k ha e with q | q
      · exact absurd q.symm h2
      · exact absurd q.symm h4
  have x1 : ¬ sgn (crossP a b c) * sgn (crossP a b d) < 0 := sgn_mul (h.ok c k.fst).nonneg (h.ok d k.snd).nonneg
  show ((onP a b c || onP a b d || onP c d a || onP c d b) || (decide (sgn (crossP a b c) * sgn (crossP a b d) < 0) && decide (sgn (crossP c d a) * sgn (crossP c d b) < 0))) = false
  rw [o1, o2, o3, o4, decide_eq_false x1]
  rfl

theorem eqP_false {a b : Pt} (h : a ≠ b) : eqP a b = false := by
  cases e : eqP a b
  · rfl
  · unfold eqP eqI at e
    rw [Bool.and_eq_true, beq_iff_eq, beq_iff_eq] at e
    exact absurd (Prod.ext e.1 e.2) h

/-- THE HULL IS CONVEX IN NORMAL FORM. -/
theorem hull_convex {P H : List Pt} {s0 : Pt} (h : Hull P H s0) (h3 : 3 ≤ H.length) (hlow : ∀ p ∈ P, leP s0 p) : convexB H = true := by
  have lt : ∀ x, x % H.length < H.length := fun x => Nat.mod_lt _ (by omega)
  have E : ∀ x, Hedge P (gt H (x % H.length)) (gt H ((x + 1) % H.length)) := fun x => by
    have := h.edge (x % H.length) (lt x)
    have m : nx H (x % H.length) = gt H ((x + 1) % H.length) := by
      show gt H ((x % H.length + 1) % H.length) = _
      rw [Nat.mod_add_mod]
    rwa [m] at this
  have ne : ∀ x y, x % H.length ≠ y % H.length → gt H (x % H.length) ≠ gt H (y % H.length) := fun x y hxy e => hxy (hull_inj h (lt x) (lt y) e)
  have nxe : ∀ x, nx H x = gt H ((x + 1) % H.length) := fun _ => rfl
  have s1 : ∀ i, i < H.length → i % H.length ≠ (i + 1) % H.length := fun i hi => by
    rw [Nat.mod_eq_of_lt hi]
    rcases Nat.lt_or_ge (i + 1) H.length with g | g
    · rw [Nat.mod_eq_of_lt g]; omega
    · rw [show i + 1 = H.length by omega, Nat.mod_self]; omega
  have s2 : ∀ i, i < H.length → i % H.length ≠ (i + 1 + 1) % H.length := fun i hi => by
    rw [Nat.mod_eq_of_lt hi]
    rcases Nat.lt_or_ge (i + 1 + 1) H.length with g | g
    · rw [Nat.mod_eq_of_lt g]; omega
    · rcases Nat.lt_or_ge (i + 1) H.length with q | q
      · rw [show i + 1 + 1 = H.length by omega, Nat.mod_self]; omega
      · rw [show i + 1 + 1 = 1 + H.length by omega, Nat.add_mod_right, Nat.mod_eq_of_lt (by omega)]; omega
  have s3 : ∀ i, (i + 1) % H.length ≠ (i + 1 + 1) % H.length := fun i e => by
    have := s1 ((i + 1) % H.length) (lt _)
    rw [Nat.mod_mod, Nat.mod_add_mod] at this
    exact this e
  have gm : ∀ i, i < H.length → gt H i = gt H (i % H.length) := fun i hi => by rw [Nat.mod_eq_of_lt hi]
  have turn : ∀ i, i < H.length → onP (gt H i) (nx H i) (nx H (i + 1)) = false := fun i hi => by
    cases e : onP (gt H i) (nx H i) (nx H (i + 1))
    · rfl
    · rw [nxe, nxe, gm i hi] at e
      rcases hedge_between (E i) (E (i + 1 + 1)) e with q | q
      · exact absurd q.symm (ne _ _ (s2 i hi))
      · exact absurd q.symm (ne _ _ (s3 i))
  have back : ∀ i, i < H.length → onP (nx H i) (nx H (i + 1)) (gt H i) = false := fun i hi => by
    cases e : onP (nx H i) (nx H (i + 1)) (gt H i)
    · rfl
    · rw [nxe, nxe, gm i hi] at e
      rcases hedge_between (E (i + 1)) (E i) e with q | q
      · exact absurd q (ne _ _ (s1 i hi))
      · exact absurd q (ne _ _ (s2 i hi))
  unfold convexB simpleB
  rw [Bool.and_eq_true, Bool.and_eq_true, List.all_eq_true, List.all_eq_true, List.all_eq_true]
  refine ⟨⟨fun i hi => ?_, fun i hi => ?_⟩, fun i hi => ?_⟩
  · rw [List.mem_range] at hi
    unfold zeroAt
    rw [nxe, gm i hi, eqP_false (ne _ _ (s1 i hi))]
    rfl
  · rw [List.mem_range] at hi
    unfold foldAt
    rw [turn i hi, back i hi, Bool.and_eq_true, List.all_eq_true]
    refine ⟨rfl, fun k hk => ?_⟩
    rw [List.mem_range] at hk
    by_cases g : k < i + 2
    · rw [decide_eq_true g]; rfl
    · rw [decide_eq_false g]
      unfold hitAt
      cases e : ((k + 1) % H.length == i)
      · have e' : (k + 1) % H.length ≠ i := by rw [← beq_eq_false_iff_ne]; exact e
        rw [nxe, nxe, gm i hi, gm k hk, hedge_apart (E i) (E k) (E (i + 1)) (E (k + 1)) (ne _ _ ?_) (ne _ _ ?_) (ne _ _ ?_) (ne _ _ ?_)]
        · rfl
        · rw [Nat.mod_eq_of_lt hi, Nat.mod_eq_of_lt hk]; omega
        · rw [Nat.mod_eq_of_lt hk, Nat.mod_eq_of_lt (by omega)]; omega
        · rw [Nat.mod_eq_of_lt hi]; exact e'
        · rw [Nat.mod_eq_of_lt (show i + 1 < H.length by omega)]
          rcases Nat.lt_or_ge (k + 1) H.length with q | q
          · rw [Nat.mod_eq_of_lt q]; omega
          · rw [show k + 1 = H.length by omega, Nat.mod_self]; omega
      · rfl
  · rw [List.mem_range] at hi
    unfold convexAt
    have hc : ¬ crossP (gt H i) (nx H i) (nx H (i + 1)) ≤ 0 := fun q => by
      have l := (E i).ok (nx H (i + 1)) (by rw [nxe]; exact (E (i + 1)).snd)
      rw [← gm i hi, ← nxe] at l
      rcases l with l | l
      · omega
      · rw [turn i hi] at l; cases l
    rw [decide_eq_false hc, Bool.and_eq_true]
    refine ⟨rfl, ?_⟩
    by_cases i0 : i = 0
    · subst i0; rfl
    · have hm : gt H i ∈ P := by rw [gm i hi]; exact (E i).fst
      rcases hlow _ hm with q | q
      · exact absurd q.symm (h.once i (by omega) hi)
      · rw [Bool.or_eq_true]
        right
        rw [h.first]
        unfold firstP firstB
        unfold ltP at q
        simp only [Bool.or_eq_true, Bool.and_eq_true, decide_eq_true_eq, beq_iff_eq]
        exact q

end Go.Proofs.Ytnijcdphmibjaaa
