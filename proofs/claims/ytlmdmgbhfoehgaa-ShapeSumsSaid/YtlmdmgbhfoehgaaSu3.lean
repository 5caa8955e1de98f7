/- Parts of the proof, one after the other: HullConvex, Convex, DevTop, DevWhere, RefWhere, HullWhere, PtsOwn, PtsCut, PtRow, WhereTop, DevBeyond. -/
import Derived.Test.YtlmdmgbhfoehgaaSu2
import Derived.Test.YtlmdmgbhfoehgaaSu1
import Derived.Maps.AppendAt
import Derived.Deep.AppendLies
import Derived.OwnWalk
import Derived.Laws.Rows
import Derived.Laws.MakeOwn
/- Shape: a hull is convex in normal form, as the reference finds it. -/
namespace Go.Proofs.Ytlmdmgbhfoehgaa

theorem hedge_next {P : List Pt} {a b c : Pt} (h : Hedge P a b) (k : Hedge P a c) : b = c := by
  have h1 := h.ok c k.snd
  have h2 := k.ok b h.snd
  have e := crossP_swap a b c
  have z1 := h1.nonneg
  have z2 := h2.nonneg
  rcases h1 with q | q
  · omega
  · rcases h2 with r | r
    · omega
    · exact (on_both q r).symm

theorem zero_of {p q X Y : Int} (hp : 0 < p) (hq : 0 < q) (h : p * X = q * Y) (hX : X ≤ 0) (hY : 0 ≤ Y) : X = 0 ∧ Y = 0 := by
  have h1 : 0 ≤ q * Y := Int.mul_nonneg (by omega) hY
  have h2 : 0 ≤ p * -X := Int.mul_nonneg (by omega) (by omega)
  rw [Int.mul_neg] at h2
  have e1 : p * X = 0 := by omega
  have e2 : q * Y = 0 := by omega
  exact ⟨(Int.mul_eq_zero.1 e1).resolve_left (by omega), (Int.mul_eq_zero.1 e2).resolve_left (by omega)⟩

/-- A point strictly between two others sees them on both sides of every line through it. -/
theorem mid_zero {ux uy wx wy ex ey : Int} (hp : ux * wy = wx * uy) (bx : btw ux (ux + wx)) (hby : btw uy (uy + wy)) (hu : ¬ (ux = 0 ∧ uy = 0)) (hw : ¬ (wx = 0 ∧ wy = 0))
    (na : ex * uy - ux * ey ≤ 0) (nb : 0 ≤ ex * wy - wx * ey) : ex * uy - ux * ey = 0 ∧ ex * wy - wx * ey = 0 := by
  unfold btw at bx hby
  have k1 : wx * (ex * uy - ux * ey) = ux * (ex * wy - wx * ey) := by grind
  have k2 : wy * (ex * uy - ux * ey) = uy * (ex * wy - wx * ey) := by grind
  generalize ex * uy - ux * ey = X at *
  generalize ex * wy - wx * ey = Y at *
  by_cases hx : ux = 0
  · have hy : uy ≠ 0 := fun e => hu ⟨hx, e⟩
    rw [hx, Int.zero_mul] at hp
    have hwx : wx = 0 := (Int.mul_eq_zero.1 hp.symm).resolve_right hy
    have hwy : wy ≠ 0 := fun e => hw ⟨hwx, e⟩
    rcases Int.lt_or_lt_of_ne hy with g | g
    · exact zero_of (p := -wy) (q := -uy) (by omega) (by omega) (by rw [Int.neg_mul, Int.neg_mul, k2]) na nb
    · exact zero_of (p := wy) (q := uy) (by omega) (by omega) k2 na nb
  · have hwx : wx ≠ 0 := fun e => by
      rw [e, Int.zero_mul] at hp
      have := (Int.mul_eq_zero.1 hp).resolve_left hx
      exact hw ⟨e, this⟩
    rcases Int.lt_or_lt_of_ne hx with g | g
    · exact zero_of (p := -wx) (q := -ux) (by omega) (by omega) (by rw [Int.neg_mul, Int.neg_mul, k1]) na nb
    · exact zero_of (p := wx) (q := ux) (by omega) (by omega) k1 na nb

theorem mid_no {ux uy wx wy ex ey : Int} (hp : ux * wy = wx * uy) (bx : btw ux (ux + wx)) (hby : btw uy (uy + wy)) (hu : ¬ (ux = 0 ∧ uy = 0)) (hw : ¬ (wx = 0 ∧ wy = 0))
    (a1 : btw (-ux) ex) (a2 : btw (-uy) ey) (b1 : btw wx ex) (b2 : btw wy ey) : False := by
  unfold btw at *
  by_cases hx : ux = 0
  · have hy : uy ≠ 0 := fun e => hu ⟨hx, e⟩
    rw [hx, Int.zero_mul] at hp
    have hwx : wx = 0 := (Int.mul_eq_zero.1 hp.symm).resolve_right hy
    have hwy : wy ≠ 0 := fun e => hw ⟨hwx, e⟩
    omega
  · have hwx : wx ≠ 0 := fun e => by
      rw [e, Int.zero_mul] at hp
      have := (Int.mul_eq_zero.1 hp).resolve_left hx
      exact hw ⟨e, this⟩
    omega

/-- No corner lies within an edge. -/
theorem hedge_between {P : List Pt} {a b c d : Pt} (h : Hedge P a b) (k : Hedge P c d) (on : onP a b c = true) : c = a ∨ c = b := by
  have ka := k.ok a h.fst
  have kb := k.ok b h.snd
  have na := ka.nonneg
  have nb := kb.nonneg
  rw [onP_iff] at on
  obtain ⟨z, o1, o2⟩ := on
  apply Classical.byContradiction
  intro hno
  have hu : ¬ (c.1 - a.1 = 0 ∧ c.2 - a.2 = 0) := fun e => hno (.inl (Prod.ext (by omega) (by omega)))
  have hw : ¬ (b.1 - c.1 = 0 ∧ b.2 - c.2 = 0) := fun e => hno (.inr (Prod.ext (by omega) (by omega)))
  have hp : (c.1 - a.1) * (b.2 - c.2) = (b.1 - c.1) * (c.2 - a.2) := by unfold al at z; grind
  have bx : btw (c.1 - a.1) (c.1 - a.1 + (b.1 - c.1)) := by rw [show c.1 - a.1 + (b.1 - c.1) = b.1 - a.1 by omega]; exact o1
  have hby : btw (c.2 - a.2) (c.2 - a.2 + (b.2 - c.2)) := by rw [show c.2 - a.2 + (b.2 - c.2) = b.2 - a.2 by omega]; exact o2
  have na' : (d.1 - c.1) * (c.2 - a.2) - (c.1 - a.1) * (d.2 - c.2) ≤ 0 := by
    have : crossP c d a = -((d.1 - c.1) * (c.2 - a.2) - (c.1 - a.1) * (d.2 - c.2)) := by unfold crossP cross; grind
    omega
  have nb' : 0 ≤ (d.1 - c.1) * (b.2 - c.2) - (b.1 - c.1) * (d.2 - c.2) := nb
  obtain ⟨z1, z2⟩ := mid_zero hp bx hby hu hw na' nb'
  have oa : onP c d a = true := ka.resolve_left fun q => by
    have : crossP c d a = -((d.1 - c.1) * (c.2 - a.2) - (c.1 - a.1) * (d.2 - c.2)) := by unfold crossP cross; grind
    omega
  have ob : onP c d b = true := kb.resolve_left fun q => by
    have : crossP c d b = (d.1 - c.1) * (b.2 - c.2) - (b.1 - c.1) * (d.2 - c.2) := rfl
    omega
  rw [onP_iff] at oa ob
  exact mid_no (ex := d.1 - c.1) (ey := d.2 - c.2) hp bx hby hu hw (by rw [show -(c.1 - a.1) = a.1 - c.1 by omega]; exact oa.2.1) (by rw [show -(c.2 - a.2) = a.2 - c.2 by omega]; exact oa.2.2) ob.2.1 ob.2.2

theorem hull_walk {P H : List Pt} {s0 : Pt} (h : Hull P H s0) {i j : Nat} (e : gt H (i % H.length) = gt H (j % H.length)) : ∀ k, gt H ((i + k) % H.length) = gt H ((j + k) % H.length)
  | 0 => e
  | k + 1 => by
    have two := h.two
    have ih := hull_walk h e k
    have ei := h.edge ((i + k) % H.length) (Nat.mod_lt _ (by omega))
    have ej := h.edge ((j + k) % H.length) (Nat.mod_lt _ (by omega))
    rw [← ih] at ej
    have := hedge_next ei ej
    have m : ∀ x, nx H (x % H.length) = gt H ((x + 1) % H.length) := fun x => by
      show gt H ((x % H.length + 1) % H.length) = _
      rw [Nat.mod_add_mod]
    rw [m, m] at this
    exact this

/-- All corners are different. -/
theorem hull_inj {P H : List Pt} {s0 : Pt} (h : Hull P H s0) {i j : Nat} (hi : i < H.length) (hj : j < H.length) (e : gt H i = gt H j) : i = j := by
  have key : ∀ i j, i < j → j < H.length → gt H i = gt H j → False := fun i j hij hj e => by
    have := hull_walk h (i := i) (j := j) (by rw [Nat.mod_eq_of_lt (by omega), Nat.mod_eq_of_lt hj]; exact e) (H.length - j)
    rw [show j + (H.length - j) = H.length by omega, Nat.mod_self, Nat.mod_eq_of_lt (by omega), h.first] at this
    exact h.once _ (by omega) (by omega) this
  rcases Nat.lt_trichotomy i j with g | g | g
  · exact (key i j g hj e).elim
  · exact g
  · exact (key j i g hi e.symm).elim

theorem sgn_mul {X Y : Int} (hX : 0 ≤ X) (hY : 0 ≤ Y) : ¬ sgn X * sgn Y < 0 := by
  have key : ∀ Z, 0 ≤ Z → sgn Z = 0 ∨ sgn Z = 1 := fun Z hZ => by
    unfold sgn
    split
    · exact .inr rfl
    · split
      · omega
      · exact .inl rfl
  rcases key X hX with e | e <;> rcases key Y hY with f | f <;> rw [e, f] <;> decide

theorem hedge_apart {P : List Pt} {a b c d a' b' : Pt} (h : Hedge P a b) (k : Hedge P c d) (ha : Hedge P b a') (hd : Hedge P d b') (h1 : c ≠ a) (h2 : c ≠ b) (h3 : d ≠ a) (h4 : d ≠ b) : meetP a b c d = false := by
  have o1 : onP a b c = false := by
    cases e : onP a b c
    · rfl
    · rcases hedge_between h k e with q | q
      · exact absurd q h1
      · exact absurd q h2
  have o2 : onP a b d = false := by
    cases e : onP a b d
    · rfl
    · rcases hedge_between h hd e with q | q
      · exact absurd q h3
      · exact absurd q h4
  have o3 : onP c d a = false := by
    cases e : onP c d a
    · rfl
    · rcases hedge_between k h e with q | q
      · exact absurd q.symm h1
      · exact absurd q.symm h3
  have o4 : onP c d b = false := by
    cases e : onP c d b
    · rfl
    · rcases hedge_between k ha e with q | q
      · exact absurd q.symm h2
      · exact absurd q.symm h4
  have x1 : ¬ sgn (crossP a b c) * sgn (crossP a b d) < 0 := sgn_mul (h.ok c k.fst).nonneg (h.ok d k.snd).nonneg
  show ((onP a b c || onP a b d || onP c d a || onP c d b) || (decide (sgn (crossP a b c) * sgn (crossP a b d) < 0) && decide (sgn (crossP c d a) * sgn (crossP c d b) < 0))) = false
  rw [o1, o2, o3, o4, decide_eq_false x1]
  rfl

theorem eqP_false {a b : Pt} (h : a ≠ b) : eqP a b = false := by
  cases e : eqP a b
  · rfl
  · unfold eqP eqI at e
    rw [Bool.and_eq_true, beq_iff_eq, beq_iff_eq] at e
    exact absurd (Prod.ext e.1 e.2) h

/-- THE HULL IS CONVEX IN NORMAL FORM. -/
theorem hull_convex {P H : List Pt} {s0 : Pt} (h : Hull P H s0) (h3 : 3 ≤ H.length) (hlow : ∀ p ∈ P, leP s0 p) : convexB H = true := by
  have lt : ∀ x, x % H.length < H.length := fun x => Nat.mod_lt _ (by omega)
  have E : ∀ x, Hedge P (gt H (x % H.length)) (gt H ((x + 1) % H.length)) := fun x => by
    have := h.edge (x % H.length) (lt x)
    have m : nx H (x % H.length) = gt H ((x + 1) % H.length) := by
      show gt H ((x % H.length + 1) % H.length) = _
      rw [Nat.mod_add_mod]
    rwa [m] at this
  have ne : ∀ x y, x % H.length ≠ y % H.length → gt H (x % H.length) ≠ gt H (y % H.length) := fun x y hxy e => hxy (hull_inj h (lt x) (lt y) e)
  have nxe : ∀ x, nx H x = gt H ((x + 1) % H.length) := fun _ => rfl
  have s1 : ∀ i, i < H.length → i % H.length ≠ (i + 1) % H.length := fun i hi => by
    rw [Nat.mod_eq_of_lt hi]
    rcases Nat.lt_or_ge (i + 1) H.length with g | g
    · rw [Nat.mod_eq_of_lt g]; omega
    · rw [show i + 1 = H.length by omega, Nat.mod_self]; omega
  have s2 : ∀ i, i < H.length → i % H.length ≠ (i + 1 + 1) % H.length := fun i hi => by
    rw [Nat.mod_eq_of_lt hi]
    rcases Nat.lt_or_ge (i + 1 + 1) H.length with g | g
    · rw [Nat.mod_eq_of_lt g]; omega
    · rcases Nat.lt_or_ge (i + 1) H.length with q | q
      · rw [show i + 1 + 1 = H.length by omega, Nat.mod_self]; omega
      · rw [show i + 1 + 1 = 1 + H.length by omega, Nat.add_mod_right, Nat.mod_eq_of_lt (by omega)]; omega
  have s3 : ∀ i, (i + 1) % H.length ≠ (i + 1 + 1) % H.length := fun i e => by
    have := s1 ((i + 1) % H.length) (lt _)
    rw [Nat.mod_mod, Nat.mod_add_mod] at this
    exact this e
  have gm : ∀ i, i < H.length → gt H i = gt H (i % H.length) := fun i hi => by rw [Nat.mod_eq_of_lt hi]
  have turn : ∀ i, i < H.length → onP (gt H i) (nx H i) (nx H (i + 1)) = false := fun i hi => by
    cases e : onP (gt H i) (nx H i) (nx H (i + 1))
    · rfl
    · rw [nxe, nxe, gm i hi] at e
      rcases hedge_between (E i) (E (i + 1 + 1)) e with q | q
      · exact absurd q.symm (ne _ _ (s2 i hi))
      · exact absurd q.symm (ne _ _ (s3 i))
  have back : ∀ i, i < H.length → onP (nx H i) (nx H (i + 1)) (gt H i) = false := fun i hi => by
    cases e : onP (nx H i) (nx H (i + 1)) (gt H i)
    · rfl
    · rw [nxe, nxe, gm i hi] at e
      rcases hedge_between (E (i + 1)) (E i) e with q | q
      · exact absurd q (ne _ _ (s1 i hi))
      · exact absurd q (ne _ _ (s2 i hi))
  unfold convexB simpleB
  rw [Bool.and_eq_true, Bool.and_eq_true, List.all_eq_true, List.all_eq_true, List.all_eq_true]
  refine ⟨⟨fun i hi => ?_, fun i hi => ?_⟩, fun i hi => ?_⟩
  · rw [List.mem_range] at hi
    unfold zeroAt
    rw [nxe, gm i hi, eqP_false (ne _ _ (s1 i hi))]
    rfl
  · rw [List.mem_range] at hi
    unfold foldAt
    rw [turn i hi, back i hi, Bool.and_eq_true, List.all_eq_true]
    refine ⟨rfl, fun k hk => ?_⟩
    rw [List.mem_range] at hk
    by_cases g : k < i + 2
    · rw [decide_eq_true g]; rfl
    · rw [decide_eq_false g]
      unfold hitAt
      cases e : ((k + 1) % H.length == i)
      · have e' : (k + 1) % H.length ≠ i := by rw [← beq_eq_false_iff_ne]; exact e
        rw [nxe, nxe, gm i hi, gm k hk, hedge_apart (E i) (E k) (E (i + 1)) (E (k + 1)) (ne _ _ ?_) (ne _ _ ?_) (ne _ _ ?_) (ne _ _ ?_)]
        · rfl
        · rw [Nat.mod_eq_of_lt hi, Nat.mod_eq_of_lt hk]; omega
        · rw [Nat.mod_eq_of_lt hk, Nat.mod_eq_of_lt (by omega)]; omega
        · rw [Nat.mod_eq_of_lt hi]; exact e'
        · rw [Nat.mod_eq_of_lt (show i + 1 < H.length by omega)]
          rcases Nat.lt_or_ge (k + 1) H.length with q | q
          · rw [Nat.mod_eq_of_lt q]; omega
          · rw [show k + 1 = H.length by omega, Nat.mod_self]; omega
      · rfl
  · rw [List.mem_range] at hi
    unfold convexAt
    have hc : ¬ crossP (gt H i) (nx H i) (nx H (i + 1)) ≤ 0 := fun q => by
      have l := (E i).ok (nx H (i + 1)) (by rw [nxe]; exact (E (i + 1)).snd)
      rw [← gm i hi, ← nxe] at l
      rcases l with l | l
      · omega
      · rw [turn i hi] at l; cases l
    rw [decide_eq_false hc, Bool.and_eq_true]
    refine ⟨rfl, ?_⟩
    by_cases i0 : i = 0
    · subst i0; rfl
    · have hm : gt H i ∈ P := by rw [gm i hi]; exact (E i).fst
      rcases hlow _ hm with q | q
      · exact absurd q.symm (h.once i (by omega) hi)
      · rw [Bool.or_eq_true]
        right
        rw [h.first]
        unfold firstP firstB
        unfold ltP at q
        simp only [Bool.or_eq_true, Bool.and_eq_true, decide_eq_true_eq, beq_iff_eq]
        exact q

end Go.Proofs.Ytlmdmgbhfoehgaa

/- Is a polygon convex in normal form? The reference's function. -/
namespace Go.Proofs.Ytlmdmgbhfoehgaa
open Go.RowKit Go.Sort
attribute [local go_sem ↓] run_min_mn run_max_mx Go.wp_at_zero Go.wp_at_succ


set_option maxHeartbeats 800000 in
theorem convex_any (b off n c : Nat) (l : List Pt) (w : World) (hl : l.length = n) (hn : 2 < n) (hn' : n ≤ 100) (h : PtsIn w b off l) (hb : b < w.heap.size) (hok : l.all okP = true) :
    Calls Try.prog 31 #[.slice (some ⟨b, off, none⟩) n c] w fun e w' =>
      e = .returned (.bool (convexB l)) ∧ Below w.heap.size w w' := by
  have S := fun W hW => Lib.hid (simple_any b off n c l W hl hn hn' (h.below (B := w.heap.size) hW hb) (Nat.lt_of_lt_of_le hb hW.size) hok)
  cases hs : simpleB l
  · have HS := Lib.hid hs
    clear hs
    go_enter Try.func31, Try.ntmps31
    go_wp2_with fail
    refine ((S _ (Below.refl _ _)).out).mono ?_
    rintro e w1 ⟨rfl, hb1⟩
    rw [HS.out]
    go_wp2_with fail
    go_ret
    exact ⟨ret_bool (by simp [convexB, HS.out]), hb1⟩
  · have HS := Lib.hid hs
    clear hs
    go_enter Try.func31, Try.ntmps31
    go_wp2_with fail
    refine ((S _ (Below.refl _ _)).out).mono ?_
    rintro e w1 ⟨rfl, hb1⟩
    rw [HS.out]
    clear S
    go_wp2_with fail
    go_loopw [3] (fun i wr => ∃ k : Nat, k ≤ n ∧ i = .int .i64 k ∧ (∀ j, j < k → convexAt l j = true) ∧ Below w.heap.size w wr) (fun i _ => n - (intOf i).toNat)
    case atStart => exact ⟨0, Nat.zero_le _, rfl, by omega, hb1⟩
    case round =>
      clear hb1
      obtain ⟨k, hk, rfl, hz, hbw⟩ := hrel
      by_cases hlt : k < n
      · obtain ⟨p, hp⟩ : ∃ p, l[k]? = some p := ⟨l[k]'(by omega), List.getElem?_eq_getElem _⟩
        obtain ⟨p0, hp0⟩ : ∃ p, l[0]? = some p := ⟨l[0]'(by omega), List.getElem?_eq_getElem _⟩
        have hpx : gt l k = p := by unfold gt; rw [List.getD_eq_getElem?_getD, hp]; rfl
        have hpx0 : gt l 0 = p0 := by unfold gt; rw [List.getD_eq_getElem?_getD, hp0]; rfl
        have hpts := h.below hbw hb
        have hB : b < wr.heap.size := Nat.lt_of_lt_of_le hb hbw.size
        obtain ⟨h1, h2⟩ := hpts k p hp
        obtain ⟨h3, h4⟩ := hpts 0 p0 hp0
        have N := fun d os => Lib.hid (Calls.regrown_of (next_any b off n c l k (grow (redrawn wr d) os) hl (by omega) (by omega) (by omega) (hpts.below (below_regrown wr d os) hB)))
        have N2 := fun d os => Lib.hid (Calls.regrown_of (next_any1 b off n c l k (grow (redrawn wr d) os) hl (by omega) (by omega) (by omega) (hpts.below (below_regrown wr d os) hB)))
        have ok1 := okP_bd (getD_ok hok k)
        rw [show l.getD k (0, 0) = gt l k from rfl, hpx] at ok1
        have ok2 := okP_bd (nx_ok hok k)
        have ok3 := okP_bd (nx_ok hok (k + 1))
        have e1 : convexAt l k = (!decide (crossP p (nx l k) (nx l (k + 1)) ≤ 0) && (k == 0 || firstP p0 p)) := by unfold convexAt; rw [hpx, hpx0]
        have E1 := Lib.hid e1
        have HZ := Lib.hid hz
        have HL := Lib.hid hl
        clear e1 hz hp hp0 hpx hpx0 hpts h hok hl
        generalize nx l k = q at *
        generalize nx l (k + 1) = r at *
        obtain ⟨x, y⟩ := p
        obtain ⟨x0, y0⟩ := p0
        obtain ⟨qx, qy⟩ := q
        obtain ⟨rx, ry⟩ := r
        obtain ⟨⟨b1, b2⟩, b3, b4⟩ := ok1
        obtain ⟨⟨b5, b6⟩, b7, b8⟩ := ok2
        obtain ⟨⟨b9, b10⟩, b11, b12⟩ := ok3
        have C := fun d os => Lib.hid (Calls.regrown_of (cross_any x y qx qy rx ry (grow (redrawn wr d) os) (by omega) (by omega) (by omega) (by omega) (by omega) (by omega)))
        have F := fun d os => Lib.hid (Calls.regrown_of (first_any x0 y0 x y (grow (redrawn wr d) os)))
        have t1 := cell_regrown h1
        have t2 := cell_regrown h2
        have t3 := cell_regrown h3
        have t4 := cell_regrown h4
        simp only [Nat.zero_mul, Nat.add_zero] at t3 t4
        clear h1 h2 h3 h4
        cases g1 : decide (cross x y qx qy rx ry ≤ 0)
        · rcases Nat.eq_zero_or_pos k with hk0 | hk0
          · have g2 : decide (0 < k) = false := by simp [hk0]
            have HK0 := Lib.hid hk0
            clear hk0
            go_wp2_with fail
            refine wp_region_quiet_below (by kernel_rfl) (by kernel_rfl) ?_
            repeat (go_big_quiet_step (first | (with_reducible exact (N _ _).out) | (with_reducible exact (N2 _ _).out) | (with_reducible exact (C _ _).out) | (with_reducible exact (F _ _).out)))
            refine wpQuiet_nil ?_
            intro _ hw'
            obtain ⟨⟨dq, osq⟩, hw''⟩ := hw'
            subst hw''
            go_wp2_with fail
            go_roundw
            case rel => exact ⟨k + 1, by omega, by go_num, fun j hj => by
              rcases Nat.lt_or_eq_of_le (Nat.le_of_lt_succ hj) with h' | h'
              · exact HZ.out j h'
              · rw [h', E1.out]; unfold crossP; rw [g1, HK0.out]; rfl, hbw.trans ((below_regrown wr dq osq).mono hbw.size)⟩
            case measure => simp [intOf]; omega
          · have g2 : decide (0 < k) = true := by simp; omega
            have g3 : (k == 0) = false := by rw [beq_eq_false_iff_ne]; omega
            have G3 := Lib.hid g3
            clear g3
            cases g4 : firstB x0 y0 x y
            · go_wp2_with fail
              refine wp_region_quiet_below (by kernel_rfl) (by kernel_rfl) ?_
              repeat (go_big_quiet_step (first | (with_reducible exact (N _ _).out) | (with_reducible exact (N2 _ _).out) | (with_reducible exact (C _ _).out) | (with_reducible exact (F _ _).out)))
              refine wpQuiet_nil ?_
              intro _ hw'
              obtain ⟨⟨dq, osq⟩, hw''⟩ := hw'
              subst hw''
              go_wp2_with fail
              go_ret
              exact ⟨ret_bool (convexB_no (HL.out.symm ▸ hlt) (by rw [E1.out]; unfold crossP firstP; rw [g1, g4, G3.out]; rfl)).symm, hbw.trans ((below_regrown wr dq osq).mono hbw.size)⟩
            · go_wp2_with fail
              refine wp_region_quiet_below (by kernel_rfl) (by kernel_rfl) ?_
              repeat (go_big_quiet_step (first | (with_reducible exact (N _ _).out) | (with_reducible exact (N2 _ _).out) | (with_reducible exact (C _ _).out) | (with_reducible exact (F _ _).out)))
              refine wpQuiet_nil ?_
              intro _ hw'
              obtain ⟨⟨dq, osq⟩, hw''⟩ := hw'
              subst hw''
              go_wp2_with fail
              go_roundw
              case rel => exact ⟨k + 1, by omega, by go_num, fun j hj => by
                rcases Nat.lt_or_eq_of_le (Nat.le_of_lt_succ hj) with h' | h'
                · exact HZ.out j h'
                · rw [h', E1.out]; unfold crossP firstP; rw [g1, g4]; simp, hbw.trans ((below_regrown wr dq osq).mono hbw.size)⟩
              case measure => simp [intOf]; omega
        · go_wp2_with fail
          refine wp_region_quiet_below (by kernel_rfl) (by kernel_rfl) ?_
          repeat (go_big_quiet_step (first | (with_reducible exact (N _ _).out) | (with_reducible exact (N2 _ _).out) | (with_reducible exact (C _ _).out) | (with_reducible exact (F _ _).out)))
          refine wpQuiet_nil ?_
          intro _ hw'
          obtain ⟨⟨dq, osq⟩, hw''⟩ := hw'
          subst hw''
          go_wp2_with fail
          go_ret
          exact ⟨ret_bool (convexB_no (HL.out.symm ▸ hlt) (by rw [E1.out]; unfold crossP; rw [g1]; rfl)).symm, hbw.trans ((below_regrown wr dq osq).mono hbw.size)⟩
      · have hkn : k = n := by omega
        have hfin : convexB l = true := convexB_yes HS.out (fun j hj => hz j (by omega))
        have HFIN := Lib.hid hfin
        clear hfin hz h hok hl
        go_wp2_with fail
        go_ret
        exact ⟨ret_bool HFIN.out.symm, hbw⟩
end Go.Proofs.Ytlmdmgbhfoehgaa

/- Package shape's exported functions Area2, Simple and Convex; the reference's Polygon, of any slice. -/
namespace Go.Proofs.Ytlmdmgbhfoehgaa
open Go.RowKit Go.Sort
attribute [local go_sem ↓] run_min_mn run_max_mx

/-- What a polygon's slice is. -/
structure PolyIn (w : World) (A : Option Addr) (n : Nat) (l : List Pt) (b off : Nat) : Prop where
  at_ : A = some ⟨b, off, none⟩
  lo : 2 < n
  hi : n ≤ 32
  here : b < w.heap.size
  pts : PtsIn w b off l
  ok : l.all okP = true

theorem PtsAt.poly {w : World} {A : Option Addr} {n : Nat} {l : List Pt} (h : PtsAt w A l) (hn : l.length = n) (hp : polyB l = true) : ∃ b off, PolyIn w A n l b off := by
  simp only [polyB, inB, Bool.and_eq_true, decide_eq_true_eq] at hp
  obtain ⟨h1, h2, h3⟩ := hp
  obtain ⟨b, off, e, hb, hi⟩ := h (by intro e; subst e; simp at h2)
  exact ⟨b, off, ⟨e, by omega, by omega, hb, hi, h1⟩⟩

def area2X (l : List Pt) : Int := if polyB l then area2 l else 0
def errX (l : List Pt) : Int := if polyB l then 0 else 1

theorem area2X_any (A : Option Addr) (n c : Nat) (l : List Pt) (w : World) (hn : l.length = n) (hbig : n ≤ 1000000) (hx : PtsAt w A l) :
    Calls Try.prog 22 #[.slice A n c] w fun e w' => e = .returned (.tuple #[.int .i64 (area2X l), .int .i64 (errX l)]) ∧ Below w.heap.size w w' := by
  have K := Lib.hid (isPolygon_any A n c l w hn hbig hx)
  cases hp : polyB l
  · have e1 : area2X l = 0 := by unfold area2X; rw [hp]; rfl
    have e2 : errX l = 1 := by unfold errX; rw [hp]; rfl
    rw [e1, e2]
    rw [hp] at K
    clear hn hx
    go_enter Try.func22, Try.ntmps22
    go_wp2_with fail
    refine (K.out).mono ?_
    rintro e w' ⟨rfl, hb⟩
    go_wp2
    go_ret2
    exact ⟨rfl, hb⟩
  · have e1 : area2X l = area2 l := by unfold area2X; rw [hp]; rfl
    have e2 : errX l = 0 := by unfold errX; rw [hp]; rfl
    rw [e1, e2]
    rw [hp] at K
    obtain ⟨b, off, rfl, h1, h2, h3, h4, h5⟩ := hx.poly hn hp
    have S := fun W hW => Lib.hid (area2D_any b off n c l W hn (by omega) (by omega) (h4.below (B := w.heap.size) hW h3) (Nat.lt_of_lt_of_le h3 hW.size) h5)
    clear hn hx h4 h5 e1 e2
    generalize area2 l = r at *
    go_enter Try.func22, Try.ntmps22
    go_wp2_with fail
    refine (K.out).mono ?_
    rintro e w1 ⟨rfl, hb⟩
    go_wp2_with fail
    refine ((S _ hb).out).mono ?_
    rintro e w2 ⟨rfl, hb2⟩
    go_wp2
    go_ret2
    exact ⟨rfl, hb.trans (hb2.mono hb.size)⟩

def simpleX (l : List Pt) : Bool := polyB l && simpleB l
def convexX (l : List Pt) : Bool := polyB l && convexB l
/-- The reference's Polygon, of any slice. -/
theorem polygonX_any (A : Option Addr) (n c : Nat) (l : List Pt) (w : World) (hn : l.length = n) (hbig : n ≤ 1000000) (hx : PtsAt w A l) :
    Calls Try.prog 30 #[.slice A n c] w fun e w' => e = .returned (.bool (polyB l)) ∧ Below w.heap.size w w' := by
  cases l with
  | nil =>
    obtain rfl : n = 0 := by simpa using hn.symm
    have hp : polyB [] = false := by rfl
    rw [hp]
    clear hn hx hp
    go_enter Try.func30, Try.ntmps30
    go_wp2
    refine wp_loop_rounds 1 ?_
    rw [rounds_succ]
    go_wp2_with (go_at_call 36; refine (in_any _ _ _ _).mono ?_; rintro e w' ⟨rfl, rfl⟩)
    go_ret
    exact ⟨rfl, Below.refl _ _⟩
  | cons p l =>
    obtain ⟨b, off, rfl, hb, hi⟩ := hx (by simp)
    exact polygon_any b off n c (p :: l) w hn (by subst hn; simp) hbig hi hb
end Go.Proofs.Ytlmdmgbhfoehgaa

/- Where is a point? Package shape's function. -/
namespace Go.Proofs.Ytlmdmgbhfoehgaa
open Go.RowKit Go.Sort
attribute [local go_sem ↓] run_min_mn run_max_mx Go.wp_at_zero Go.wp_at_succ

/-- Coordinates that every sum and product here can bear. -/
def Bd (p : Pt) : Prop := (-60000 ≤ p.1 ∧ p.1 ≤ 60000) ∧ (-60000 ≤ p.2 ∧ p.2 ≤ 60000)
theorem Bd.of_ok {p : Pt} (h : okP p = true) : Bd p := by
  obtain ⟨h1, h2⟩ := okP_bd h
  exact ⟨by omega, by omega⟩
theorem Bd.all {l : List Pt} (h : l.all okP = true) (i : Nat) : Bd (gt l i) := Bd.of_ok (getD_ok h i)
theorem nx_gt (l : List Pt) (i : Nat) : nx l i = gt l ((i + 1) % l.length) := rfl

def on2B (px py ax ay bx by' : Int) : Bool := (cross ax ay bx by' px py == 0) && boxB px py px py ax ay bx by'
theorem on2_same (px py ax ay bx by' : Int) : on2B px py ax ay bx by' = onB ax ay bx by' px py := by
  have e : boxB px py px py ax ay bx by' = (inB px (mn ax bx) (mx ax bx) && inB py (mn ay by') (mx ay by')) := by
    rw [Bool.eq_iff_iff]
    simp only [boxB, inB, Bool.and_eq_true, decide_eq_true_eq]
    have a1 := mn_spec px px
    have a2 := mx_spec px px
    have a3 := mn_spec py py
    have a4 := mx_spec py py
    have a5 := mx_spec (mn px px) (mn ax bx)
    have a6 := mn_spec (mx px px) (mx ax bx)
    have a7 := mx_spec (mn py py) (mn ay by')
    have a8 := mn_spec (mx py py) (mx ay by')
    omega
  unfold on2B onB
  rw [e, Bool.and_assoc]

set_option maxHeartbeats 1000000 in
theorem isOn_any (px py ax ay bx by' : Int) (w : World)
    (h1 : -60000 ≤ px ∧ px ≤ 60000) (h2 : -60000 ≤ py ∧ py ≤ 60000) (h3 : -60000 ≤ ax ∧ ax ≤ 60000) (h4 : -60000 ≤ ay ∧ ay ≤ 60000) (h5 : -60000 ≤ bx ∧ bx ≤ 60000) (h6 : -60000 ≤ by' ∧ by' ≤ 60000) :
    Calls Try.prog 75 #[.agg #[.int .i64 px, .int .i64 py], .agg #[.int .i64 ax, .int .i64 ay], .agg #[.int .i64 bx, .int .i64 by']] w fun e w' =>
      e = .returned (.bool (onB ax ay bx by' px py)) ∧ Below w.heap.size w w' := by
  have C0 := fun W => Lib.hid (turn_any ax ay bx by' px py W h3 h4 h5 h6 h1 h2)
  have C1 := fun W => Lib.hid (box_any px py px py ax ay bx by' W)
  have e : onB ax ay bx by' px py = ((cross ax ay bx by' px py == 0) && boxB px py px py ax ay bx by') := (on2_same ..).symm
  have H := Lib.hid e
  clear e h1 h2 h3 h4 h5 h6
  generalize onB ax ay bx by' px py = r at *
  generalize cross ax ay bx by' px py = x0 at *
  generalize boxB px py px py ax ay bx by' = x1 at *
  go_enter Try.func75, Try.ntmps75
  go_wp2_with fail
  have B := boxed3 w px py ax ay bx by'
  generalize ((w.alloc (Go.Proofs.Ytlmdmgbhfoehgaa.bx px py)).alloc (Go.Proofs.Ytlmdmgbhfoehgaa.bx ax ay)).alloc (Go.Proofs.Ytlmdmgbhfoehgaa.bx bx by') = wr at *
  obtain ⟨P1, P2, P3, hb, hz⟩ := B
  have l1 : w.heap.size < wr.heap.size ∧ w.heap.size + 1 < wr.heap.size ∧ w.heap.size + 1 + 1 < wr.heap.size := by omega
  obtain ⟨a1, a2⟩ := P1
  obtain ⟨b1, b2⟩ := P2
  obtain ⟨c1, c2⟩ := P3
  go_wp2_with fail
  refine ((C0 _).out).mono ?_
  rintro e w1 ⟨rfl, hb1⟩
  obtain ⟨a1, a2⟩ := PtAt.below hb1 l1.1 ⟨a1, a2⟩
  obtain ⟨b1, b2⟩ := PtAt.below hb1 l1.2.1 ⟨b1, b2⟩
  obtain ⟨c1, c2⟩ := PtAt.below hb1 l1.2.2 ⟨c1, c2⟩
  have hbw1 := hb.trans (hb1.mono hb.size)
  clear hb1 hb hz C0
  cases hx : (x0 == 0)
  · go_wp2
    go_ret
    exact ⟨ret_bool (by rw [H.out, hx]; rfl), hbw1⟩
  · go_wp2_with fail
    refine ((C1 _).out).mono ?_
    rintro e w2 ⟨rfl, hb2⟩
    have hbw2 := hbw1.trans (hb2.mono hbw1.size)
    go_wp2
    go_ret
    exact ⟨ret_bool (by rw [H.out, hx]; rfl), hbw2⟩

def leftB (px py ax ay bx by' : Int) : Bool := (decide (py < ay) != decide (py < by')) && (decide (0 < cross ax ay bx by' px py) == decide (ay < by'))

set_option maxHeartbeats 1000000 in
theorem isLeft_any (px py ax ay bx by' : Int) (w : World)
    (h1 : -60000 ≤ px ∧ px ≤ 60000) (h2 : -60000 ≤ py ∧ py ≤ 60000) (h3 : -60000 ≤ ax ∧ ax ≤ 60000) (h4 : -60000 ≤ ay ∧ ay ≤ 60000) (h5 : -60000 ≤ bx ∧ bx ≤ 60000) (h6 : -60000 ≤ by' ∧ by' ≤ 60000) :
    Calls Try.prog 76 #[.agg #[.int .i64 px, .int .i64 py], .agg #[.int .i64 ax, .int .i64 ay], .agg #[.int .i64 bx, .int .i64 by']] w fun e w' =>
      e = .returned (.bool (leftB px py ax ay bx by')) ∧ Below w.heap.size w w' := by
  have C0 := fun W => Lib.hid (turn_any ax ay bx by' px py W h3 h4 h5 h6 h1 h2)
  have e : leftB px py ax ay bx by' = ((decide (py < ay) != decide (py < by')) && (decide (0 < cross ax ay bx by' px py) == decide (ay < by'))) := rfl
  have H := Lib.hid e
  clear e h1 h2 h3 h4 h5 h6
  generalize leftB px py ax ay bx by' = r at *
  generalize cross ax ay bx by' px py = x0 at *
  go_enter Try.func76, Try.ntmps76
  go_upto_region 1 with (fail)
  have B := boxed3 w px py ax ay bx by'
  generalize ((w.alloc (Go.Proofs.Ytlmdmgbhfoehgaa.bx px py)).alloc (Go.Proofs.Ytlmdmgbhfoehgaa.bx ax ay)).alloc (Go.Proofs.Ytlmdmgbhfoehgaa.bx bx by') = wr at *
  obtain ⟨P1, P2, P3, hb, hz⟩ := B
  have l1 : w.heap.size < wr.heap.size ∧ w.heap.size + 1 < wr.heap.size ∧ w.heap.size + 1 + 1 < wr.heap.size := by omega
  obtain ⟨a1, a2⟩ := P1
  obtain ⟨b1, b2⟩ := P2
  obtain ⟨c1, c2⟩ := P3
  have HB := Lib.hid hb
  clear hb hz l1
  go_wp2_with fail
  · have g : (py < ay ↔ py < by') := by assumption
    go_ret
    refine ⟨ret_bool ?_, HB.out⟩
    rw [H.out]; simp [g]
  · have g : ¬(py < ay ↔ py < by') := by assumption
    refine ((C0 _).out).mono ?_
    rintro e w1 ⟨rfl, hb1⟩
    have hbw1 := HB.out.trans (hb1.mono HB.out.size)
    go_wp2
    all_goals
      go_ret
      refine ⟨ret_bool ?_, hbw1⟩
      rw [H.out]
      rfl

def on2At (l : List Pt) (p : Pt) (i : Nat) : Bool := onP (gt l i) (nx l i) p
def left2At (l : List Pt) (p : Pt) (i : Nat) : Bool := leftB p.1 p.2 (gt l i).1 (gt l i).2 (nx l i).1 (nx l i).2
def sideTo (l : List Pt) (p : Pt) : Nat → Int
  | 0 => -1
  | k + 1 => if left2At l p k then - sideTo l p k else sideTo l p k
def whereD (l : List Pt) (p : Pt) : Int := if (List.range l.length).any (on2At l p) then 0 else sideTo l p l.length
theorem sideTo_bd (l : List Pt) (p : Pt) : ∀ k, sideTo l p k = 1 ∨ sideTo l p k = -1
  | 0 => .inr rfl
  | k + 1 => by
    unfold sideTo
    rcases sideTo_bd l p k with h | h <;> rw [h] <;> split <;> simp
theorem whereD_on {l : List Pt} {p : Pt} {k : Nat} (hk : k < l.length) (h : on2At l p k = true) : whereD l p = 0 := by
  unfold whereD
  rw [if_pos (List.any_eq_true.2 ⟨k, List.mem_range.2 hk, h⟩)]
theorem whereD_off {l : List Pt} {p : Pt} (h : ∀ j, j < l.length → on2At l p j = false) : whereD l p = sideTo l p l.length := by
  unfold whereD
  rw [if_neg]
  rw [List.any_eq_true]
  rintro ⟨k, hk, e⟩
  rw [h k (List.mem_range.1 hk)] at e
  cases e

set_option maxRecDepth 100000 in
set_option maxHeartbeats 2000000 in
theorem where_any (b off n c : Nat) (l : List Pt) (p : Pt) (w : World) (hl : l.length = n) (hn : 0 < n) (hn' : n ≤ 100) (h : PtsIn w b off l) (hb : b < w.heap.size) (hbd : ∀ i, Bd (gt l i)) (hp : Bd p) :
    Calls Try.prog 54 #[.slice (some ⟨b, off, none⟩) n c, .agg #[.int .i64 p.1, .int .i64 p.2]] w fun e w' =>
      e = .returned (.int .i64 (whereD l p)) ∧ Below w.heap.size w w' := by
  have HL := Lib.hid hl
  have HP := Lib.hid h
  have HBD := Lib.hid hbd
  have HON : Hid (∀ i, on2At l p i = onB (gt l i).1 (gt l i).2 (nx l i).1 (nx l i).2 p.1 p.2) := Lib.hid fun _ => rfl
  have HLF : Hid (∀ i, left2At l p i = leftB p.1 p.2 (gt l i).1 (gt l i).2 (nx l i).1 (nx l i).2) := Lib.hid fun _ => rfl
  obtain ⟨px, py⟩ := p
  obtain ⟨hp1, hp2⟩ := hp
  clear hl h hbd
  go_enter Try.func54, Try.ntmps54
  go_wp2_with fail
  have B : PtAt (w.alloc (bx px py)) w.heap.size px py := PtAt.new
  have hb0 : Below w.heap.size w (w.alloc (bx px py)) := (Below.refl _ _).alloc (Nat.le_refl _) _
  have hz0 : w.heap.size < (w.alloc (bx px py)).heap.size := by simp
  generalize w.alloc (bx px py) = w0 at *
  generalize hgg : w.heap.size = gg at *
  go_wp2_with fail
  go_loopw [5, 11] (fun s i wr => ∃ k : Nat, k ≤ n ∧ i = .int .i64 k ∧ s = .int .i64 (sideTo l (px, py) k) ∧ (∀ j, j < k → on2At l (px, py) j = false) ∧ Below w0.heap.size w0 wr) (fun _ i _ => n - (intOf i).toNat)
  case atStart => exact ⟨0, Nat.zero_le _, rfl, rfl, by omega, Below.refl _ _⟩
  case round =>
    obtain ⟨k, hk, rfl, rfl, hz, hbr⟩ := hrel
    have HZ := Lib.hid hz
    have hb1 : b < w0.heap.size := Nat.lt_of_lt_of_le hb (hgg ▸ hb0.size)
    have hgr : gg < wr.heap.size := Nat.lt_of_lt_of_le hz0 hbr.size
    have HBW : Hid (Below gg w wr) := Lib.hid (hb0.trans (hbr.mono (hgg ▸ hb0.size)))
    have P0 := PtAt.below hbr hz0 B
    have hbb : b < gg := hgg ▸ hb
    clear hz
    by_cases hlt : k < n
    · have HPw : Hid (PtsIn wr b off l) := Lib.hid (HP.out.below HBW.out hbb)
      have hB : b < wr.heap.size := Nat.lt_of_lt_of_le hb1 hbr.size
      have N := fun W hW => Lib.hid (edge_any b off n c l k W HL.out (by omega) (by omega) (by omega) (HPw.out.below (B := wr.heap.size) hW hB))
      rw [Nat.mod_eq_of_lt hlt] at N
      have d1 := HBD.out k
      have d2 := HBD.out ((k + 1) % l.length)
      rw [← nx_gt] at d2
      have EO := Lib.hid (HON.out k)
      have EL := Lib.hid (HLF.out k)
      have ES : Hid (sideTo l (px, py) (k + 1) = if left2At l (px, py) k then - sideTo l (px, py) k else sideTo l (px, py) k) := Lib.hid rfl
      have sb := sideTo_bd l (px, py) k
      generalize gt l k = p1 at *
      generalize nx l k = p2 at *
      generalize sideTo l (px, py) k = sd at *
      obtain ⟨x, y⟩ := p1
      obtain ⟨qx, qy⟩ := p2
      obtain ⟨d3, d4⟩ := d1
      obtain ⟨d5, d6⟩ := d2
      have TO := fun W => Lib.hid (isOn_any px py x y qx qy W hp1 hp2 d3 d4 d5 d6)
      have TL := fun W => Lib.hid (isLeft_any px py x y qx qy W hp1 hp2 d3 d4 d5 d6)
      clear d3 d4 d5 d6 hp1 hp2
      go_wp2_with fail
      refine ((N _ (Below.refl _ _)).out).mono ?_
      rintro e w1 ⟨rfl, hb1⟩
      go_upto_region 6 with (fail)
      have B2 := boxed2 w1 x y qx qy
      generalize (w1.alloc (Go.Proofs.Ytlmdmgbhfoehgaa.bx x y)).alloc (Go.Proofs.Ytlmdmgbhfoehgaa.bx qx qy) = w2 at *
      obtain ⟨P1, P2, hb2, hz2⟩ := B2
      have hbr2 := hb1.trans (hb2.mono hb1.size)
      have hg0 : gg < w2.heap.size := Nat.lt_of_lt_of_le hgr hbr2.size
      replace P0 := PtAt.below hbr2 hgr P0
      generalize w1.heap.size = g at *
      have hg2 : g + 1 < w2.heap.size := by omega
      clear hb2 hz2 N hb1
      obtain ⟨p1, p2⟩ := P0
      obtain ⟨p3, p4⟩ := P1
      obtain ⟨p5, p6⟩ := P2
      go_wp2_with fail
      refine ((TO _).out).mono ?_
      rintro e w3 ⟨rfl, hb3⟩
      obtain ⟨p1, p2⟩ := PtAt.below hb3 hg0 ⟨p1, p2⟩
      obtain ⟨p3, p4⟩ := PtAt.below hb3 (by omega) ⟨p3, p4⟩
      obtain ⟨p5, p6⟩ := PtAt.below hb3 hg2 ⟨p5, p6⟩
      have hbr3 := hbr2.trans (hb3.mono hbr2.size)
      have HBR3 := Lib.hid (hbr.trans (hbr3.mono hbr.size))
      clear hb3 hbr2 TO hg0 hg2
      cases ho : onB x y qx qy px py
      · have HOF : Hid (on2At l (px, py) k = false) := Lib.hid (EO.out.trans ho)
        go_wp2_with fail
        refine ((TL _).out).mono ?_
        rintro e w4 ⟨rfl, hb4⟩
        have HBR4 := Lib.hid (HBR3.out.trans (hb4.mono HBR3.out.size))
        have HZ1 : Hid (∀ j, j < k + 1 → on2At l (px, py) j = false) := Lib.hid fun j hj => by
          rcases Nat.lt_or_eq_of_le (Nat.le_of_lt_succ hj) with h' | h'
          · exact HZ.out j h'
          · rw [h']; exact HOF.out
        clear hb4 hbr3 TL p1 p2 p3 p4 p5 p6
        cases hf : leftB px py x y qx qy
        · go_wp2_with fail
          go_roundw
          case rel => exact ⟨k + 1, by omega, by go_num, by rw [ES.out, EL.out]; show _ = Value.int .i64 (if leftB px py x y qx qy then _ else _); rw [hf]; rfl, HZ1.out, HBR4.out⟩
          case measure => simp [intOf]; omega
        · go_wp2_with fail
          go_roundw
          case rel => exact ⟨k + 1, by omega, by go_num, by rw [ES.out, EL.out]; show _ = Value.int .i64 (if leftB px py x y qx qy then _ else _); rw [hf]; rfl, HZ1.out, HBR4.out⟩
          case measure => simp [intOf]; omega
      · have HOT : Hid (whereD l (px, py) = 0) := Lib.hid (whereD_on (k := k) (by rw [HL.out]; exact hlt) (EO.out.trans ho))
        go_wp2_with fail
        go_ret
        exact ⟨ret_int HOT.out.symm, by rw [hgg]; exact HBW.out.trans (hbr3.mono (hgg ▸ HBW.out.size))⟩
    · obtain rfl : k = n := by omega
      have HF : Hid (whereD l (px, py) = sideTo l (px, py) k) := Lib.hid (by
        rw [whereD_off (fun j hj => HZ.out j (by rw [HL.out] at hj; exact hj)), HL.out])
      generalize sideTo l (px, py) k = sd at *
      go_wp2_with fail
      go_ret
      exact ⟨ret_int HF.out.symm, by rw [hgg]; exact HBW.out⟩
end Go.Proofs.Ytlmdmgbhfoehgaa

/- Where is a point? The reference's function, and that package shape's finds the same. -/
namespace Go.Proofs.Ytlmdmgbhfoehgaa
open Go.RowKit Go.Sort
attribute [local go_sem ↓] run_min_mn run_max_mx Go.wp_at_zero Go.wp_at_succ

def upI (py ay by' c : Int) : Int := if by' < ay then -c else c
def rayB (px py ax ay bx by' : Int) : Bool := (decide (py < ay) != decide (py < by')) && decide (0 < upI py ay by' (cross ax ay bx by' px py))
def ray2At (l : List Pt) (p : Pt) (i : Nat) : Bool := rayB p.1 p.2 (gt l i).1 (gt l i).2 (nx l i).1 (nx l i).2
def insTo (l : List Pt) (p : Pt) : Nat → Bool
  | 0 => false
  | k + 1 => if ray2At l p k then !insTo l p k else insTo l p k
def whereR (l : List Pt) (p : Pt) : Int := if (List.range l.length).any (on2At l p) then 0 else if insTo l p l.length then 1 else -1

theorem left_ray {px py ax ay bx by' : Int} (h : onB ax ay bx by' px py = false) : leftB px py ax ay bx by' = rayB px py ax ay bx by' := by
  have key : cross ax ay bx by' px py = 0 → ¬ ((ay ≤ py ∧ py < by') ∨ (by' ≤ py ∧ py < ay)) := by
    intro h0 hb
    have hne : by' - ay ≠ 0 := by omega
    have hc : (by' - ay) * (px - ax) = (py - ay) * (bx - ax) := by unfold cross at h0; grind
    have hbt : btw (py - ay) (by' - ay) := by unfold btw; omega
    have := btw_dim hne hc hbt
    have ho : onB ax ay bx by' px py = true := by
      have k := (on_iff ax ay (bx - ax) (by' - ay) (px - ax) (py - ay)).2 ⟨by unfold al; unfold cross at h0; grind, this, hbt⟩
      rw [show ax + (bx - ax) = bx by omega, show ay + (by' - ay) = by' by omega, show ax + (px - ax) = px by omega, show ay + (py - ay) = py by omega] at k
      exact k
    rw [h] at ho; cases ho
  rw [Bool.eq_iff_iff]
  unfold leftB rayB upI
  generalize cross ax ay bx by' px py = c at *
  simp only [Bool.and_eq_true, bne_iff_ne, ne_eq, decide_eq_true_eq, decide_eq_decide, beq_iff_eq]
  by_cases g1 : py < ay <;> by_cases g2 : py < by'
  · simp [g1, g2]
  · have := key; split <;> (by_cases hc : c = 0) <;> omega
  · have := key; split <;> (by_cases hc : c = 0) <;> omega
  · simp [g1, g2]

theorem where_same (l : List Pt) (p : Pt) : whereD l p = whereR l p := by
  unfold whereD whereR
  by_cases h : (List.range l.length).any (on2At l p) = true
  · rw [if_pos h, if_pos h]
  · rw [if_neg h, if_neg h]
    have hoff : ∀ j, j < l.length → on2At l p j = false := fun j hj => by
      cases e : on2At l p j
      · rfl
      · exact absurd (List.any_eq_true.2 ⟨j, List.mem_range.2 hj, e⟩) h
    have : ∀ k, k ≤ l.length → sideTo l p k = if insTo l p k then 1 else -1 := by
      intro k
      induction k with
      | zero => intro _; rfl
      | succ k ih =>
        intro hk
        have e : left2At l p k = ray2At l p k := left_ray (hoff k (by omega))
        unfold sideTo insTo
        rw [e, ih (by omega)]
        cases ray2At l p k <;> cases insTo l p k <;> rfl
    exact this _ (Nat.le_refl _)

set_option maxRecDepth 100000 in
set_option maxHeartbeats 2000000 in
theorem whereR_any (b off n c : Nat) (l : List Pt) (p : Pt) (w : World) (hl : l.length = n) (hn : 0 < n) (hn' : n ≤ 100) (h : PtsIn w b off l) (hb : b < w.heap.size) (hbd : ∀ i, Bd (gt l i)) (hp : Bd p) :
    Calls Try.prog 68 #[.slice (some ⟨b, off, none⟩) n c, .agg #[.int .i64 p.1, .int .i64 p.2]] w fun e w' =>
      e = .returned (.int .i64 (whereR l p)) ∧ Below w.heap.size w w' := by
  have HL := Lib.hid hl
  have HP := Lib.hid h
  have HBD := Lib.hid hbd
  have HON : Hid (∀ i, on2At l p i = onB (gt l i).1 (gt l i).2 (nx l i).1 (nx l i).2 p.1 p.2) := Lib.hid fun _ => rfl
  have HRY : Hid (∀ i, ray2At l p i = rayB p.1 p.2 (gt l i).1 (gt l i).2 (nx l i).1 (nx l i).2) := Lib.hid fun _ => rfl
  obtain ⟨px, py⟩ := p
  obtain ⟨hp1, hp2⟩ := hp
  clear hl h hbd
  go_enter Try.func68, Try.ntmps68
  go_wp2_with fail
  have B : PtAt (w.alloc (bx px py)) w.heap.size px py := PtAt.new
  have hb0 : Below w.heap.size w (w.alloc (bx px py)) := (Below.refl _ _).alloc (Nat.le_refl _) _
  have hz0 : w.heap.size < (w.alloc (bx px py)).heap.size := by simp
  generalize w.alloc (bx px py) = w0 at *
  generalize hgg : w.heap.size = gg at *
  go_wp2_with fail
  go_loopw [5, 6] (fun s i wr => ∃ k : Nat, k ≤ n ∧ i = .int .i64 k ∧ s = .bool (insTo l (px, py) k) ∧ (∀ j, j < k → on2At l (px, py) j = false) ∧ Below w0.heap.size w0 wr) (fun _ i _ => n - (intOf i).toNat)
  case atStart => exact ⟨0, Nat.zero_le _, rfl, rfl, by omega, Below.refl _ _⟩
  case round =>
    obtain ⟨k, hk, rfl, rfl, hz, hbr⟩ := hrel
    have HZ := Lib.hid hz
    have hb1 : b < w0.heap.size := Nat.lt_of_lt_of_le hb (hgg ▸ hb0.size)
    have hgr : gg < wr.heap.size := Nat.lt_of_lt_of_le hz0 hbr.size
    have HBW : Hid (Below gg w wr) := Lib.hid (hb0.trans (hbr.mono (hgg ▸ hb0.size)))
    have P0 := PtAt.below hbr hz0 B
    have hbb : b < gg := hgg ▸ hb
    clear hz
    by_cases hlt : k < n
    · have HPw : Hid (PtsIn wr b off l) := Lib.hid (HP.out.below HBW.out hbb)
      have hB : b < wr.heap.size := Nat.lt_of_lt_of_le hb1 hbr.size
      have N := fun W hW => Lib.hid (next_any b off n c l k W HL.out (by omega) (by omega) (by omega) (HPw.out.below (B := wr.heap.size) hW hB))
      have d1 := HBD.out k
      have d2 := HBD.out ((k + 1) % l.length)
      rw [← nx_gt] at d2
      have EO := Lib.hid (HON.out k)
      have EL := Lib.hid (HRY.out k)
      have ES : Hid (insTo l (px, py) (k + 1) = if ray2At l (px, py) k then !insTo l (px, py) k else insTo l (px, py) k) := Lib.hid rfl
      obtain ⟨h1, h2⟩ := HPw.out k (gt l k) (by unfold gt; rw [List.getD_eq_getElem?_getD, List.getElem?_eq_getElem (by rw [HL.out]; exact hlt)]; rfl)
      generalize gt l k = p1 at *
      generalize nx l k = p2 at *
      generalize insTo l (px, py) k = sd at *
      obtain ⟨x, y⟩ := p1
      obtain ⟨qx, qy⟩ := p2
      obtain ⟨d3, d4⟩ := d1
      obtain ⟨d5, d6⟩ := d2
      have TO := fun W => Lib.hid (on_any x y qx qy px py W d3 d4 d5 d6 hp1 hp2)
      have TL := fun W => Lib.hid (cross_any x y qx qy px py W d3 d4 d5 d6 hp1 hp2)
      have HRB : Hid (rayB px py x y qx qy = ((decide (py < y) != decide (py < qy)) && decide (0 < upI py y qy (cross x y qx qy px py)))) := Lib.hid rfl
      have cb : -100000000000 ≤ cross x y qx qy px py ∧ cross x y qx qy px py ≤ 100000000000 := by
        have p1 := mul_le_of_abs (a := qx - x) (b := py - y) (K := 120000) (L := 120000) (by simp only at d3 d4 d5 d6 hp1 hp2; omega) (by simp only at d3 d4 d5 d6 hp1 hp2; omega)
        have p2 := mul_le_of_abs (a := px - x) (b := qy - y) (K := 120000) (L := 120000) (by simp only at d3 d4 d5 d6 hp1 hp2; omega) (by simp only at d3 d4 d5 d6 hp1 hp2; omega)
        unfold cross; omega
      clear d3 d4 d5 d6 hp1 hp2
      generalize cross x y qx qy px py = cr at *
      go_wp2_with fail
      go_cut [7, 8] (fun s t wx => TwoPts wr x y qx qy s t wx)
      case first =>
        have lt2 : wr.heap.size < wr.heap.size + 1 + 1 := by omega
        have n1 := World.new_ne wr _ h1
        have n2 := World.new_ne wr _ h2
        go_region_held3 (fun w' => Below wr.heap.size wr w' ∧ w'.cell? ⟨b, off + k * 2, none⟩ = some (.int .i64 x) ∧ w'.cell? ⟨b, off + k * 2 + 1, none⟩ = some (.int .i64 y))
          (((repeat (first | refine keep_drew ?_ | refine keep_alloc ?_ hB _ | refine keep_set ?_ hB _ (by simp) _)); (first | assumption | exact hS | exact ⟨Below.refl _ _, h1, h2⟩)))
          (first | ((go_at_call 44; refine ((N _ ?_).out).mono ?_; (exact And.left (by assumption)); rintro e w' ⟨rfl, hb'⟩; have hS := keep_call (by assumption) hB hb'; obtain ⟨hc', hf'⟩ := old_cells hb'; have hz' := hb'.size; try simp at hz'; try (have hz2 : wr.heap.size < w'.heap.size := by omega))))
        all_goals (go_wp2_with fail; go_meet)
        all_goals
          have hS1 := hS.1
          refine ⟨_, _, rfl, rfl, ?_, ?_, ?_⟩
          · constructor <;> (first | (go_simp; done))
          · constructor <;> (first | (go_simp; done))
          · go_grown
      case rest =>
        obtain ⟨g, h, rfl, rfl, P1, P2, hbc⟩ := hcut
        have hgb : g < wc.heap.size := block_lt_of_cell P1.1
        have hhb : h < wc.heap.size := block_lt_of_cell P2.1
        replace P0 := PtAt.below hbc hgr P0
        have hg0 : gg < wc.heap.size := Nat.lt_of_lt_of_le hgr hbc.size
        obtain ⟨p1, p2⟩ := P0
        obtain ⟨p3, p4⟩ := P1
        obtain ⟨p5, p6⟩ := P2
        clear h1 h2 N
        go_wp2_with fail
        refine ((TO _).out).mono ?_
        rintro e w3 ⟨rfl, hb3⟩
        obtain ⟨p1, p2⟩ := PtAt.below hb3 hg0 ⟨p1, p2⟩
        obtain ⟨p3, p4⟩ := PtAt.below hb3 hgb ⟨p3, p4⟩
        obtain ⟨p5, p6⟩ := PtAt.below hb3 hhb ⟨p5, p6⟩
        have hbr3 := hbc.trans (hb3.mono hbc.size)
        have HBR3 := Lib.hid (hbr.trans (hbr3.mono hbr.size))
        have hg3 : gg < w3.heap.size ∧ g < w3.heap.size ∧ h < w3.heap.size := by have := hb3.size; omega
        clear hb3 TO hg0 hgb hhb
        cases ho : onB x y qx qy px py
        · have HOF : Hid (on2At l (px, py) k = false) := Lib.hid (EO.out.trans ho)
          have HZ1 : Hid (∀ j, j < k + 1 → on2At l (px, py) j = false) := Lib.hid fun j hj => by
            rcases Nat.lt_or_eq_of_le (Nat.le_of_lt_succ hj) with h' | h'
            · exact HZ.out j h'
            · rw [h']; exact HOF.out
          clear hbr3
          have YES : Hid (rayB px py x y qx qy = true → insTo l (px, py) (k + 1) = !sd) := Lib.hid fun hh => by
            rw [ES.out, EL.out]; show (if rayB px py x y qx qy then _ else _) = _; rw [hh]; rfl
          have NO : Hid (rayB px py x y qx qy = false → insTo l (px, py) (k + 1) = sd) := Lib.hid fun hh => by
            rw [ES.out, EL.out]; show (if rayB px py x y qx qy then _ else _) = _; rw [hh]; rfl
          clear ES EL EO HOF
          go_wp2_with fail
          · have hg4 : (!(decide (py < y) == decide (py < qy))) = true := by assumption
            have HG : Hid ((decide (py < y) != decide (py < qy)) = true) := Lib.hid hg4
            clear hg4
            refine ((TL _).out).mono ?_
            rintro e w4 ⟨rfl, hb4⟩
            obtain ⟨p1, p2⟩ := PtAt.below hb4 hg3.1 ⟨p1, p2⟩
            obtain ⟨p3, p4⟩ := PtAt.below hb4 hg3.2.1 ⟨p3, p4⟩
            obtain ⟨p5, p6⟩ := PtAt.below hb4 hg3.2.2 ⟨p5, p6⟩
            have HBR4 := Lib.hid (HBR3.out.trans (hb4.mono HBR3.out.size))
            clear hb4 TL hg3
            obtain ⟨cb1, cb2⟩ := cb
            go_wp2_with fail
            all_goals
              go_roundw
              case rel =>
                refine ⟨k + 1, by omega, by go_num, ?_, HZ1.out, HBR4.out⟩
                first
                  | (have q : rayB px py x y qx qy = true := by
                       rw [HRB.out, HG.out, Bool.true_and, decide_eq_true_eq]; unfold upI; split <;> omega
                     rw [YES.out q])
                  | (have q : rayB px py x y qx qy = false := by
                       rw [HRB.out, HG.out, Bool.true_and, decide_eq_false_iff_not]; unfold upI; split <;> omega
                     rw [NO.out q])
              case measure => simp [intOf]; omega
          · have hg4 : (!(decide (py < y) == decide (py < qy))) = false := by assumption
            have HG : Hid ((decide (py < y) != decide (py < qy)) = false) := Lib.hid hg4
            go_roundw
            case rel => exact ⟨k + 1, by omega, by go_num, by rw [NO.out (by rw [HRB.out, HG.out]; rfl)], HZ1.out, HBR3.out⟩
            case measure => simp [intOf]; omega
        · have HOT : Hid (whereR l (px, py) = 0) := Lib.hid (by
            unfold whereR
            rw [if_pos (List.any_eq_true.2 ⟨k, List.mem_range.2 (by rw [HL.out]; exact hlt), EO.out.trans ho⟩)])
          go_wp2_with fail
          go_ret
          exact ⟨ret_int HOT.out.symm, by rw [hgg]; exact HBW.out.trans (hbr3.mono (hgg ▸ HBW.out.size))⟩
    · obtain rfl : k = n := by omega
      have HF : Hid (whereR l (px, py) = if insTo l (px, py) k then 1 else -1) := Lib.hid (by
        unfold whereR
        rw [if_neg, HL.out]
        rw [List.any_eq_true]
        rintro ⟨j, hj, e⟩
        rw [HZ.out j (by have := List.mem_range.1 hj; rwa [HL.out] at this)] at e
        cases e)
      cases hi : insTo l (px, py) k
      · have HF2 := Lib.hid HF.out
        go_wp2_with fail
        go_ret
        exact ⟨ret_int (by rw [HF.out, hi]; rfl), by rw [hgg]; exact HBW.out⟩
      · go_wp2_with fail
        go_ret
        exact ⟨ret_int (by rw [HF.out, hi]; rfl), by rw [hgg]; exact HBW.out⟩
end Go.Proofs.Ytlmdmgbhfoehgaa

/- Shape: a hull is one; the points that it was made of lie in it or on its edges. -/
namespace Go.Proofs.Ytlmdmgbhfoehgaa

/-- The corners, round and round. -/
def vtx (H : List Pt) (x : Nat) : Pt := gt H (x % H.length)
theorem Hull.edgeV {P H : List Pt} {s0 : Pt} (h : Hull P H s0) (x : Nat) : Hedge P (vtx H x) (vtx H (x + 1)) := by
  have two := h.two
  have := h.edge (x % H.length) (Nat.mod_lt _ (by omega))
  have m : nx H (x % H.length) = vtx H (x + 1) := by
    show gt H ((x % H.length + 1) % H.length) = _
    rw [Nat.mod_add_mod]; rfl
  rwa [m] at this
theorem vtx_lt {H : List Pt} {x : Nat} (h : x < H.length) : vtx H x = gt H x := by unfold vtx; rw [Nat.mod_eq_of_lt h]
theorem vtx_nx (H : List Pt) (x : Nat) : nx H x = vtx H (x + 1) := rfl
theorem vtx_add (H : List Pt) (x : Nat) : vtx H (x + H.length) = vtx H x := by unfold vtx; rw [Nat.add_mod_right]
theorem Hull.vtx0 {P H : List Pt} {s0 : Pt} (h : Hull P H s0) : vtx H 0 = s0 := by
  have two := h.two
  rw [vtx_lt (by omega)]; exact h.first

theorem hull_steps {P H K : List Pt} {s0 : Pt} (h : Hull P H s0) (k : Hull P K s0) : ∀ x, vtx H x = vtx K x
  | 0 => by rw [h.vtx0, k.vtx0]
  | x + 1 => by
    have e1 := h.edgeV x
    have e2 := k.edgeV x
    rw [hull_steps h k x] at e1
    exact hedge_next e1 e2

theorem hull_len_le {P H K : List Pt} {s0 : Pt} (h : Hull P H s0) (k : Hull P K s0) : K.length ≤ H.length := by
  have two := h.two
  rcases Nat.lt_or_ge H.length K.length with g | g
  · exfalso
    have e := hull_steps h k H.length
    rw [vtx_lt g] at e
    refine k.once H.length (by omega) g ?_
    rw [← e]
    have := vtx_add H 0
    rw [Nat.zero_add] at this
    rw [this, h.vtx0]
  · exact g

theorem hull_unique {P H K : List Pt} {s0 : Pt} (h : Hull P H s0) (k : Hull P K s0) : H = K := by
  have hl : H.length = K.length := Nat.le_antisymm (hull_len_le k h) (hull_len_le h k)
  refine List.ext_getElem hl fun i h1 h2 => ?_
  have e := hull_steps h k i
  rw [vtx_lt h1, vtx_lt h2] at e
  rw [gt_of (List.getElem?_eq_getElem h1), gt_of (List.getElem?_eq_getElem h2)] at e
  exact e

theorem hull_sub {P H : List Pt} {s0 : Pt} (h : Hull P H s0) {p : Pt} (hp : p ∈ H) : p ∈ P := by
  obtain ⟨i, hi, rfl⟩ := List.getElem_of_mem hp
  have := (h.edge i hi).fst
  rwa [gt_of (List.getElem?_eq_getElem hi)] at this
theorem vtx_mem {H : List Pt} (h : 0 < H.length) (x : Nat) : vtx H x ∈ H := by
  unfold vtx
  rw [gt_of (List.getElem?_eq_getElem (Nat.mod_lt x h))]
  exact List.getElem_mem _
/-- The hull of the hull's corners is itself. -/
theorem hull_self {P H : List Pt} {s0 : Pt} (h : Hull P H s0) : Hull H H s0 := by
  have two := h.two
  refine ⟨h.first, h.two, fun i hi => ?_, h.once⟩
  have e := h.edge i hi
  refine ⟨e.ne, fun p hp => e.ok p (hull_sub h hp), ?_, ?_⟩
  · rw [← vtx_lt hi]; exact vtx_mem (by omega) _
  · rw [vtx_nx]; exact vtx_mem (by omega) _

theorem nodup_le {l m : List Pt} (h : l.Nodup) (hs : ∀ p ∈ l, p ∈ m) : l.length ≤ m.length := by
  induction l generalizing m with
  | nil => simp
  | cons x l ih =>
    obtain ⟨h1, h2⟩ := List.nodup_cons.1 h
    have hx := hs x (by simp)
    have := ih (m := m.erase x) h2 fun p hp => (List.mem_erase_of_ne (fun e => h1 (by rw [← e]; exact hp))).2 (hs p (by simp [hp]))
    rw [List.length_erase_of_mem hx] at this
    have : 0 < m.length := List.length_pos_of_mem hx
    simp only [List.length_cons]
    omega
theorem hull_length {P H : List Pt} {s0 : Pt} (h : Hull P H s0) : H.length ≤ P.length := by
  refine nodup_le ?_ fun p hp => hull_sub h hp
  refine List.pairwise_iff_getElem.2 fun i j hi hj hij e => ?_
  have := hull_inj h (i := i) (j := j) hi hj (by rw [gt_of (List.getElem?_eq_getElem hi), gt_of (List.getElem?_eq_getElem hj)]; exact e)
  omega

theorem crossP_rot (a b p : Pt) : crossP b a p = - crossP a b p := by unfold crossP cross; grind

theorem top_of (f : Nat → Pt) : ∀ k, 0 < k → ∃ j, j < k ∧ ∀ i, i < k → leP (f i) (f j)
  | 0, h => by omega
  | 1, _ => ⟨0, by omega, fun i hi => by
    have : i = 0 := by omega
    rw [this]; exact leP_refl _⟩
  | k + 2, _ => by
    obtain ⟨j, hj, h⟩ := top_of f (k + 1) (by omega)
    rcases leP_total (f j) (f (k + 1)) with g | g
    · refine ⟨k + 1, by omega, fun i hi => ?_⟩
      rcases Nat.lt_or_ge i (k + 1) with q | q
      · exact leP_trans (h i q) g
      · have : i = k + 1 := by omega
        rw [this]; exact leP_refl _
    · refine ⟨j, by omega, fun i hi => ?_⟩
      rcases Nat.lt_or_ge i (k + 1) with q | q
      · exact h i q
      · have : i = k + 1 := by omega
        rw [this]; exact .inr g

theorem no_top {a1 a2 b1 b2 q1 q2 : Int} (ha : 0 ≤ a2) (hb : b2 ≤ 0) (hq : 0 ≤ q2) (h1 : 0 < a1 * q2 - q1 * a2) (h2 : 0 < b1 * q2 - q1 * b2) (h3 : 0 < a1 * b2 - b1 * a2) : False := by
  have id : q2 * (a1 * b2 - b1 * a2) = -((b1 * q2 - q1 * b2) * a2) + (a1 * q2 - q1 * a2) * b2 := by grind
  have n1 : 0 ≤ q2 * (a1 * b2 - b1 * a2) := Int.mul_nonneg hq (by omega)
  have n2 : 0 ≤ (b1 * q2 - q1 * b2) * a2 := Int.mul_nonneg (by omega) ha
  have n3 : 0 ≤ (a1 * q2 - q1 * a2) * -b2 := Int.mul_nonneg (by omega) (by omega)
  rw [Int.mul_neg] at n3
  have z2 : (b1 * q2 - q1 * b2) * a2 = 0 := by omega
  have z3 : (a1 * q2 - q1 * a2) * b2 = 0 := by omega
  have e2 := (Int.mul_eq_zero.1 z2).resolve_left (by omega)
  have e3 := (Int.mul_eq_zero.1 z3).resolve_left (by omega)
  rw [e2, e3, Int.mul_zero, Int.mul_zero] at h3
  omega

theorem two_up {a b c d : Pt} {y : Int} (h1 : a.2 ≤ y) (h2 : y < b.2) (h3 : c.2 ≤ y) (h4 : y < d.2) (k1 : 0 ≤ crossP a b c) (k2 : 0 ≤ crossP a b d) (k3 : 0 ≤ crossP c d a) (k4 : 0 ≤ crossP c d b) : crossP a b c = 0 := by
  have n1 : 0 ≤ (d.2 - y) * crossP a b c := Int.mul_nonneg (by omega) k1
  have n2 : 0 ≤ (y - c.2) * crossP a b d := Int.mul_nonneg (by omega) k2
  have n3 : 0 ≤ (b.2 - y) * crossP c d a := Int.mul_nonneg (by omega) k3
  have n4 : 0 ≤ (y - a.2) * crossP c d b := Int.mul_nonneg (by omega) k4
  have id : (d.2 - y) * crossP a b c + (y - c.2) * crossP a b d + ((b.2 - y) * crossP c d a + (y - a.2) * crossP c d b) = 0 := by unfold crossP cross; grind
  have z : (d.2 - y) * crossP a b c = 0 := by omega
  exact (Int.mul_eq_zero.1 z).resolve_left (by omega)

theorem side_one {l : List Pt} {p : Pt} {m : Nat} (h : ∀ i, i < l.length → left2At l p i = decide (i = m)) : ∀ k, k ≤ l.length → sideTo l p k = if m < k then 1 else -1
  | 0, _ => by rw [if_neg (by omega)]; rfl
  | k + 1, hk => by
    have ih := side_one h k (by omega)
    unfold sideTo
    rw [h k (by omega)]
    by_cases e : k = m
    · rw [decide_eq_true e, if_pos rfl, ih, if_neg (by omega), if_pos (by omega)]; rfl
    · rw [decide_eq_false e, if_neg (by simp), ih]
      by_cases g : m < k
      · rw [if_pos g, if_pos (by omega)]
      · rw [if_neg g, if_neg (by omega)]

/-- EVERY POINT LIES IN THE HULL OR ON ITS EDGES. -/
theorem hull_where {P H : List Pt} {s0 p : Pt} (h : Hull P H s0) (hlow : ∀ p ∈ P, leP s0 p) (hp : p ∈ P) : whereD H p = 0 ∨ whereD H p = 1 := by
  have two := h.two
  by_cases ho : ∃ i, i < H.length ∧ on2At H p i = true
  · obtain ⟨i, hi, e⟩ := ho
    exact .inl (whereD_on hi e)
  · have off : ∀ j, j < H.length → on2At H p j = false := fun j hj => by
      cases e : on2At H p j
      · rfl
      · exact absurd ⟨j, hj, e⟩ ho
    have pos : ∀ i, i < H.length → 0 < crossP (gt H i) (nx H i) p := fun i hi => by
      rcases (h.edge i hi).ok p hp with q | q
      · exact q
      · have := off i hi
        unfold on2At at this
        rw [this] at q; cases q
    have posV : ∀ x, 0 < crossP (vtx H x) (vtx H (x + 1)) p := fun x => by
      have := pos (x % H.length) (Nat.mod_lt _ (by omega))
      have m : nx H (x % H.length) = vtx H (x + 1) := by
        show gt H ((x % H.length + 1) % H.length) = _
        rw [Nat.mod_add_mod]; rfl
      rw [m] at this; exact this
    right
    rw [whereD_off off]
    have up : ∀ i, i < H.length → (left2At H p i = true ↔ (gt H i).2 ≤ p.2 ∧ p.2 < (nx H i).2) := fun i hi => by
      have := pos i hi
      unfold left2At leftB
      rw [show cross (gt H i).1 (gt H i).2 (nx H i).1 (nx H i).2 p.1 p.2 = crossP (gt H i) (nx H i) p from rfl, decide_eq_true this]
      by_cases g1 : p.2 < (gt H i).2 <;> by_cases g2 : p.2 < (nx H i).2 <;> by_cases g3 : (gt H i).2 < (nx H i).2 <;> simp [g1, g2, g3] <;> omega
    have one : ∀ i j, i < H.length → j < H.length → left2At H p i = true → left2At H p j = true → i = j := fun i j hi hj ei ej => by
      obtain ⟨a1, a2⟩ := (up i hi).1 ei
      obtain ⟨b1, b2⟩ := (up j hj).1 ej
      have Ei := h.edge i hi
      have Ej := h.edge j hj
      have z := two_up a1 a2 b1 b2 (Ei.ok _ Ej.fst).nonneg (Ei.ok _ Ej.snd).nonneg (Ej.ok _ Ei.fst).nonneg (Ej.ok _ Ei.snd).nonneg
      have on : onP (gt H i) (nx H i) (gt H j) = true := (Ei.ok _ Ej.fst).resolve_left (by omega)
      rcases hedge_between Ei Ej on with q | q
      · exact (hull_inj h hj hi q).symm
      · rw [q] at b1; omega
    have some_up : ∃ m, m < H.length ∧ left2At H p m = true := by
      obtain ⟨k, hk, htop⟩ := top_of (vtx H) H.length (by omega)
      have topV : ∀ x, leP (vtx H x) (vtx H k) := fun x => by
        have := htop (x % H.length) (Nat.mod_lt _ (by omega))
        have e : vtx H (x % H.length) = vtx H x := by unfold vtx; rw [Nat.mod_mod]
        rw [e] at this; exact this
      have hhi : p.2 < (vtx H k).2 := by
        apply Classical.byContradiction
        intro hno
        have c1 := posV (k + H.length - 1)
        have c2 := posV k
        have e1 : vtx H (k + H.length - 1 + 1) = vtx H k := by rw [show k + H.length - 1 + 1 = k + H.length by omega]; exact vtx_add H k
        rw [e1] at c1
        have t1 := topV (k + H.length - 1)
        have t2 := topV (k + 1)
        have E1 := h.edgeV (k + H.length - 1)
        rw [e1] at E1
        have E2 := h.edgeV k
        have c3 : 0 < crossP (vtx H (k + H.length - 1)) (vtx H k) (vtx H (k + 1)) := by
          rcases E1.ok _ E2.snd with q | q
          · exact q
          · exfalso
            rcases E1.ok p hp with r | r
            · have hq := onP_cross q
              -- the next corner lies on the edge before: it is its first point
              rcases hedge_between E1 (h.edgeV (k + 1)) q with g | g
              · rw [g] at c2
                have := crossP_rot (vtx H (k + H.length - 1)) (vtx H k) p
                omega
              · exact E2.ne g.symm
            · have := onP_cross r
              omega
        have f1 : (vtx H (k + H.length - 1)).2 ≤ (vtx H k).2 := by
          rcases t1 with e | e
          · rw [e]; exact Int.le_refl _
          · unfold ltP at e; omega
        have f2 : (vtx H (k + 1)).2 ≤ (vtx H k).2 := by
          rcases t2 with e | e
          · rw [e]; exact Int.le_refl _
          · unfold ltP at e; omega
        rw [crossP_xr2] at c1 c3
        rw [crossP_xr] at c2
        unfold xr subP at c1 c2 c3
        simp only at c1 c2 c3
        exact no_top (a2 := (vtx H k).2 - (vtx H (k + H.length - 1)).2) (b2 := (vtx H (k + 1)).2 - (vtx H k).2) (q2 := p.2 - (vtx H k).2) (by omega) (by omega) (by omega) c1 c2 c3
      have h0 : (vtx H 0).2 ≤ p.2 := by
        rw [h.vtx0]
        rcases hlow p hp with e | e
        · rw [e]; exact Int.le_refl _
        · unfold ltP at e; omega
      have climb : ∀ x, p.2 < (vtx H x).2 → ∃ m, m < x ∧ (vtx H m).2 ≤ p.2 ∧ p.2 < (vtx H (m + 1)).2 := by
        intro x
        induction x with
        | zero => intro hx; omega
        | succ x ih =>
          intro hx
          rcases Int.lt_or_le p.2 (vtx H x).2 with g | g
          · obtain ⟨m, m1, m2⟩ := ih g
            exact ⟨m, by omega, m2⟩
          · exact ⟨x, by omega, g, hx⟩
      obtain ⟨m, m1, m2, m3⟩ := climb k hhi
      have hm : m < H.length := by omega
      exact ⟨m, hm, (up m hm).2 ⟨by rw [← vtx_lt hm]; exact m2, m3⟩⟩
    obtain ⟨m, hm, em⟩ := some_up
    have all : ∀ i, i < H.length → left2At H p i = decide (i = m) := fun i hi => by
      by_cases e : i = m
      · rw [e, em, decide_eq_true rfl]
      · rw [decide_eq_false e]
        cases q : left2At H p i
        · rfl
        · exact absurd (one i m hi hm q em) e
    rw [side_one all H.length (Nat.le_refl _), if_pos hm]

end Go.Proofs.Ytlmdmgbhfoehgaa

/- Points in slices of a call's own, which grow by append; the law's cut. -/
namespace Go.Proofs.Ytlmdmgbhfoehgaa
open Go.RowKit Go.Sort
attribute [local go_sem ↓] run_min_mn run_max_mx

def ptsV : List Pt → List Value
  | [] => []
  | p :: l => .int .i64 p.1 :: .int .i64 p.2 :: ptsV l
theorem ptsV_length : ∀ l, (ptsV l).length = l.length * 2
  | [] => rfl
  | p :: l => by simp only [ptsV, List.length_cons, ptsV_length l]; omega
theorem ptsV_append : ∀ a b, ptsV (a ++ b) = ptsV a ++ ptsV b
  | [], _ => rfl
  | p :: a, b => by simp only [ptsV, List.cons_append, ptsV_append a b]
theorem ptsV_get : ∀ (l : List Pt) (i : Nat) (p : Pt), l[i]? = some p → (ptsV l)[i * 2]? = some (.int .i64 p.1) ∧ (ptsV l)[i * 2 + 1]? = some (.int .i64 p.2)
  | [], _, _, h => by simp at h
  | q :: l, 0, p, h => by
    obtain rfl : q = p := by simpa using h
    exact ⟨rfl, rfl⟩
  | q :: l, i + 1, p, h => by
    have := ptsV_get l i p (by simpa using h)
    rw [show (i + 1) * 2 = i * 2 + 1 + 1 by omega]
    simpa only [ptsV, List.getElem?_cons_succ] using this
theorem ptsV_cell : ∀ (l : List Pt), ∀ u ∈ ptsV l, u.oneCell' = true
  | [], u, h => by cases h
  | p :: l, u, h => by
    simp only [ptsV, List.mem_cons] at h
    rcases h with rfl | rfl | h
    · rfl
    · rfl
    · exact ptsV_cell l u h
theorem ptsV_at {w : World} {b : Nat} : ∀ (l : List Pt) (off : Nat), PtsIn w b off l → ∀ j u, (ptsV l)[j]? = some u → w.cell? ⟨b, off + j, none⟩ = some u
  | [], _, _, _, _, h => by simp [ptsV] at h
  | p :: l, off, hp, 0, u, h => by
    have := (hp 0 p rfl).1
    obtain rfl : Value.int .i64 p.1 = u := by simpa [ptsV] using h
    simpa using this
  | p :: l, off, hp, 1, u, h => by
    have := (hp 0 p rfl).2
    obtain rfl : Value.int .i64 p.2 = u := by simpa [ptsV] using h
    simpa using this
  | p :: l, off, hp, j + 2, u, h => by
    have hq : PtsIn w b (off + 2) l := fun i q hq => by
      have := hp (i + 1) q (by simpa using hq)
      rw [show off + (i + 1) * 2 = off + 2 + i * 2 by omega] at this
      exact this
    have := ptsV_at l (off + 2) hq j u (by simpa [ptsV] using h)
    rw [show off + (j + 2) = off + 2 + j by omega]
    exact this

theorem PtsIn.take {w : World} {b off : Nat} {l : List Pt} (h : PtsIn w b off l) (k : Nat) : PtsIn w b off (l.take k) := fun i p hp => by
  rw [List.getElem?_take] at hp
  split at hp
  · exact h i p hp
  · cases hp
theorem PtsAt.take {w : World} {A : Option Addr} {l : List Pt} (h : PtsAt w A l) (k : Nat) : PtsAt w A (l.take k) := fun hne => by
  obtain ⟨b, off, e, hlt, hc⟩ := h (by intro e; subst e; simp at hne)
  exact ⟨b, off, e, hlt, hc.take k⟩

/-- A slice of the call's own: blocks from base on. -/
def PtsOwn (w : World) (base : Nat) (v : Value) (l : List Pt) : Prop := w.ownsRow base 38 2 v l.length (ptsV l)

theorem PtsOwn.slice {w : World} {base : Nat} {v : Value} {l : List Pt} (h : PtsOwn w base v l) :
    ∃ A c, v = .slice A l.length c ∧ l.length ≤ c ∧ PtsAt w A l ∧ (∀ a, A = some a → base ≤ a.block) := by
  rcases h.2 with ⟨rfl, hn⟩ | ⟨g, cap, cur, rfl, hb, hg, hnc, _, hsz, ht⟩
  · refine ⟨none, 0, by rw [hn], by omega, fun hne => absurd (List.eq_nil_of_length_eq_zero hn) hne, fun a ha => by cases ha⟩
  · refine ⟨_, cap, rfl, hnc, fun _ => ⟨g, 0, rfl, (Array.getElem?_eq_some_iff.1 hg).1, fun i p hp => ?_⟩, fun a ha => by cases ha; exact hb⟩
    obtain ⟨h1, h2⟩ := ptsV_get l i p hp
    rw [← ht, List.getElem?_take] at h1 h2
    constructor
    · rw [Nat.zero_add, cell_of_row w g _ cur _ (0, 0) hg]
      split at h1
      · simpa using h1
      · cases h1
    · rw [Nat.zero_add, cell_of_row w g _ cur _ (0, 0) hg]
      split at h2
      · simpa using h2
      · cases h2

theorem PtsOwn.empty (w : World) : PtsOwn (w.alloc (.cells #[] 38)) w.heap.size (.slice (some ⟨w.heap.size, 0, none⟩) 0 0) [] :=
  World.ownsRow_made w #[] 0 (Nat.le_refl _) (by simp [maxLen]) rfl

theorem info_pt : (Try.prog.info? 38).map (fun i => (i.zero, i.size, i.bytes)) = some (some (.agg #[.int .i64 0, .int .i64 0]), 2, 16) := by kernel_rfl
theorem info_pparts {o : Option TypeInfo} {z : Value} {s b : Nat} (h : o.map (fun i => (i.zero, i.size, i.bytes)) = some (some z, s, b)) : ∃ i, o = some i ∧ i.zero = some z ∧ i.size = s ∧ i.bytes = b := by
  cases o with
  | none => cases h
  | some i =>
    have e : (i.zero, i.size, i.bytes) = (some z, s, b) := by simpa using h
    simp only [Prod.mk.injEq] at e
    exact ⟨i, rfl, e.1, e.2.1, e.2.2⟩

/-- An append. -/
theorem papp_run {w : World} {base : Nat} {v : Value} {xs ys : List Pt} (h : PtsOwn w base v xs) {A : Option Addr} (c : Nat) (hy : PtsAt w A ys) (hlen : xs.length + ys.length ≤ 100000) (hb : base ≤ w.heap.size) (ty : TypeId) :
    ∃ v' w', (Builtin.append_ #[22, 22] ty #[v, .slice A ys.length c]).run Try.prog w = .ok v' w' ∧ PtsOwn w' base v' (xs ++ ys) ∧ w.grownBy w' v.ownBlock ∧
      (v'.ownBlock = v.ownBlock ∨ v'.ownBlock = some w.heap.size) := by
  obtain ⟨i0, hi0, hz0, hz1, hz2⟩ := info_pparts info_pt
  have e2 : (xs ++ ys).length = xs.length + ys.length := by simp
  have fin : ∀ ad : Addr, A = some ad → (∀ j u, (ptsV ys)[j]? = some u → w.cell? (ad.add j) = some u) →
      ∃ v' w', (Builtin.append_ #[22, 22] ty #[v, .slice A ys.length c]).run Try.prog w = .ok v' w' ∧ PtsOwn w' base v' (xs ++ ys) ∧ w.grownBy w' v.ownBlock ∧ (v'.ownBlock = v.ownBlock ∨ v'.ownBlock = some w.heap.size) := by
    intro ad e hc
    subst e
    obtain ⟨v', w', hr, h2, h3, _, h5⟩ := run_append_own_at (P := Try.prog) w base 22 ty 38 i0 _ 2 16 Try.underlying22 hi0 hz0 hz1 hz2 rfl (by omega) v xs.length (ptsV xs) h ad ys.length c (ptsV ys) (ptsV_length ys) hc (ptsV_cell ys) (by simp [maxLen]; omega) (by omega) hb
    exact ⟨v', w', hr, by unfold PtsOwn; rw [e2, ptsV_append]; exact h2, h3, h5⟩
  cases ys with
  | nil =>
    cases A with
    | none =>
      refine ⟨v, w, ?_, by simpa using h, World.grownBy.refl w _, .inl rfl⟩
      rcases h.2 with ⟨rfl, hn⟩ | ⟨g, cap, cur, rfl, _, _, hnc, _⟩
      · simp [Builtin.append_, run_underlying Try.underlying22, sizeOf, typeInfo, hi0, Builtin.lenOf, Builtin.firstCells]
      · simp [Builtin.append_, run_underlying Try.underlying22, sizeOf, typeInfo, hi0, Builtin.lenOf, Builtin.firstCells, hnc, storeCells]
    | some ad => exact fin ad rfl (fun j u hu => by simp [ptsV] at hu)
  | cons y ys =>
    obtain ⟨b, off, rfl, _, hc⟩ := hy (by simp)
    refine fin _ rfl fun j u hu => ?_
    have e : (⟨b, off, none⟩ : Addr).add j = ⟨b, off + j, none⟩ := by unfold Addr.add; split <;> simp_all
    rw [e]
    exact ptsV_at _ _ hc j u hu

theorem wpList_papp {w : World} {ops : Array Oper} {rest : List Oper} {o : Oper} {a : Act} {Q : Exit → Act → World → Prop} (hgd : o.guard = none) (s x : Operand)
    (ho : o.op = .call { callee := .builtin .append, args := #[s, x], argTypes := #[22, 22] }) (base : Nat) (v : Value) (xs ys : List Pt) (A : Option Addr) (m c : Nat)
    (hs : a.eval s = v) (hx : a.eval x = .slice A m c) (hown : PtsOwn w base v xs) (hm : ys.length = m) (hy : PtsAt w A ys) (hlen : xs.length + ys.length ≤ 100000) (hb : base ≤ w.heap.size)
    (h : ∀ v' w', PtsOwn w' base v' (xs ++ ys) → w.grownBy w' v.ownBlock → (v'.ownBlock = v.ownBlock ∨ v'.ownBlock = some w.heap.size) → wpList Try.prog ops Q rest (a.put o.dst v') w') : wpList Try.prog ops Q (o :: rest) a w :=
  wpList_plain hgd fun _ hK => by
    subst hm
    obtain ⟨v', w', hr, h2, h3, h4⟩ := papp_run hown c hy hlen hb o.type
    unfold Oper.wp execOp
    simp only [ho, resolve, invoke, builtin, Sem.run_bind, Sem.run_pure, Result.andThen_ok, List.map_toArray, List.map_cons, List.map_nil, hs, hx, hr]
    exact hK _ _ (h v' w' h2 h3 h4)
end Go.Proofs.Ytlmdmgbhfoehgaa

/- The law's cut of a slice of points. -/
namespace Go.Proofs.Ytlmdmgbhfoehgaa
open Go.RowKit Go.Sort
attribute [local go_sem ↓] run_min_mn run_max_mx

theorem mn_nat (a b : Nat) : mn (a : Int) b = ((min a b : Nat) : Int) := by unfold mn; split <;> omega

/-- How many points are left. -/
def cutN (n k : Nat) : Nat := if 32 < n then 33 else k
/-- What the cut hands back. -/
def PCutTo (w : World) (xs : List Pt) (e : Ending) (w' : World) : Prop := ∃ v, e = .returned v ∧ PtsOwn w' w.heap.size v xs ∧ Below w.heap.size w w'

set_option maxHeartbeats 400000 in
set_option maxRecDepth 100000 in
theorem pcut_any (A : Option Addr) (n c k : Nat) (xs : List Pt) (w : World) (hn : xs.length = n) (hc : n ≤ c) (hbig : n ≤ 9223372036854775807) (hk : k ≤ 1000) (hx : PtsAt w A xs) :
    Calls Try.prog 8 #[.slice A n c, .int .i64 k] w (PCutTo w (xs.take (cutN n k))) := by
  have hE : ∀ q, (xs.take q).length = min n q := fun q => by rw [List.length_take, hn, Nat.min_comm]
  have hX : ∀ q, PtsAt (w.alloc (.cells #[] 38)) A (xs.take q) := fun q => (hx.take q).below ((Below.refl _ _).alloc (Nat.le_refl _) _)
  by_cases hg : 32 < n
  · have hq : cutN n k = 33 := by unfold cutN; rw [if_pos hg]
    rw [hq]
    have hmn := mn_nat n 33
    have hl := hE 33
    have hx' := hX 33
    rw [show min n 33 = 33 by omega] at hmn hl
    have HL := Lib.hid hl
    have HX := Lib.hid hx'
    have hmn' : mn (n : Int) 33 = 33 := hmn
    clear hx hx' hn hl hE hX hmn hq
    go_enter Try.func8, Try.ntmps8
    go_wp2_with (at_builtin; refine wpList_papp rfl _ _ rfl w.heap.size (.slice (some ⟨w.heap.size, 0, none⟩) 0 0) [] (xs.take 33) _ 33 c rfl rfl (PtsOwn.empty w) HL.out HX.out (by rw [HL.out]; simp) (by simp) ?_; intro v1 w1 ho hg hat; have HO := Lib.hid ho; have HG := Lib.hid hg; clear ho hg hat)
    go_ret
    exact ⟨_, rfl, by simpa using HO.out, ((Below.refl _ _).alloc (Nat.le_refl _) _).grown HG.out (by simp) (by simp [Value.ownBlock])⟩
  · have hq : cutN n k = k := by unfold cutN; rw [if_neg hg]
    rw [hq]
    have hmn := mn_nat n k
    have hl := hE k
    have hx' := hX k
    generalize hm : min n k = m at *
    have hmc : m ≤ c := by omega
    have hm1 : m ≤ 1000 := by omega
    have HL := Lib.hid hl
    have HX := Lib.hid hx'
    clear hx hx' hn hl hm hE hX hq
    go_enter Try.func8, Try.ntmps8
    go_wp2_with (at_builtin; refine wpList_papp rfl _ _ rfl w.heap.size (.slice (some ⟨w.heap.size, 0, none⟩) 0 0) [] (xs.take k) _ m c rfl rfl (PtsOwn.empty w) HL.out HX.out (by rw [HL.out]; simp; omega) (by simp) ?_; intro v1 w1 ho hg hat; have HO := Lib.hid ho; have HG := Lib.hid hg; clear ho hg hat)
    go_ret
    exact ⟨_, rfl, by simpa using HO.out, ((Below.refl _ _).alloc (Nat.le_refl _) _).grown HG.out (by simp) (by simp [Value.ownBlock])⟩

end Go.Proofs.Ytlmdmgbhfoehgaa

/- A row of points that a function makes: its cells; points that are moved. -/
namespace Go.Proofs.Ytlmdmgbhfoehgaa
open Go.RowKit Go.Sort
attribute [local go_sem ↓] run_min_mn run_max_mx

/-- A block that holds a list of points, and nothing else. -/
def PtBlk (w : World) (g : Nat) (l : List Pt) : Prop := w.heap[g]? = some (.cells (ptsV l).toArray 38 (0, 0))
section
variable {w w' : World} {g : Nat} {l : List Pt}
theorem PtBlk.lt (h : PtBlk w g l) : g < w.heap.size := (Array.getElem?_eq_some_iff.1 h).1
theorem PtBlk.same (h : PtBlk w g l) (e : w'.heap[g]? = w.heap[g]?) : PtBlk w' g l := e.trans h
theorem PtBlk.cells (h : PtBlk w g l) (j : Nat) : w.cell? ⟨g, j, none⟩ = (ptsV l)[j]? := by
  rw [cell_of_row w g j _ 38 (0, 0) h]; simp
theorem PtBlk.cell (h : PtBlk w g l) {i : Nat} {p : Pt} (hp : l[i]? = some p) : w.cell? ⟨g, i * 2, none⟩ = some (.int .i64 p.1) ∧ w.cell? ⟨g, i * 2 + 1, none⟩ = some (.int .i64 p.2) := by
  obtain ⟨h1, h2⟩ := ptsV_get l i p hp
  exact ⟨(h.cells _).trans h1, (h.cells _).trans h2⟩
theorem PtBlk.frozen (h : PtBlk w g l) (i : Nat) : w.frozen? ⟨g, i, none⟩ = false := by simp [World.frozen?, show w.heap[g]? = _ from h]
theorem PtBlk.pts (h : PtBlk w g l) : PtsIn w g 0 l := fun i p hp => by
  obtain ⟨h1, h2⟩ := h.cell hp
  exact ⟨by rw [Nat.zero_add]; exact h1, by rw [Nat.zero_add]; exact h2⟩
theorem PtBlk.below {B : Nat} (h : PtBlk w g l) (hb : Below B w w') (hg : g < B) : PtBlk w' g l := h.same (hb.block g hg)
theorem PtBlk.alloc (h : PtBlk w g l) (o : Obj) : PtBlk (w.alloc o) g l := h.same (Below.heap_alloc w o g h.lt)
theorem ptsV_set : ∀ (l : List Pt) (i : Nat) (x y : Int), ((ptsV l).set (i * 2) (.int .i64 x)).set (i * 2 + 1) (.int .i64 y) = ptsV (l.set i (x, y))
  | [], _, _, _ => rfl
  | p :: l, 0, x, y => rfl
  | p :: l, i + 1, x, y => by
    have e : (i + 1) * 2 = i * 2 + 1 + 1 := by omega
    rw [e]
    simp only [ptsV, List.set_cons_succ, ptsV_set l i x y]
theorem PtBlk.set (h : PtBlk w g l) (i : Nat) (x y : Int) : PtBlk ((w.setCell ⟨g, i * 2, none⟩ (.int .i64 x)).setCell ⟨g, i * 2 + 1, none⟩ (.int .i64 y)) g (l.set i (x, y)) := by
  have e : w.heap[g]? = _ := h
  unfold PtBlk
  rw [← ptsV_set]
  simp [World.setCell, Array.getElem?_modify, e]
theorem PtBlk.far (h : PtBlk w g l) {p : Addr} (hp : g ≠ p.block) (u : Value) : PtBlk (w.setCell p u) g l := h.same (Below.heap_setCell w p u g hp)
end

/-- Points that a function gives. -/
def ptF (n : Nat) (f : Nat → Pt) : List Pt := (List.range n).map f
theorem ptF_length (n : Nat) (f : Nat → Pt) : (ptF n f).length = n := by simp [ptF]
theorem ptF_set (n : Nat) (f : Nat → Pt) (t : Nat) (v : Pt) : (ptF n f).set t v = ptF n (fun u => if u = t then v else f u) := by
  apply List.ext_getElem
  · simp [ptF]
  · intro i h1 h2
    rw [List.getElem_set]
    simp only [ptF, List.getElem_map, List.getElem_range]
    by_cases e : t = i
    · subst e; simp
    · rw [if_neg e, if_neg (fun h => e h.symm)]
theorem ptF_congr {n : Nat} {f g : Nat → Pt} (h : ∀ i, i < n → f i = g i) : ptF n f = ptF n g := List.map_congr_left fun i hi => h i (List.mem_range.1 hi)
theorem ptF_get {n : Nat} {f : Nat → Pt} {i : Nat} (h : i < n) : (ptF n f)[i]? = some (f i) := by simp [ptF, h]

theorem made_pts (m : Nat) : madeCells #[Value.int .i64 0, Value.int .i64 0] (m * 2) = (ptsV (ptF m fun _ => (0, 0))).toArray := by
  apply Array.ext'
  rw [List.toList_toArray]
  have e : ptsV (ptF m fun _ => (0, 0)) = List.replicate (m * 2) (Value.int .i64 0) := by
    induction m with
    | zero => rfl
    | succ m ih =>
      have : ptF (m + 1) (fun _ => ((0, 0) : Pt)) = ptF m (fun _ => (0, 0)) ++ [(0, 0)] := by simp [ptF, List.range_succ]
      rw [this, ptsV_append, ih, show (m + 1) * 2 = m * 2 + 1 + 1 by omega, List.replicate_succ', List.replicate_succ']
      simp [ptsV]
  rw [e]
  apply List.ext_getElem
  · simp [madeCells]
  · intro i h1 h2
    simp only [madeCells, Array.toList_map, Array.toList_range, List.getElem_map, List.getElem_range, List.getElem_replicate]
    have : i % (#[Value.int .i64 0, Value.int .i64 0] : Array Value).size < 2 := Nat.mod_lt _ (by decide)
    generalize i % (#[Value.int .i64 0, Value.int .i64 0] : Array Value).size = r at this
    match r, this with
    | 0, _ => rfl
    | 1, _ => rfl

/-- make([]api.Point, n). -/
theorem make_pts (m : Nat) (hm : m ≤ 1000001) (W : World) : (Instr.makeSlice 22 (.int .i64 (m : Int)) (.int .i64 (m : Int))).run Try.prog W =
    .ok (.slice (some ⟨W.heap.size, 0, none⟩) m m) (W.alloc (.cells (ptsV (ptF m fun _ => (0, 0))).toArray 38)) := by
  obtain ⟨i0, hi0, hz0, hz1, hz2⟩ := info_pparts info_pt
  have h := run_makeSlice (P := Try.prog) W 22 38 i0 _ Try.underlying22 hi0 hz0 .i64 .i64 (m : Int) (m : Int) (by omega) (Int.le_refl _) (by rw [hz1]; omega) (by rw [hz2]; omega) (by omega)
  rw [h, hz1, Int.toNat_natCast]
  rw [show (Value.agg #[Value.int .i64 0, Value.int .i64 0]).cells = #[Value.int .i64 0, Value.int .i64 0] from rfl, made_pts]

def addP (p q : Pt) : Pt := (p.1 + q.1, p.2 + q.2)
def movedL (l : List Pt) (v : Pt) : List Pt := l.map fun p => addP p v
theorem movedL_length (l : List Pt) (v : Pt) : (movedL l v).length = l.length := by simp [movedL]
theorem movedL_F (l : List Pt) (v : Pt) : movedL l v = ptF l.length fun i => addP (gt l i) v := by
  apply List.ext_getElem
  · simp [movedL, ptF]
  · intro i h1 h2
    have : i < l.length := by simpa [movedL] using h1
    simp [movedL, ptF, gt, List.getD, this]

theorem plus_any (ax ay bx by' : Int) (w : World) (h1 : -200000 ≤ ax ∧ ax ≤ 200000) (h2 : -200000 ≤ ay ∧ ay ≤ 200000) (h3 : -200000 ≤ bx ∧ bx ≤ 200000) (h4 : -200000 ≤ by' ∧ by' ≤ 200000) :
    Calls Try.prog 57 #[.agg #[.int .i64 ax, .int .i64 ay], .agg #[.int .i64 bx, .int .i64 by']] w fun e w' =>
      e = .returned (.agg #[.int .i64 (ax + bx), .int .i64 (ay + by')]) ∧ Below w.heap.size w w' := by
  go_enter Try.func57, Try.ntmps57
  go_wp2
  go_returns
  exact ⟨rfl, by go_grown⟩

def MovedTo (l : List Pt) (w : World) (n : Nat) (e : Ending) (w' : World) : Prop :=
  ∃ g : Nat, e = .returned (.slice (some ⟨g, 0, none⟩) n n) ∧ w.heap.size ≤ g ∧ PtBlk w' g l ∧ Below w.heap.size w w'

set_option maxRecDepth 100000 in
set_option maxHeartbeats 2000000 in
theorem moved_any (b off n c : Nat) (l : List Pt) (v : Pt) (w : World) (hl : l.length = n) (hn' : n ≤ 100) (h : PtsIn w b off l) (hb : b < w.heap.size) (hbd : ∀ i, Bd (gt l i)) (hv : Bd v) :
    Calls Try.prog 53 #[.slice (some ⟨b, off, none⟩) n c, .agg #[.int .i64 v.1, .int .i64 v.2]] w (MovedTo (movedL l v) w n) := by
  have HL := Lib.hid hl
  have HP := Lib.hid h
  have HBD := Lib.hid hbd
  have hmk := make_pts n (by omega)
  have HM : Hid (movedL l v = ptF n fun i => addP (gt l i) v) := Lib.hid (by rw [← hl]; exact movedL_F l v)
  obtain ⟨vx, vy⟩ := v
  obtain ⟨hv1, hv2⟩ := hv
  clear hl h hbd
  go_enter Try.func53, Try.ntmps53
  go_upto_region 1 with (fail)
  have B : PtAt (w.alloc (bx vx vy)) w.heap.size vx vy := PtAt.new
  have hb0 : Below w.heap.size w (w.alloc (bx vx vy)) := (Below.refl _ _).alloc (Nat.le_refl _) _
  have hz0 : (w.alloc (bx vx vy)).heap.size = w.heap.size + 1 := by simp
  generalize w.alloc (bx vx vy) = w0 at *
  generalize hgg : w.heap.size = gg at *
  go_wp2_with fail
  have R0 : PtBlk (w0.alloc (.cells (ptsV (ptF n fun _ => (0, 0))).toArray 38)) w0.heap.size (ptF n fun _ => (0, 0)) := heap_alloc_new _ _
  have hb1 : Below w0.heap.size w0 (w0.alloc (.cells (ptsV (ptF n fun _ => (0, 0))).toArray 38)) := (Below.refl _ _).alloc (Nat.le_refl _) _
  have hz1 : (w0.alloc (.cells (ptsV (ptF n fun _ => (0, 0))).toArray 38)).heap.size = gg + 2 := by simp; omega
  generalize w0.alloc (.cells (ptsV (ptF n fun _ => (0, 0))).toArray 38) = w1 at *
  rw [hz0] at R0 hb1
  have hb2 : Below gg w w1 := hb0.trans (hb1.mono (by omega))
  have B1 : PtAt w1 gg vx vy := PtAt.below hb1 (by omega) B
  clear hb0 hb1 B hmk
  go_loopw [13] (fun i wr => ∃ k : Nat, k ≤ n ∧ i = .int .i64 k ∧ PtBlk wr (gg + 1) (ptF n fun u => if u < k then addP (gt l u) (vx, vy) else (0, 0)) ∧ PtAt wr gg vx vy ∧ Below gg w wr ∧ gg + 2 ≤ wr.heap.size) (fun i _ => n - (intOf i).toNat)
  case atStart => exact ⟨0, Nat.zero_le _, rfl, by simpa using R0, B1, hb2, by omega⟩
  case round =>
    clear R0 B1 hb2
    obtain ⟨k, hk, rfl, hR, ⟨p1, p2⟩, hbw, hgr⟩ := hrel
    have HR := Lib.hid hR
    clear hR
    by_cases hlt : k < n
    · obtain ⟨h1, h2⟩ := (HP.out.below hbw hb) k (gt l k) (by unfold gt; rw [List.getD_eq_getElem?_getD, List.getElem?_eq_getElem (by rw [HL.out]; exact hlt)]; rfl)
      have hB : b < wr.heap.size := by omega
      have hg1 : gg < wr.heap.size := by omega
      have hg2 : gg + 1 < wr.heap.size := by omega
      obtain ⟨d1, d2⟩ := HBD.out k
      have HN : Hid (∀ W, PtBlk W (gg + 1) ((ptF n fun u => if u < k then addP (gt l u) (vx, vy) else (0, 0)).set k (addP (gt l k) (vx, vy))) → PtBlk W (gg + 1) (ptF n fun u => if u < k + 1 then addP (gt l u) (vx, vy) else (0, 0))) := Lib.hid fun W hW => by
        rw [ptF_set] at hW
        rw [ptF_congr (g := fun u => if u = k then addP (gt l k) (vx, vy) else if u < k then addP (gt l u) (vx, vy) else (0, 0))]
        · exact hW
        · intro i hi
          by_cases e : i = k
          · subst e; simp
          · rw [if_neg e]
            by_cases e2 : i < k
            · rw [if_pos e2, if_pos (by omega)]
            · rw [if_neg e2, if_neg (by omega)]
      generalize hp : gt l k = p at *
      obtain ⟨x, y⟩ := p
      have PL := fun W => Lib.hid (plus_any x y vx vy W (by simp only at d1; omega) (by simp only at d2; omega) (by omega) (by omega))
      clear hp d1 d2
      go_wp2_with fail
      have hb1 : Below wr.heap.size wr (wr.alloc (bx x y)) := (Below.refl _ _).alloc (Nat.le_refl _) _
      refine ((PL _).out).mono ?_
      rintro e w2 ⟨rfl, hb2⟩
      have hb3 := hb1.trans (hb2.mono hb1.size)
      have hbw3 := hbw.trans (hb3.mono (by omega))
      have R2 := HR.out.below hb3 (by omega)
      obtain ⟨p1, p2⟩ := PtAt.below hb3 (by omega) ⟨p1, p2⟩
      obtain ⟨c1, c2⟩ := R2.cell (i := k) (ptF_get hlt)
      have f1 := R2.frozen (k * 2)
      have f2 := R2.frozen (k * 2 + 1)
      have hsz := hb3.size
      have HR2 := Lib.hid R2
      clear hb1 hb2 R2
      go_wp2_with fail
      go_roundw
      case rel => exact ⟨k + 1, by omega, by go_num, HN.out _ (HR2.out.set k _ _), PtAt.set_far (by simp) (PtAt.set_far (by simp) ⟨p1, p2⟩), (hbw3.setCell (by simp) _).setCell (by simp) _, by simp; omega⟩
      case measure => simp [intOf]; omega
    · obtain rfl : k = n := by omega
      have HF : Hid (PtBlk wr (gg + 1) (movedL l (vx, vy))) := Lib.hid (by
        rw [HM.out]
        have := HR.out
        rw [ptF_congr (g := fun i => addP (gt l i) (vx, vy)) (fun i hi => by rw [if_pos hi])] at this
        exact this)
      go_wp2_with fail
      go_ret
      exact ⟨gg + 1, rfl, by omega, HF.out, by rw [hgg]; exact hbw⟩
end Go.Proofs.Ytlmdmgbhfoehgaa

/- Package shape's Where, and the law's own 'simple'. -/
namespace Go.Proofs.Ytlmdmgbhfoehgaa
open Go.RowKit Go.Sort
attribute [local go_sem ↓] run_min_mn run_max_mx

def simpE (l : List Pt) : Int := if polyB l then (if simpleB l then 0 else 2) else 1

theorem checkSimple_any (A : Option Addr) (n c : Nat) (l : List Pt) (w : World) (hn : l.length = n) (hbig : n ≤ 1000000) (hx : PtsAt w A l) :
    Calls Try.prog 34 #[.slice A n c] w fun e w' => e = .returned (.int .i64 (simpE l)) ∧ Below w.heap.size w w' := by
  have K := Lib.hid (isPolygon_any A n c l w hn hbig hx)
  cases hp : polyB l
  · have e1 : simpE l = 1 := by unfold simpE; rw [hp]; rfl
    rw [e1]
    rw [hp] at K
    clear hn hx
    go_enter Try.func34, Try.ntmps34
    go_wp2_with fail
    refine (K.out).mono ?_
    rintro e w' ⟨rfl, hb⟩
    go_wp2
    go_ret
    exact ⟨rfl, hb⟩
  · have e1 : simpE l = if simpleB l then 0 else 2 := by unfold simpE; rw [hp]; rfl
    have E1 := Lib.hid e1
    rw [hp] at K
    obtain ⟨b, off, rfl, h1, h2, h3, h4, h5⟩ := hx.poly hn hp
    have S := fun W hW => Lib.hid (isSimple_any b off n c l W hn (by omega) (by omega) (h4.below (B := w.heap.size) hW h3) (Nat.lt_of_lt_of_le h3 hW.size) h5)
    rw [simple_same] at S
    clear hn hx h4 h5 e1
    generalize simpE l = r at *
    cases hs : simpleB l
    all_goals
      have E2 := Lib.hid (E1.out.trans (by rw [hs]))
      rw [hs] at S
      go_enter Try.func34, Try.ntmps34
      go_wp2_with fail
      refine (K.out).mono ?_
      rintro e w1 ⟨rfl, hb⟩
      go_wp2_with fail
      refine ((S _ hb).out).mono ?_
      rintro e w2 ⟨rfl, hb2⟩
      go_wp2
      go_ret
      exact ⟨ret_int E2.out.symm, hb.trans (hb2.mono hb.size)⟩

theorem lawSimple_any (A : Option Addr) (n c : Nat) (l : List Pt) (w : World) (hn : l.length = n) (hbig : n ≤ 1000000) (hx : PtsAt w A l) :
    Calls Try.prog 17 #[.slice A n c] w fun e w' => e = .returned (.int .i64 (simpE l)) ∧ Below w.heap.size w w' := by
  have K := Lib.hid (polygonX_any A n c l w hn hbig hx)
  cases hp : polyB l
  · have e1 : simpE l = 1 := by unfold simpE; rw [hp]; rfl
    rw [e1]
    rw [hp] at K
    clear hn hx
    go_enter Try.func17, Try.ntmps17
    go_wp2_with fail
    refine (K.out).mono ?_
    rintro e w' ⟨rfl, hb⟩
    go_wp2
    go_ret
    exact ⟨rfl, hb⟩
  · have e1 : simpE l = if simpleB l then 0 else 2 := by unfold simpE; rw [hp]; rfl
    have E1 := Lib.hid e1
    rw [hp] at K
    obtain ⟨b, off, rfl, h1, h2, h3, h4, h5⟩ := hx.poly hn hp
    have S := fun W hW => Lib.hid (simple_any b off n c l W hn (by omega) (by omega) (h4.below (B := w.heap.size) hW h3) (Nat.lt_of_lt_of_le h3 hW.size) h5)
    clear hn hx h4 h5 e1
    generalize simpE l = r at *
    cases hs : simpleB l
    all_goals
      have E2 := Lib.hid (E1.out.trans (by rw [hs]))
      rw [hs] at S
      go_enter Try.func17, Try.ntmps17
      go_wp2_with fail
      refine (K.out).mono ?_
      rintro e w1 ⟨rfl, hb⟩
      go_wp2_with fail
      refine ((S _ hb).out).mono ?_
      rintro e w2 ⟨rfl, hb2⟩
      go_wp2
      go_ret
      exact ⟨ret_int E2.out.symm, hb.trans (hb2.mono hb.size)⟩

theorem simpE_cases (l : List Pt) : (simpE l = 1 ∧ polyB l = false) ∨ (simpE l = 2 ∧ polyB l = true ∧ simpleB l = false) ∨ (simpE l = 0 ∧ polyB l = true ∧ simpleB l = true) := by
  unfold simpE
  cases polyB l <;> cases simpleB l <;> simp

theorem simpE_zero {l : List Pt} (h0 : simpE l = 0) : polyB l = true ∧ simpleB l = true := by
  rcases simpE_cases l with h | h | h
  · rw [h.1] at h0; cases h0
  · rw [h.1] at h0; cases h0
  · exact h.2

def whereX (l : List Pt) (p : Pt) : Int := if simpE l = 0 ∧ validB p.1 p.2 10000 = true then whereR l p else 0
def whereE (l : List Pt) (p : Pt) : Int := if simpE l = 0 then (if validB p.1 p.2 10000 then 0 else 1) else simpE l

theorem valid_Bd {p : Pt} (h : validB p.1 p.2 10000 = true) : Bd p := Bd.of_ok (p := p) h

set_option maxHeartbeats 1000000 in
theorem whereX_any (A : Option Addr) (n c : Nat) (l : List Pt) (p : Pt) (w : World) (hn : l.length = n) (hbig : n ≤ 1000000) (hx : PtsAt w A l) :
    Calls Try.prog 26 #[.slice A n c, .agg #[.int .i64 p.1, .int .i64 p.2]] w fun e w' => e = .returned (.tuple #[.int .i64 (whereX l p), .int .i64 (whereE l p)]) ∧ Below w.heap.size w w' := by
  have hb0 : Below w.heap.size w (w.alloc (bx p.1 p.2)) := (Below.refl _ _).alloc (Nat.le_refl _) _
  have K := fun W hW => Lib.hid (checkSimple_any A n c l W hn hbig (hx.below (w' := W) hW))
  have V := fun W => Lib.hid (isNear_any p.1 p.2 10000 (by omega) W)
  have hW0 : w.heap.size < (w.alloc (bx p.1 p.2)).heap.size := by simp
  have P0 : PtAt (w.alloc (bx p.1 p.2)) w.heap.size p.1 p.2 := PtAt.new
  by_cases h0 : simpE l = 0
  · obtain ⟨hp, hs⟩ : polyB l = true ∧ simpleB l = true := simpE_zero h0
    obtain ⟨b, off, rfl, h1, h2, h3, h4, h5⟩ := hx.poly hn hp
    cases hv : validB p.1 p.2 10000
    · have e1 : whereX l p = 0 := by unfold whereX; rw [if_neg (by rw [hv]; simp)]
      have e2 : whereE l p = 1 := by unfold whereE; rw [if_pos h0, hv]; rfl
      rw [e1, e2]
      rw [h0] at K
      rw [hv] at V
      clear hn hx h4 h5 e1 e2 h0 hp hs hv
      go_enter Try.func26, Try.ntmps26
      go_upto_region 1 with (fail)
      generalize w.alloc (bx p.1 p.2) = w0 at *
      obtain ⟨p1, p2⟩ := P0
      go_wp2_with fail
      refine ((K _ hb0).out).mono ?_
      rintro e w1 ⟨rfl, hb1⟩
      obtain ⟨p1, p2⟩ := PtAt.below hb1 hW0 ⟨p1, p2⟩
      have hbw1 := hb0.trans (hb1.mono hb0.size)
      clear hb1
      go_wp2_with fail
      refine ((V _).out).mono ?_
      rintro e w2 ⟨rfl, hb2⟩
      have hbw2 := hbw1.trans (hb2.mono hbw1.size)
      go_wp2
      go_ret2
      exact ⟨rfl, hbw2⟩
    · have e1 : whereX l p = whereD l p := by unfold whereX; rw [if_pos ⟨h0, hv⟩, where_same]
      have e2 : whereE l p = 0 := by unfold whereE; rw [if_pos h0, hv]; rfl
      rw [e1, e2]
      rw [h0] at K
      rw [hv] at V
      have S := fun W hW => Lib.hid (where_any b off n c l p W hn (by omega) (by omega) (h4.below (B := w.heap.size) hW h3) (Nat.lt_of_lt_of_le h3 hW.size) (Bd.all h5) (valid_Bd hv))
      clear hn hx h4 h5 e1 e2 h0 hp hs hv
      generalize whereD l p = r at *
      go_enter Try.func26, Try.ntmps26
      go_upto_region 1 with (fail)
      generalize w.alloc (bx p.1 p.2) = w0 at *
      obtain ⟨p1, p2⟩ := P0
      go_wp2_with fail
      refine ((K _ hb0).out).mono ?_
      rintro e w1 ⟨rfl, hb1⟩
      obtain ⟨p1, p2⟩ := PtAt.below hb1 hW0 ⟨p1, p2⟩
      have hbw1 := hb0.trans (hb1.mono hb0.size)
      have hW1 : w.heap.size < w1.heap.size := Nat.lt_of_lt_of_le hW0 hb1.size
      clear hb1
      go_wp2_with fail
      refine ((V _).out).mono ?_
      rintro e w2 ⟨rfl, hb2⟩
      obtain ⟨p1, p2⟩ := PtAt.below hb2 hW1 ⟨p1, p2⟩
      have hbw2 := hbw1.trans (hb2.mono hbw1.size)
      clear hb2
      go_wp2_with fail
      refine ((S _ hbw2).out).mono ?_
      rintro e w3 ⟨rfl, hb3⟩
      have hbw3 := hbw2.trans (hb3.mono hbw2.size)
      go_wp2
      go_ret2
      exact ⟨rfl, hbw3⟩
  · have e1 : whereX l p = 0 := by unfold whereX; rw [if_neg (by rintro ⟨h, _⟩; exact h0 h)]
    have e2 : whereE l p = simpE l := by unfold whereE; rw [if_neg h0]
    rw [e1, e2]
    clear hn hx e1 e2 V
    generalize simpE l = r at *
    go_enter Try.func26, Try.ntmps26
    go_upto_region 1 with (fail)
    generalize w.alloc (bx p.1 p.2) = w0 at *
    go_wp2_with fail
    refine ((K _ hb0).out).mono ?_
    rintro e w1 ⟨rfl, hb1⟩
    have hbw1 := hb0.trans (hb1.mono hb0.size)
    clear hb1
    go_wp2
    go_ret2
    exact ⟨rfl, hbw1⟩
end Go.Proofs.Ytlmdmgbhfoehgaa

/- Package shape's areApart: is one polygon beyond an edge of the other? And the reference's parts. -/
namespace Go.Proofs.Ytlmdmgbhfoehgaa
open Go.RowKit Go.Sort
attribute [local go_sem ↓] run_min_mn run_max_mx Go.wp_at_zero Go.wp_at_succ

theorem leftOf_any (x y : Int) (ga gb : Nat) (ax ay bx by' : Int) (w : World) (pa : PtAt w ga ax ay) (pb : PtAt w gb bx by') (hga : ga < w.heap.size) (hgb : gb < w.heap.size)
    (h1 : -60000 ≤ ax ∧ ax ≤ 60000) (h2 : -60000 ≤ ay ∧ ay ≤ 60000) (h3 : -60000 ≤ bx ∧ bx ≤ 60000) (h4 : -60000 ≤ by' ∧ by' ≤ 60000) (h5 : -60000 ≤ x ∧ x ≤ 60000) (h6 : -60000 ≤ y ∧ y ≤ 60000) :
    Calls Try.prog 88 #[.agg #[.int .i64 x, .int .i64 y], .pointer (some ⟨ga, 0, none⟩), .pointer (some ⟨gb, 0, none⟩)] w fun e w' =>
      e = .returned (.bool (decide (0 < cross ax ay bx by' x y))) ∧ Below w.heap.size w w' := by
  have C := fun W => Lib.hid (turn_any ax ay bx by' x y W h1 h2 h3 h4 h5 h6)
  clear h1 h2 h3 h4 h5 h6
  generalize cross ax ay bx by' x y = r at *
  go_enter Try.func88, Try.ntmps88
  go_upto_region 1 with (fail)
  have B : PtAt (w.alloc (Go.Proofs.Ytlmdmgbhfoehgaa.bx x y)) w.heap.size x y := PtAt.new
  have hb0 : Below w.heap.size w (w.alloc (Go.Proofs.Ytlmdmgbhfoehgaa.bx x y)) := (Below.refl _ _).alloc (Nat.le_refl _) _
  obtain ⟨a1, a2⟩ := PtAt.below hb0 hga pa
  obtain ⟨b1, b2⟩ := PtAt.below hb0 hgb pb
  clear pa pb
  generalize w.alloc (Go.Proofs.Ytlmdmgbhfoehgaa.bx x y) = w0 at *
  obtain ⟨c1, c2⟩ := B
  go_wp2_with fail
  refine ((C _).out).mono ?_
  rintro e w1 ⟨rfl, hb1⟩
  go_wp2
  go_ret
  exact ⟨rfl, hb0.trans (hb1.mono hb0.size)⟩

def leftQ (p q x : Pt) : Bool := decide (0 < crossP p q x)
def anyLeft (p q : Pt) (l : List Pt) : Bool := l.any (leftQ p q)
def FoundLeft (p q : Pt) (l : List Pt) (w : World) (e : Ending) (w' : World) : Prop := ∃ i : Int, e = .returned (.int .i64 i) ∧ decide (0 ≤ i) = anyLeft p q l ∧ Below w.heap.size w w'

set_option maxHeartbeats 800000 in
theorem indexLeft_any (A : Option Addr) (n c : Nat) (l : List Pt) (p q : Pt) (ga gb : Nat) (w : World) (hn : l.length = n) (hbig : n ≤ 1000000) (hx : PtsAt w A l) (hbd : ∀ x ∈ l, Bd x) (hp : Bd p) (hq : Bd q)
    (pa : PtAt w ga p.1 p.2) (pb : PtAt w gb q.1 q.2) (hga : ga < w.heap.size) (hgb : gb < w.heap.size) :
    Calls Try.prog 94 #[.slice A n c, .func (.func 88) #[] #[.pointer (some ⟨ga, 0, none⟩), .pointer (some ⟨gb, 0, none⟩)]] w (FoundLeft p q l w) := by
  have HN := Lib.hid hn
  have HX := Lib.hid hx
  have HBD := Lib.hid hbd
  have HPA := Lib.hid pa
  have HPB := Lib.hid pb
  clear hn hx hbd pa pb
  go_enter Try.func94, Try.ntmps94
  go_wp2
  go_loopw [8] (fun i wr => ∃ k : Nat, k ≤ n ∧ i = .int .i64 k ∧ anyLeft p q (l.take k) = false ∧ Below w.heap.size w wr) (fun i _ => n - (intOf i).toNat)
  case atStart => exact ⟨0, Nat.zero_le _, rfl, rfl, Below.refl _ _⟩
  case round =>
    obtain ⟨k, hk, rfl, hz, hbw⟩ := hrel
    have HZ := Lib.hid hz
    clear hz
    by_cases hlt : k < n
    · have hl : k < l.length := by have := HN.out; omega
      obtain ⟨b, off, rfl, hbl, hpts⟩ := HX.out (by intro e; subst e; simp at hl)
      obtain ⟨h1, h2⟩ := (hpts.below hbw hbl) k _ (List.getElem?_eq_getElem hl)
      have hs : anyLeft p q (l.take (k + 1)) = leftQ p q l[k] := by
        rw [List.take_succ_eq_append_getElem hl]
        unfold anyLeft at *
        rw [List.any_append, HZ.out]; simp
      have hall : leftQ p q l[k] = true → anyLeft p q l = true := fun h => by
        unfold anyLeft
        exact List.any_eq_true.2 ⟨_, List.getElem_mem hl, h⟩
      have HS := Lib.hid hs
      have HA := Lib.hid hall
      have hbx := HBD.out _ (List.getElem_mem hl)
      clear hs hall hpts
      generalize l[k] = x at *
      have hr : leftQ p q x = decide (0 < cross p.1 p.2 q.1 q.2 x.1 x.2) := rfl
      have F := fun W (hW : Below w.heap.size w W) => Lib.hid (leftOf_any x.1 x.2 ga gb p.1 p.2 q.1 q.2 W (PtAt.below hW hga HPA.out) (PtAt.below hW hgb HPB.out) (Nat.lt_of_lt_of_le hga hW.size) (Nat.lt_of_lt_of_le hgb hW.size) hp.1 hp.2 hq.1 hq.2 hbx.1 hbx.2)
      rw [← hr] at F
      clear hr hbx
      generalize leftQ p q x = r at *
      go_wp2_with fail
      refine ((F _ hbw).out).mono ?_
      rintro e w1 ⟨rfl, hb1⟩
      have hbw1 := hbw.trans (hb1.mono hbw.size)
      clear hb1 h1 h2
      cases r
      · go_wp2_with fail
        go_roundw
        case rel => exact ⟨k + 1, by omega, by go_num, HS.out, hbw1⟩
        case measure => simp [intOf]; omega
      · go_wp2_with fail
        go_ret
        exact ⟨_, rfl, by rw [HA.out trivial]; simp, hbw1⟩
    · have hfull : anyLeft p q l = false := by
        have := HZ.out
        rw [List.take_of_length_le (by have := HN.out; omega)] at this
        exact this
      have HF := Lib.hid hfull
      clear hfull
      go_wp2
      go_ret
      exact ⟨_, rfl, by rw [HF.out]; rfl, hbw⟩

theorem containsLeft_any (A : Option Addr) (n c : Nat) (l : List Pt) (p q : Pt) (ga gb : Nat) (w : World) (hn : l.length = n) (hbig : n ≤ 1000000) (hx : PtsAt w A l) (hbd : ∀ x ∈ l, Bd x) (hp : Bd p) (hq : Bd q)
    (pa : PtAt w ga p.1 p.2) (pb : PtAt w gb q.1 q.2) (hga : ga < w.heap.size) (hgb : gb < w.heap.size) :
    Calls Try.prog 84 #[.slice A n c, .func (.func 88) #[] #[.pointer (some ⟨ga, 0, none⟩), .pointer (some ⟨gb, 0, none⟩)]] w fun e w' => e = .returned (.bool (anyLeft p q l)) ∧ Below w.heap.size w w' := by
  have K := Lib.hid (indexLeft_any A n c l p q ga gb w hn hbig hx hbd hp hq pa pb hga hgb)
  clear hn hx hbd pa pb
  go_enter Try.func84, Try.ntmps84
  go_wp2_with fail
  refine (K.out).mono ?_
  rintro e w' ⟨i, rfl, hi, hb⟩
  have HI := Lib.hid hi
  clear hi
  go_wp2
  go_ret
  exact ⟨ret_bool HI.out, hb⟩

def beyondAt (a b : List Pt) (i : Nat) : Bool := !anyLeft (gt a i) (nx a i) b
def beyondB (a b : List Pt) : Bool := (List.range a.length).any (beyondAt a b)
def apartB (a b : List Pt) : Bool := beyondB a b || beyondB b a

set_option maxRecDepth 100000 in
set_option maxHeartbeats 1000000 in
theorem hasBeyond_any (b off n c : Nat) (A : Option Addr) (m d : Nat) (l r : List Pt) (w : World) (hl : l.length = n) (hn : 0 < n) (hn' : n ≤ 100) (h : PtsIn w b off l) (hb : b < w.heap.size) (hbd : ∀ i, Bd (gt l i))
    (hm : r.length = m) (hbig : m ≤ 1000000) (hx : PtsAt w A r) (hrd : ∀ x ∈ r, Bd x) :
    Calls Try.prog 74 #[.slice (some ⟨b, off, none⟩) n c, .slice A m d] w fun e w' => e = .returned (.bool (beyondB l r)) ∧ Below w.heap.size w w' := by
  have HL := Lib.hid hl
  have HP := Lib.hid h
  have HBD := Lib.hid hbd
  have HM := Lib.hid hm
  have HX := Lib.hid hx
  have HRD := Lib.hid hrd
  clear hl h hbd hm hx hrd
  go_enter Try.func74, Try.ntmps74
  go_wp2
  go_loopw [11] (fun i wr => ∃ k : Nat, k ≤ n ∧ i = .int .i64 k ∧ (∀ j, j < k → beyondAt l r j = false) ∧ Below w.heap.size w wr) (fun i _ => n - (intOf i).toNat)
  case atStart => exact ⟨0, Nat.zero_le _, rfl, by omega, Below.refl _ _⟩
  case round =>
    obtain ⟨k, hk, rfl, hz, hbw⟩ := hrel
    have HZ := Lib.hid hz
    clear hz
    by_cases hlt : k < n
    · have HPw : Hid (PtsIn wr b off l) := Lib.hid (HP.out.below hbw hb)
      have hB : b < wr.heap.size := Nat.lt_of_lt_of_le hb hbw.size
      have N := fun W hW => Lib.hid (edge_any b off n c l k W HL.out (by omega) (by omega) (by omega) (HPw.out.below (B := wr.heap.size) hW hB))
      rw [Nat.mod_eq_of_lt hlt] at N
      have d1 := HBD.out k
      have d2 := HBD.out ((k + 1) % l.length)
      rw [← nx_gt] at d2
      have EB : Hid (beyondAt l r k = !anyLeft (gt l k) (nx l k) r) := Lib.hid rfl
      generalize gt l k = p1 at *
      generalize nx l k = p2 at *
      obtain ⟨x, y⟩ := p1
      obtain ⟨qx, qy⟩ := p2
      have CL := fun ga gb W (hW : Below w.heap.size w W) (pa : PtAt W ga x y) (pb : PtAt W gb qx qy) (hga : ga < W.heap.size) (hgb : gb < W.heap.size) =>
        Lib.hid (containsLeft_any A m d r (x, y) (qx, qy) ga gb W HM.out hbig (HX.out.below hW) HRD.out d1 d2 pa pb hga hgb)
      clear d1 d2
      generalize anyLeft (x, y) (qx, qy) r = t at *
      go_wp2_with fail
      refine ((N _ (Below.refl _ _)).out).mono ?_
      rintro e w1 ⟨rfl, hb1⟩
      have B2 := boxed2 w1 x y qx qy
      go_upto_region 5 with (fail)
      generalize (w1.alloc (Go.Proofs.Ytlmdmgbhfoehgaa.bx x y)).alloc (Go.Proofs.Ytlmdmgbhfoehgaa.bx qx qy) = w2 at *
      obtain ⟨P1, P2, hb2, hz2⟩ := B2
      have hbr2 := hb1.trans (hb2.mono hb1.size)
      have hbw2 := hbw.trans (hbr2.mono hbw.size)
      generalize w1.heap.size = g at *
      have hg2 : g + 1 < w2.heap.size := by omega
      clear hb2 hz2 N hb1
      have CL1 := CL g (g + 1) w2 hbw2 P1 P2 (by omega) hg2
      clear CL
      go_wp2_with fail
      refine (CL1.out).mono ?_
      rintro e w3 ⟨rfl, hb3⟩
      have hbw3 := hbw2.trans (hb3.mono hbw2.size)
      clear hb3 CL1
      cases t
      · have HF : Hid (beyondB l r = true) := Lib.hid (List.any_eq_true.2 ⟨k, List.mem_range.2 (by rw [HL.out]; exact hlt), EB.out⟩)
        go_wp2_with fail
        go_ret
        exact ⟨ret_bool HF.out.symm, hbw3⟩
      · have HZ1 : Hid (∀ j, j < k + 1 → beyondAt l r j = false) := Lib.hid fun j hj => by
          rcases Nat.lt_or_eq_of_le (Nat.le_of_lt_succ hj) with h' | h'
          · exact HZ.out j h'
          · rw [h', EB.out]; rfl
        go_wp2_with fail
        go_roundw
        case rel => exact ⟨k + 1, by omega, by go_num, HZ1.out, hbw3⟩
        case measure => simp [intOf]; omega
    · obtain rfl : k = n := by omega
      have HF : Hid (beyondB l r = false) := Lib.hid (by
        unfold beyondB
        rw [List.any_eq_false]
        intro j hj
        rw [HZ.out j (by have := List.mem_range.1 hj; rwa [HL.out] at this)]
        simp)
      go_wp2_with fail
      go_ret
      exact ⟨ret_bool HF.out.symm, hbw⟩

theorem areApart_any (b off n c b' off' m d : Nat) (l r : List Pt) (w : World) (hl : l.length = n) (hn : 0 < n) (hn' : n ≤ 100) (h : PtsIn w b off l) (hb : b < w.heap.size) (hbd : ∀ x ∈ l, Bd x)
    (hm : r.length = m) (hm0 : 0 < m) (hm' : m ≤ 100) (h' : PtsIn w b' off' r) (hb' : b' < w.heap.size) (hrd : ∀ x ∈ r, Bd x) :
    Calls Try.prog 52 #[.slice (some ⟨b, off, none⟩) n c, .slice (some ⟨b', off', none⟩) m d] w fun e w' => e = .returned (.bool (apartB l r)) ∧ Below w.heap.size w w' := by
  have gt_bd : ∀ (l : List Pt), (∀ x ∈ l, Bd x) → ∀ i, Bd (gt l i) := fun l hl i => by
    unfold gt
    rw [List.getD_eq_getElem?_getD]
    cases e : l[i]? with
    | none => exact ⟨by decide, by decide⟩
    | some x => exact hl x (List.mem_of_getElem? e)
  have K1 := fun W (hW : Below w.heap.size w W) => Lib.hid (hasBeyond_any b off n c (some ⟨b', off', none⟩) m d l r W hl hn hn' (h.below hW hb) (Nat.lt_of_lt_of_le hb hW.size) (gt_bd l hbd) hm (by omega)
    (fun _ => ⟨b', off', rfl, Nat.lt_of_lt_of_le hb' hW.size, h'.below hW hb'⟩) hrd)
  have K2 := fun W (hW : Below w.heap.size w W) => Lib.hid (hasBeyond_any b' off' m d (some ⟨b, off, none⟩) n c r l W hm hm0 hm' (h'.below hW hb') (Nat.lt_of_lt_of_le hb' hW.size) (gt_bd r hrd) hl (by omega)
    (fun _ => ⟨b, off, rfl, Nat.lt_of_lt_of_le hb hW.size, h.below hW hb⟩) hbd)
  have E : Hid (apartB l r = (beyondB l r || beyondB r l)) := Lib.hid rfl
  clear hl h hbd hm h' hrd gt_bd
  generalize apartB l r = t at *
  generalize beyondB l r = t1 at *
  generalize beyondB r l = t2 at *
  cases t1
  · go_enter Try.func52, Try.ntmps52
    go_wp2_with fail
    refine ((K1 _ (Below.refl _ _)).out).mono ?_
    rintro e w1 ⟨rfl, hb1⟩
    go_wp2_with fail
    refine ((K2 _ hb1).out).mono ?_
    rintro e w2 ⟨rfl, hb2⟩
    have hb3 := hb1.trans (hb2.mono hb1.size)
    go_wp2
    go_ret
    exact ⟨ret_bool (by rw [E.out]; rfl), hb3⟩
  · go_enter Try.func52, Try.ntmps52
    go_wp2_with fail
    refine ((K1 _ (Below.refl _ _)).out).mono ?_
    rintro e w1 ⟨rfl, hb1⟩
    go_wp2
    go_ret
    exact ⟨ret_bool (by rw [E.out]; rfl), hb1⟩
end Go.Proofs.Ytlmdmgbhfoehgaa
