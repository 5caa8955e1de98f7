/- Parts of the proof, one after the other: Mixed2, BrunnMath, BrunnLaw. -/
import Derived.Test.YtfdoijjojaehaaaBr5
import Derived.Test.YtfdoijjojaehaaaBr4
/- Shape: the inequality of Minkowski for two convex polygons, over two chains of edges. -/
namespace Go.Proofs.Ytfdoijjojaehaaa

theorem sq_nonneg (x : Int) : 0 ≤ x * x := by
  rcases Int.le_total 0 x with g | g
  · exact Int.mul_nonneg g g
  · have := Int.mul_nonneg (show 0 ≤ -x by omega) (show 0 ≤ -x by omega)
    rwa [Int.neg_mul_neg] at this

theorem fuse_core {ua uc fa fb fc gb gc S : Pt} (ha : xr ua fa = 0) (hc : xr uc gc = 0) :
    xr (sumP (mulP (xr ua uc) fa) (mulP (xr fb uc) ua)) (sumP (sumP (mulP (xr ua uc) gc) (mulP (xr ua gb) uc)) (mulP (xr ua uc) S)) + xr (sumP (mulP (xr ua uc) fc) (mulP (xr ua fb) uc)) (mulP (xr ua uc) S)
      = xr ua uc * xr ua uc * (xr fa (sumP gb (sumP gc S)) + (xr fb (sumP gc S) + xr fc S)) + xr ua uc * (xr fb uc * xr ua gb) := by
  have e1 : xr ua uc * xr fa gb = xr ua gb * xr fa uc := by
    have : xr ua uc * xr fa gb - xr ua gb * xr fa uc = - (xr ua fa * xr gb uc) := by unfold xr; grind
    rw [ha, Int.zero_mul] at this; omega
  have e2 : xr ua uc * xr fb gc = xr fb uc * xr ua gc := by
    have : xr ua uc * xr fb gc - xr fb uc * xr ua gc = xr ua fb * xr uc gc := by unfold xr; grind
    rw [hc, Int.mul_zero] at this; omega
  have e3 : xr ua uc * xr fb S = xr fb uc * xr ua S + xr ua fb * xr uc S := by unfold xr; grind
  have bl : ∀ p q r s : Pt, xr (sumP p q) (sumP r s) = xr p r + xr p s + xr q r + xr q s := fun p q r s => by unfold xr sumP; grind
  have bR : ∀ p r s : Pt, xr p (sumP r s) = xr p r + xr p s := fun p r s => by unfold xr sumP; grind
  have bL : ∀ p q r : Pt, xr (sumP p q) r = xr p r + xr q r := fun p q r => by unfold xr sumP; grind
  have mL : ∀ (c : Int) (p q : Pt), xr (mulP c p) q = c * xr p q := fun c p q => by unfold xr mulP; grind
  have mR : ∀ (c : Int) (p q : Pt), xr p (mulP c q) = c * xr p q := fun c p q => by unfold xr mulP; grind
  simp only [bR, bL, mL, mR]
  generalize xr ua uc = w at *
  generalize xr fa gb = x1 at *
  generalize xr ua gb = t2 at *
  generalize xr fa uc = x2 at *
  generalize xr fb gc = x3 at *
  generalize xr fb uc = s1 at *
  generalize xr ua gc = x4 at *
  generalize xr fb S = x5 at *
  generalize xr ua S = x6 at *
  generalize xr ua fb = s2 at *
  generalize xr uc S = x7 at *
  generalize xr fa gc = x8 at *
  generalize xr fa S = x9 at *
  generalize xr fc S = x10 at *
  grind

theorem fused_q {a b c : Ed} {r : List Ed} (h : Rise (a :: b :: c :: r)) :
    qF (fused a b c r) = xr a.u c.u * xr a.u c.u * qF (a :: b :: c :: r) + xr a.u c.u * (xr b.f c.u * xr a.u b.f) ∧
    qG (fused a b c r) = xr a.u c.u * xr a.u c.u * qG (a :: b :: c :: r) + xr a.u c.u * (xr b.g c.u * xr a.u b.g) ∧
    qM (fused a b c r) = xr a.u c.u * xr a.u c.u * qM (a :: b :: c :: r) + (xr a.u c.u * (xr b.f c.u * xr a.u b.g) + xr a.u c.u * (xr b.g c.u * xr a.u b.f)) := by
  obtain ⟨h1, h2, h3, h4, h5⟩ := scale_all (xr a.u c.u) r
  have oka := h.head
  have okc := h.tail.tail.head
  have af := oka.2.1.par
  have ag := oka.2.2.par
  have cf := okc.2.1.par
  have cg := okc.2.2.par
  have k1 := fuse_core (fb := b.f) (fc := c.f) (gb := b.f) (S := totF r) af cf
  have k2 := fuse_core (fb := b.g) (fc := c.g) (gb := b.g) (S := totG r) ag cg
  have k3 := fuse_core (fb := b.f) (fc := c.f) (gb := b.g) (S := totG r) af cg
  have k4 := fuse_core (fb := b.g) (fc := c.g) (gb := b.f) (S := totF r) ag cf
  refine ⟨?_, ?_, ?_⟩
  · simp only [fused, qF, totF, h1, h3, fuse1, fuse3] at k1 ⊢
    rw [← Int.add_assoc, k1]
    grind
  · simp only [fused, qG, totG, h2, h4, fuse1, fuse3] at k2 ⊢
    rw [← Int.add_assoc, k2]
    grind
  · simp only [fused, qM, totF, totG, h1, h2, h5, fuse1, fuse3] at k3 k4 ⊢
    grind

theorem cancel4 {w X Y T : Int} (hw : 0 < w) (h : 4 * (w * w * X * (w * w * Y)) ≤ w * w * T * (w * w * T)) : 4 * (X * Y) ≤ T * T := by
  have e1 : 4 * (w * w * X * (w * w * Y)) = w * w * (w * w) * (4 * (X * Y)) := by grind
  have e2 : w * w * T * (w * w * T) = w * w * (w * w) * (T * T) := by grind
  rw [e1, e2] at h
  exact Int.le_of_mul_le_mul_left h (Int.mul_pos (Int.mul_pos hw hw) (Int.mul_pos hw hw))

/-- One step: the first chain has three edges or more. -/
theorem mixed_step {a b c : Ed} {r C : List Ed} (h : Rise (a :: b :: c :: r)) (hC : Rise C)
    (ih : 4 * ((qF (fused a b c r) + qF (C.map (scaleE (xr a.u c.u)))) * (qG (fused a b c r) + qG (C.map (scaleE (xr a.u c.u))))) ≤ (qM (fused a b c r) + qM (C.map (scaleE (xr a.u c.u)))) * (qM (fused a b c r) + qM (C.map (scaleE (xr a.u c.u))))) :
    4 * ((qF (a :: b :: c :: r) + qF C) * (qG (a :: b :: c :: r) + qG C)) ≤ (qM (a :: b :: c :: r) + qM C) * (qM (a :: b :: c :: r) + qM C) := by
  obtain ⟨hw, -⟩ := fused_rise h
  obtain ⟨f1, f2, f3⟩ := fused_q h
  obtain ⟨-, -, s3, s4, s5⟩ := scale_all (xr a.u c.u) C
  obtain ⟨n1, n2, n3⟩ := q_nonneg h
  obtain ⟨m1, m2, m3⟩ := q_nonneg hC
  have okb := h.tail.head
  have hbc : 0 < xr b.u c.u := h.2.2.2.1
  have hab : 0 < xr a.u b.u := h.2.1
  have p1 := okb.2.1.right (z := c.u) (by omega)
  have p2 := okb.2.1.left (z := a.u) (by omega)
  have p3 := okb.2.2.right (z := c.u) (by omega)
  have p4 := okb.2.2.left (z := a.u) (by omega)
  have par : xr b.f c.u * xr a.u b.g = xr b.g c.u * xr a.u b.f := by
    have z := okb.2.1.par2 okb.2.2
    have : xr b.f c.u * xr a.u b.g - xr b.g c.u * xr a.u b.f = xr a.u c.u * xr b.f b.g := by unfold xr; grind
    rw [z, Int.mul_zero] at this; omega
  rw [f1, f2, f3, s3, s4, s5, par] at ih
  generalize xr b.f c.u = s1 at *
  generalize xr a.u b.f = s2 at *
  generalize xr b.g c.u = t1 at *
  generalize xr a.u b.g = t2 at *
  generalize xr a.u c.u = w at *
  generalize qF (a :: b :: c :: r) = X1 at *
  generalize qG (a :: b :: c :: r) = Y1 at *
  generalize qM (a :: b :: c :: r) = T1 at *
  generalize qF C = X2 at *
  generalize qG C = Y2 at *
  generalize qM C = T2 at *
  have ww := Int.mul_pos hw hw
  have i1 : 0 ≤ w * w * (X1 + X2) := Int.mul_nonneg (by omega) (by omega)
  have i2 : 0 ≤ w * w * (Y1 + Y2) := Int.mul_nonneg (by omega) (by omega)
  have i3 : 0 ≤ w * w * (T1 + T2) := Int.mul_nonneg (by omega) (by omega)
  have j1 : 0 ≤ w * (s1 * s2) := Int.mul_nonneg (by omega) (Int.mul_nonneg p1 p2)
  have j2 : 0 ≤ w * (t1 * t2) := Int.mul_nonneg (by omega) (Int.mul_nonneg p3 p4)
  have j3 : 0 ≤ w * (t1 * s2) := Int.mul_nonneg (by omega) (Int.mul_nonneg p3 p2)
  have key := one_less (A := w * w * (X1 + X2) + w * (s1 * s2)) (B := w * w * (Y1 + Y2) + w * (t1 * t2)) (T := w * w * (T1 + T2) + 2 * (w * (t1 * s2))) (a := w * (s1 * s2)) (b := w * (t1 * t2)) (k := w * (t1 * s2))
    j1 j2 j3 (by
      have : w * (t1 * s2) * (w * (t1 * s2)) = w * w * (t1 * s2 * (t1 * s2)) := by grind
      rw [this]
      have : w * (s1 * s2) * (w * (t1 * t2)) = w * w * (s1 * t2 * (t1 * s2)) := by grind
      rw [this, par]) (by omega) (by omega) (by omega) (by
      have e1 : w * w * (X1 + X2) + w * (s1 * s2) = w * w * X1 + w * (s1 * s2) + w * w * X2 := by grind
      have e2 : w * w * (Y1 + Y2) + w * (t1 * t2) = w * w * Y1 + w * (t1 * t2) + w * w * Y2 := by grind
      have e3 : w * w * (T1 + T2) + 2 * (w * (t1 * s2)) = w * w * T1 + (w * (t1 * s2) + w * (t1 * s2)) + w * w * T2 := by grind
      rw [e1, e2, e3]; exact ih)
  refine cancel4 hw ?_
  have e1 : w * w * (X1 + X2) + w * (s1 * s2) - w * (s1 * s2) = w * w * (X1 + X2) := by omega
  have e2 : w * w * (Y1 + Y2) + w * (t1 * t2) - w * (t1 * t2) = w * w * (Y1 + Y2) := by omega
  have e3 : w * w * (T1 + T2) + 2 * (w * (t1 * s2)) - 2 * (w * (t1 * s2)) = w * w * (T1 + T2) := by omega
  rw [e1, e2, e3] at key
  exact key

theorem amgm (x y : Int) : 4 * (x * y) ≤ (x + y) * (x + y) := by
  have := sq_nonneg (x - y)
  have e : (x - y) * (x - y) = (x + y) * (x + y) - 4 * (x * y) := by grind
  omega
/-- One chain of two edges alone. -/
theorem two_alone {c d : Ed} (hc : c.ok) (hd : d.ok) : 4 * (xr c.f d.f * xr c.g d.g) ≤ (xr c.f d.g + xr c.g d.f) * (xr c.f d.g + xr c.g d.f) := by
  have z := hc.2.1.par2 hc.2.2
  have id : xr c.f d.f * xr c.g d.g - xr c.f d.g * xr c.g d.f = xr c.f c.g * xr d.f d.g := by unfold xr; grind
  rw [z, Int.zero_mul] at id
  have e : xr c.f d.f * xr c.g d.g = xr c.f d.g * xr c.g d.f := by omega
  rw [e]
  exact amgm _ _

/-- Forms of two variables. -/
theorem form_disc {A B C p1 p2 r1 r2 : Int} (hA : A ≤ 0) (h2 : p2 ≠ 0) (hP : 0 ≤ A * p1 * p1 + B * p1 * p2 + C * p2 * p2) :
    4 * ((A * p1 * p1 + B * p1 * p2 + C * p2 * p2) * (A * r1 * r1 + B * r1 * r2 + C * r2 * r2)) ≤ (2 * A * p1 * r1 + B * (p1 * r2 + p2 * r1) + 2 * C * p2 * r2) * (2 * A * p1 * r1 + B * (p1 * r2 + p2 * r1) + 2 * C * p2 * r2) := by
  have id1 : p2 * p2 * (B * B - 4 * A * C) = (2 * A * p1 + B * p2) * (2 * A * p1 + B * p2) + 4 * (-A * (A * p1 * p1 + B * p1 * p2 + C * p2 * p2)) := by grind
  have n1 := sq_nonneg (2 * A * p1 + B * p2)
  have n2 := Int.mul_nonneg (show 0 ≤ -A by omega) hP
  have pp : 0 < p2 * p2 := by
    have := sq_nonneg p2
    have : p2 * p2 ≠ 0 := fun e => by rcases Int.mul_eq_zero.1 e with h | h <;> exact h2 h
    omega
  have d : 0 ≤ B * B - 4 * A * C := nonneg_of_mul pp id1 (by omega)
  have id2 : (2 * A * p1 * r1 + B * (p1 * r2 + p2 * r1) + 2 * C * p2 * r2) * (2 * A * p1 * r1 + B * (p1 * r2 + p2 * r1) + 2 * C * p2 * r2) - 4 * ((A * p1 * p1 + B * p1 * p2 + C * p2 * p2) * (A * r1 * r1 + B * r1 * r2 + C * r2 * r2)) = (B * B - 4 * A * C) * ((p1 * r2 - p2 * r1) * (p1 * r2 - p2 * r1)) := by grind
  have n3 := Int.mul_nonneg d (sq_nonneg (p1 * r2 - p2 * r1))
  omega

theorem Part.up {u f : Pt} (hu : Up u) (h : Part u f) : 0 ≤ f.2 := by
  obtain ⟨p, q, hp, hq, h1, h2⟩ := h
  exact nonneg_of_mul hq h2 (Int.mul_nonneg hp (up_y hu))

/-- Two edges each. -/
theorem two_two {a b c d : Ed} (hab : Rise [a, b]) (hcd : Rise [c, d]) (hF : sumP a.f b.f = sumP c.f d.f) (hG : sumP a.g b.g = sumP c.g d.g) :
    4 * ((xr a.f b.f + xr c.f d.f) * (xr a.g b.g + xr c.g d.g)) ≤ (xr a.f b.g + xr a.g b.f + (xr c.f d.g + xr c.g d.f)) * (xr a.f b.g + xr a.g b.f + (xr c.f d.g + xr c.g d.f)) := by
  have w1 : 0 < xr a.u b.u := hab.2.1
  have w2 : 0 < xr c.u d.u := hcd.2.1
  have oka := hab.head
  have okb := hab.tail.head
  have okc := hcd.head
  have okd := hcd.tail.head
  obtain ⟨x0, y0, -⟩ := q_nonneg hab
  obtain ⟨x1, y1, -⟩ := q_nonneg hcd
  have X0 : 0 ≤ xr a.f b.f := by
    have e : qF [a, b] = xr a.f b.f := by unfold qF totF; simp only [qF, totF]; unfold xr sumP; simp
    rwa [e] at x0
  have X1 : 0 ≤ xr c.f d.f := by
    have e : qF [c, d] = xr c.f d.f := by unfold qF totF; simp only [qF, totF]; unfold xr sumP; simp
    rwa [e] at x1
  -- the areas by the sum of the parts
  have form : ∀ (u v f g f' g' : Pt), xr u f = 0 → xr v g = 0 → xr u f' = 0 → xr v g' = 0 → xr u v * xr f g' + xr u v * xr f' g = xr (sumP f g) v * xr u (sumP f' g') + xr (sumP f' g') v * xr u (sumP f g) := fun u v f g f' g' h1 h2 h3 h4 => by
    have e1 : xr (sumP f g) v = xr f v - xr v g := by unfold xr sumP; grind
    have e2 : xr u (sumP f' g') = xr u f' + xr u g' := by unfold xr sumP; grind
    have e3 : xr (sumP f' g') v = xr f' v - xr v g' := by unfold xr sumP; grind
    have e4 : xr u (sumP f g) = xr u f + xr u g := by unfold xr sumP; grind
    rw [e1, e2, e3, e4, h1, h2, h3, h4]
    have k1 : xr u v * xr f g' - xr f v * xr u g' = - (xr u f * xr g' v) := by unfold xr; grind
    have k2 : xr u v * xr f' g - xr f' v * xr u g = - (xr u f' * xr g v) := by unfold xr; grind
    rw [h1, Int.zero_mul] at k1
    rw [h3, Int.zero_mul] at k2
    rw [Int.sub_zero, Int.sub_zero, Int.zero_add, Int.zero_add]
    omega
  have fa := oka.2.1.par
  have fb := okb.2.1.par
  have fc := okc.2.1.par
  have fd := okd.2.1.par
  have gA := oka.2.2.par
  have gb := okb.2.2.par
  have gc := okc.2.2.par
  have gd' := okd.2.2.par
  have q1 := form a.u b.u a.f b.f a.f b.f fa fb fa fb
  have q2 := form c.u d.u c.f d.f c.f d.f fc fd fc fd
  have q3 := form a.u b.u a.g b.g a.g b.g gA gb gA gb
  have q4 := form c.u d.u c.g d.g c.g d.g gc gd' gc gd'
  have q5 := form a.u b.u a.f b.f a.g b.g fa fb gA gb
  have q6 := form c.u d.u c.f d.f c.g d.g fc fd gc gd'
  rw [← hF] at q2 q6
  rw [← hG] at q4 q6
  by_cases hp : (sumP a.f b.f).2 = 0
  · -- all of the first polygon's parts lie level: it has no area
    have ua := oka.2.1.up oka.1
    have ub := okb.2.1.up okb.1
    have uc := okc.2.1.up okc.1
    have ud := okd.2.1.up okd.1
    have e1 : a.f.2 + b.f.2 = 0 := hp
    have e2 : c.f.2 + d.f.2 = 0 := by
      have : (sumP c.f d.f).2 = 0 := by rw [← hF]; exact hp
      exact this
    have z1 : xr a.f b.f = 0 := by unfold xr; rw [show a.f.2 = 0 by omega, show b.f.2 = 0 by omega]; simp
    have z2 : xr c.f d.f = 0 := by unfold xr; rw [show c.f.2 = 0 by omega, show d.f.2 = 0 by omega]; simp
    rw [z1, z2]
    have := sq_nonneg (xr a.f b.g + xr a.g b.f + (xr c.f d.g + xr c.g d.f))
    omega
  · generalize sumP a.f b.f = P at *
    generalize sumP a.g b.g = R at *
    obtain ⟨p1, p2⟩ := P
    obtain ⟨r1, r2⟩ := R
    have uy := up_y oka.1
    have vy := up_y okb.1
    have cy := up_y okc.1
    have dy := up_y okd.1
    have hA : -(xr c.u d.u * (a.u.2 * b.u.2) + xr a.u b.u * (c.u.2 * d.u.2)) ≤ 0 := by
      have := Int.mul_nonneg (show 0 ≤ xr c.u d.u by omega) (Int.mul_nonneg uy vy)
      have := Int.mul_nonneg (show 0 ≤ xr a.u b.u by omega) (Int.mul_nonneg cy dy)
      omega
    -- the form
    have key := form_disc (A := -(xr c.u d.u * (a.u.2 * b.u.2) + xr a.u b.u * (c.u.2 * d.u.2))) (B := xr c.u d.u * (a.u.1 * b.u.2 + a.u.2 * b.u.1) + xr a.u b.u * (c.u.1 * d.u.2 + c.u.2 * d.u.1)) (C := -(xr c.u d.u * (a.u.1 * b.u.1) + xr a.u b.u * (c.u.1 * d.u.1)))
      (p1 := p1) (p2 := p2) (r1 := r1) (r2 := r2) hA hp
    have ex : ∀ s1 s2 t1 t2 : Int, -(xr c.u d.u * (a.u.2 * b.u.2) + xr a.u b.u * (c.u.2 * d.u.2)) * s1 * t1 + 0 = -(xr c.u d.u * (a.u.2 * b.u.2) + xr a.u b.u * (c.u.2 * d.u.2)) * s1 * t1 := fun _ _ _ _ => Int.add_zero _
    clear ex
    have eF : -(xr c.u d.u * (a.u.2 * b.u.2) + xr a.u b.u * (c.u.2 * d.u.2)) * p1 * p1 + (xr c.u d.u * (a.u.1 * b.u.2 + a.u.2 * b.u.1) + xr a.u b.u * (c.u.1 * d.u.2 + c.u.2 * d.u.1)) * p1 * p2 + -(xr c.u d.u * (a.u.1 * b.u.1) + xr a.u b.u * (c.u.1 * d.u.1)) * p2 * p2 = xr c.u d.u * (xr (p1, p2) b.u * xr a.u (p1, p2)) + xr a.u b.u * (xr (p1, p2) d.u * xr c.u (p1, p2)) := by
      generalize hw1 : xr a.u b.u = W1
      generalize hw2 : xr c.u d.u = W2
      unfold xr; simp only; grind
    have eG : -(xr c.u d.u * (a.u.2 * b.u.2) + xr a.u b.u * (c.u.2 * d.u.2)) * r1 * r1 + (xr c.u d.u * (a.u.1 * b.u.2 + a.u.2 * b.u.1) + xr a.u b.u * (c.u.1 * d.u.2 + c.u.2 * d.u.1)) * r1 * r2 + -(xr c.u d.u * (a.u.1 * b.u.1) + xr a.u b.u * (c.u.1 * d.u.1)) * r2 * r2 = xr c.u d.u * (xr (r1, r2) b.u * xr a.u (r1, r2)) + xr a.u b.u * (xr (r1, r2) d.u * xr c.u (r1, r2)) := by
      generalize hw1 : xr a.u b.u = W1
      generalize hw2 : xr c.u d.u = W2
      unfold xr; simp only; grind
    have eM : 2 * -(xr c.u d.u * (a.u.2 * b.u.2) + xr a.u b.u * (c.u.2 * d.u.2)) * p1 * r1 + (xr c.u d.u * (a.u.1 * b.u.2 + a.u.2 * b.u.1) + xr a.u b.u * (c.u.1 * d.u.2 + c.u.2 * d.u.1)) * (p1 * r2 + p2 * r1) + 2 * -(xr c.u d.u * (a.u.1 * b.u.1) + xr a.u b.u * (c.u.1 * d.u.1)) * p2 * r2 = xr c.u d.u * (xr (p1, p2) b.u * xr a.u (r1, r2) + xr (r1, r2) b.u * xr a.u (p1, p2)) + xr a.u b.u * (xr (p1, p2) d.u * xr c.u (r1, r2) + xr (r1, r2) d.u * xr c.u (p1, p2)) := by
      generalize hw1 : xr a.u b.u = W1
      generalize hw2 : xr c.u d.u = W2
      unfold xr; simp only; grind
    rw [eF, eG, eM] at key
    clear eF eG eM
    generalize xr (p1, p2) b.u = m1 at *
    generalize xr a.u (p1, p2) = m2 at *
    generalize xr (p1, p2) d.u = m3 at *
    generalize xr c.u (p1, p2) = m4 at *
    generalize xr (r1, r2) b.u = m5 at *
    generalize xr a.u (r1, r2) = m6 at *
    generalize xr (r1, r2) d.u = m7 at *
    generalize xr c.u (r1, r2) = m8 at *
    generalize xr a.u b.u = W1 at *
    generalize xr c.u d.u = W2 at *
    generalize xr a.f b.f = X at *
    generalize xr c.f d.f = X' at *
    generalize xr a.g b.g = Y at *
    generalize xr c.g d.g = Y' at *
    generalize xr a.f b.g = T1 at *
    generalize xr a.g b.f = T2 at *
    generalize xr c.f d.g = T3 at *
    generalize xr c.g d.f = T4 at *
    have W12 := Int.mul_pos w1 w2
    have g1 : W2 * (m1 * m2) + W1 * (m3 * m4) = W1 * W2 * (X + X') := by
      have a1 : m1 * m2 = W1 * X := by omega
      have a2 : m3 * m4 = W2 * X' := by omega
      rw [a1, a2]; grind
    have g2 : W2 * (m5 * m6) + W1 * (m7 * m8) = W1 * W2 * (Y + Y') := by
      have a1 : m5 * m6 = W1 * Y := by omega
      have a2 : m7 * m8 = W2 * Y' := by omega
      rw [a1, a2]; grind
    have g3 : W2 * (m1 * m6 + m5 * m2) + W1 * (m3 * m8 + m7 * m4) = W1 * W2 * (T1 + T2 + (T3 + T4)) := by
      have a1 : m1 * m6 + m5 * m2 = W1 * T1 + W1 * T2 := by omega
      have a2 : m3 * m8 + m7 * m4 = W2 * T3 + W2 * T4 := by omega
      rw [a1, a2]; grind
    rw [g1, g2, g3] at key
    have key := key (Int.mul_nonneg (by omega) (by omega))
    have e1 : 4 * (W1 * W2 * (X + X') * (W1 * W2 * (Y + Y'))) = W1 * W2 * (W1 * W2) * (4 * ((X + X') * (Y + Y'))) := by grind
    have e2 : W1 * W2 * (T1 + T2 + (T3 + T4)) * (W1 * W2 * (T1 + T2 + (T3 + T4))) = W1 * W2 * (W1 * W2) * ((T1 + T2 + (T3 + T4)) * (T1 + T2 + (T3 + T4))) := by grind
    rw [e1, e2] at key
    exact Int.le_of_mul_le_mul_left key (Int.mul_pos W12 W12)

end Go.Proofs.Ytfdoijjojaehaaa

/- Shape: the areas of two convex polygons and that of their sum: the inequality of Brunn and Minkowski, in integers. -/
namespace Go.Proofs.Ytfdoijjojaehaaa

theorem short_q {r : List Ed} (h : r.length ≤ 1) : qF r = 0 ∧ qG r = 0 ∧ qM r = 0 := by
  match r, h with
  | [], _ => simp [qF, qG, qM]
  | [e], _ => simp [qF, qG, qM, totF, totG, xr]
theorem pair_q (a b : Ed) : qF [a, b] = xr a.f b.f ∧ qG [a, b] = xr a.g b.g ∧ qM [a, b] = xr a.f b.g + xr a.g b.f := by
  refine ⟨?_, ?_, ?_⟩
  · simp only [qF, totF]; unfold xr sumP; simp
  · simp only [qG, totG]; unfold xr sumP; simp
  · simp only [qM, totF, totG]; unfold xr sumP; simp
theorem pair_tot (a b : Ed) : totF [a, b] = sumP a.f b.f ∧ totG [a, b] = sumP a.g b.g := by
  simp only [totF, totG]
  unfold sumP
  simp
theorem scale_length (w : Int) (r : List Ed) : (r.map (scaleE w)).length = r.length := by simp

theorem mixed_swap {C D : List Ed} (h : 4 * ((qF C + qF D) * (qG C + qG D)) ≤ (qM C + qM D) * (qM C + qM D)) : 4 * ((qF D + qF C) * (qG D + qG C)) ≤ (qM D + qM C) * (qM D + qM C) := by
  rw [Int.add_comm (qF D), Int.add_comm (qG D), Int.add_comm (qM D)]; exact h

/-- MINKOWSKI's INEQUALITY. -/
theorem mixed_ineq : ∀ (n : Nat) (C D : List Ed), C.length + D.length ≤ n → Rise C → Rise D → totF C = totF D → totG C = totG D → 4 * ((qF C + qF D) * (qG C + qG D)) ≤ (qM C + qM D) * (qM C + qM D)
  | 0, C, D, hn, hC, hD, _, _ => by
    obtain ⟨a1, a2, a3⟩ := short_q (r := C) (by omega)
    obtain ⟨b1, b2, b3⟩ := short_q (r := D) (by omega)
    rw [a1, a2, a3, b1, b2, b3]; decide
  | n + 1, C, D, hn, hC, hD, hF, hG => by
    have long : ∀ (a b c : Ed) (r D : List Ed), (a :: b :: c :: r).length + D.length ≤ n + 1 → Rise (a :: b :: c :: r) → Rise D → totF (a :: b :: c :: r) = totF D → totG (a :: b :: c :: r) = totG D →
        4 * ((qF (a :: b :: c :: r) + qF D) * (qG (a :: b :: c :: r) + qG D)) ≤ (qM (a :: b :: c :: r) + qM D) * (qM (a :: b :: c :: r) + qM D) := by
      intro a b c r D hn h hD hF hG
      obtain ⟨hw, hr⟩ := fused_rise h
      obtain ⟨t1, t2⟩ := fused_tot (a := a) (b := b) (c := c) r
      obtain ⟨s1, s2, -⟩ := scale_all (xr a.u c.u) D
      refine mixed_step h hD (mixed_ineq n (fused a b c r) (D.map (scaleE (xr a.u c.u))) ?_ hr (hD.scale (by omega)) (by rw [t1, s1, hF]) (by rw [t2, s2, hG]))
      simp only [fused, List.length_cons, List.length_map] at hn ⊢
      omega
    match C, D, hn, hC, hD, hF, hG with
    | a :: b :: c :: r, D, hn, hC, hD, hF, hG => exact long a b c r D hn hC hD hF hG
    | C, a :: b :: c :: r, hn, hC, hD, hF, hG => exact mixed_swap (long a b c r C (by omega) hD hC hF.symm hG.symm)
    | [a, b], [c, d], _, hC, hD, hF, hG =>
      obtain ⟨a1, a2, a3⟩ := pair_q a b
      obtain ⟨b1, b2, b3⟩ := pair_q c d
      rw [(pair_tot a b).1, (pair_tot c d).1] at hF
      rw [(pair_tot a b).2, (pair_tot c d).2] at hG
      rw [a1, a2, a3, b1, b2, b3]
      exact two_two hC hD hF hG
    | [a, b], [], _, hC, hD, _, _ =>
      obtain ⟨a1, a2, a3⟩ := pair_q a b
      obtain ⟨b1, b2, b3⟩ := short_q (r := []) (by simp)
      rw [a1, a2, a3, b1, b2, b3, Int.add_zero, Int.add_zero, Int.add_zero]
      exact two_alone hC.head hC.tail.head
    | [a, b], [c], _, hC, hD, _, _ =>
      obtain ⟨a1, a2, a3⟩ := pair_q a b
      obtain ⟨b1, b2, b3⟩ := short_q (r := [c]) (by simp)
      rw [a1, a2, a3, b1, b2, b3, Int.add_zero, Int.add_zero, Int.add_zero]
      exact two_alone hC.head hC.tail.head
    | [], [c, d], _, hC, hD, _, _ =>
      obtain ⟨a1, a2, a3⟩ := short_q (r := []) (by simp)
      obtain ⟨b1, b2, b3⟩ := pair_q c d
      rw [a1, a2, a3, b1, b2, b3, Int.zero_add, Int.zero_add, Int.zero_add]
      exact two_alone hD.head hD.tail.head
    | [a], [c, d], _, hC, hD, _, _ =>
      obtain ⟨a1, a2, a3⟩ := short_q (r := [a]) (by simp)
      obtain ⟨b1, b2, b3⟩ := pair_q c d
      rw [a1, a2, a3, b1, b2, b3, Int.zero_add, Int.zero_add, Int.zero_add]
      exact two_alone hD.head hD.tail.head
    | [], [], _, _, _, _, _ => simp [qF, qG, qM]
    | [], [c], _, _, _, _, _ =>
      obtain ⟨b1, b2, b3⟩ := short_q (r := [c]) (by simp)
      rw [b1, b2, b3]; simp [qF, qG, qM]
    | [a], [], _, _, _, _, _ =>
      obtain ⟨b1, b2, b3⟩ := short_q (r := [a]) (by simp)
      rw [b1, b2, b3]; simp [qF, qG, qM]
    | [a], [c], _, _, _, _, _ =>
      obtain ⟨a1, a2, a3⟩ := short_q (r := [a]) (by simp)
      obtain ⟨b1, b2, b3⟩ := short_q (r := [c]) (by simp)
      rw [a1, a2, a3, b1, b2, b3]; decide

-- the way round a polygon
/-- Edges from one place on, so many of them: what they are. -/
def edsAt (E : Nat → Ed) (k : Nat) : Nat → List Ed
  | 0 => []
  | n + 1 => E k :: edsAt E (k + 1) n
def pathA (P : Nat → Pt) (k : Nat) : Nat → Int
  | 0 => 0
  | n + 1 => xr (P k) (P (k + 1)) + pathA P (k + 1) n
theorem pathA_sum (P : Nat → Pt) : ∀ n k, pathA P k n + sumF (fun i => xr (P i) (P (i + 1))) k = sumF (fun i => xr (P i) (P (i + 1))) (k + n)
  | 0, k => by simp [pathA]
  | n + 1, k => by
    have h := pathA_sum P n (k + 1)
    rw [show k + (n + 1) = k + 1 + n by omega, ← h]
    show xr (P k) (P (k + 1)) + pathA P (k + 1) n + _ = pathA P (k + 1) n + (sumF _ k + xr (P k) (P (k + 1)))
    omega

theorem eds_f {E : Nat → Ed} {P : Nat → Pt} (h : ∀ k, (E k).f = subP (P (k + 1)) (P k)) : ∀ n k, totF (edsAt E k n) = subP (P (k + n)) (P k) ∧ pathA P k n = xr (P k) (totF (edsAt E k n)) + qF (edsAt E k n)
  | 0, k => by
    refine ⟨?_, ?_⟩
    · show (0, 0) = _
      unfold subP; simp
    · simp [edsAt, pathA, totF, qF, xr]
  | n + 1, k => by
    obtain ⟨h1, h2⟩ := eds_f h n (k + 1)
    have e0 : P (k + 1) = sumP (P k) (E k).f := by rw [h k]; unfold sumP subP; exact Prod.ext (by simp only; omega) (by simp only; omega)
    refine ⟨?_, ?_⟩
    · show sumP (E k).f (totF (edsAt E (k + 1) n)) = _
      rw [h1, h k, show k + (n + 1) = k + 1 + n by omega]
      unfold sumP subP; simp only [Prod.mk.injEq]; omega
    · show xr (P k) (P (k + 1)) + pathA P (k + 1) n = xr (P k) (sumP (E k).f (totF (edsAt E (k + 1) n))) + (xr (E k).f (totF (edsAt E (k + 1) n)) + qF (edsAt E (k + 1) n))
      rw [h2, e0]
      generalize totF (edsAt E (k + 1) n) = t
      unfold xr sumP; grind
theorem eds_g {E : Nat → Ed} {P : Nat → Pt} (h : ∀ k, (E k).g = subP (P (k + 1)) (P k)) : ∀ n k, totG (edsAt E k n) = subP (P (k + n)) (P k) ∧ pathA P k n = xr (P k) (totG (edsAt E k n)) + qG (edsAt E k n)
  | 0, k => by
    refine ⟨?_, ?_⟩
    · show (0, 0) = _
      unfold subP; simp
    · simp [edsAt, pathA, totG, qG, xr]
  | n + 1, k => by
    obtain ⟨h1, h2⟩ := eds_g h n (k + 1)
    have e0 : P (k + 1) = sumP (P k) (E k).g := by rw [h k]; unfold sumP subP; exact Prod.ext (by simp only; omega) (by simp only; omega)
    refine ⟨?_, ?_⟩
    · show sumP (E k).g (totG (edsAt E (k + 1) n)) = _
      rw [h1, h k, show k + (n + 1) = k + 1 + n by omega]
      unfold sumP subP; simp only [Prod.mk.injEq]; omega
    · show xr (P k) (P (k + 1)) + pathA P (k + 1) n = xr (P k) (sumP (E k).g (totG (edsAt E (k + 1) n))) + (xr (E k).g (totG (edsAt E (k + 1) n)) + qG (edsAt E (k + 1) n))
      rw [h2, e0]
      generalize totG (edsAt E (k + 1) n) = t
      unfold xr sumP; grind
/-- Both together: the sum's edges. -/
def bothE (e : Ed) : Ed := ⟨e.u, sumP e.f e.g, (0, 0)⟩
theorem both_q : ∀ r : List Ed, totF (r.map bothE) = sumP (totF r) (totG r) ∧ qF (r.map bothE) = qF r + qG r + qM r
  | [] => by simp [totF, totG, qF, qG, qM, sumP]
  | e :: r => by
    obtain ⟨h1, h2⟩ := both_q r
    simp only [List.map_cons, totF, totG, qF, qG, qM, h1, h2]
    refine ⟨?_, ?_⟩
    · show sumP (sumP e.f e.g) _ = _
      unfold sumP; simp only [Prod.mk.injEq]; omega
    · show xr (sumP e.f e.g) (sumP (totF r) (totG r)) + _ = _
      have : xr (sumP e.f e.g) (sumP (totF r) (totG r)) = xr e.f (totF r) + xr e.g (totG r) + (xr e.f (totG r) + xr e.g (totF r)) := by unfold xr sumP; grind
      omega
theorem eds_map (E : Nat → Ed) (F : Ed → Ed) : ∀ n k, (edsAt E k n).map F = edsAt (fun i => F (E i)) k n
  | 0, _ => rfl
  | n + 1, k => by show F (E k) :: (edsAt E (k + 1) n).map F = F (E k) :: edsAt (fun i => F (E i)) (k + 1) n; rw [eds_map E F n (k + 1)]
theorem eds_length (E : Nat → Ed) : ∀ n k, (edsAt E k n).length = n
  | 0, _ => rfl
  | n + 1, k => by show (edsAt E (k + 1) n).length + 1 = n + 1; rw [eds_length E n (k + 1)]
theorem eds_rise {E : Nat → Ed} : ∀ n k, (∀ i, k ≤ i → i < k + n → (E i).ok) → (∀ i, k ≤ i → i + 1 < k + n → 0 < xr (E i).u (E (i + 1)).u) → Rise (edsAt E k n)
  | 0, _, _, _ => trivial
  | 1, k, h, _ => h k (Nat.le_refl _) (by omega)
  | n + 2, k, h, hx => ⟨h k (Nat.le_refl _) (by omega), hx k (Nat.le_refl _) (by omega), eds_rise (n + 1) (k + 1) (fun i h1 h2 => h i (by omega) (by omega)) (fun i h1 h2 => hx i (by omega) (by omega))⟩
theorem eds_split (E : Nat → Ed) : ∀ n m k, edsAt E k (n + m) = edsAt E k n ++ edsAt E (k + n) m
  | 0, m, k => by simp [edsAt]
  | n + 1, m, k => by
    rw [show n + 1 + m = (n + m) + 1 by omega]
    show E k :: edsAt E (k + 1) (n + m) = E k :: (edsAt E (k + 1) n ++ edsAt E (k + (n + 1)) m)
    rw [eds_split E n m (k + 1), show k + 1 + n = k + (n + 1) by omega]
theorem q_append : ∀ r s : List Ed, totF (r ++ s) = sumP (totF r) (totF s) ∧ totG (r ++ s) = sumP (totG r) (totG s) ∧ qF (r ++ s) = qF r + qF s + xr (totF r) (totF s) ∧ qG (r ++ s) = qG r + qG s + xr (totG r) (totG s) ∧ qM (r ++ s) = qM r + qM s + (xr (totF r) (totG s) + xr (totG r) (totF s))
  | [], s => by simp [totF, totG, qF, qG, qM, sumP, xr]
  | e :: r, s => by
    obtain ⟨h1, h2, h3, h4, h5⟩ := q_append r s
    simp only [List.cons_append, totF, totG, qF, qG, qM, h1, h2, h3, h4, h5]
    refine ⟨?_, ?_, ?_, ?_, ?_⟩
    · unfold sumP; simp only [Prod.mk.injEq]; omega
    · unfold sumP; simp only [Prod.mk.injEq]; omega
    · have a : xr e.f (sumP (totF r) (totF s)) = xr e.f (totF r) + xr e.f (totF s) := by unfold xr sumP; grind
      have b : xr (sumP e.f (totF r)) (totF s) = xr e.f (totF s) + xr (totF r) (totF s) := by unfold xr sumP; grind
      omega
    · have a : xr e.g (sumP (totG r) (totG s)) = xr e.g (totG r) + xr e.g (totG s) := by unfold xr sumP; grind
      have b : xr (sumP e.g (totG r)) (totG s) = xr e.g (totG s) + xr (totG r) (totG s) := by unfold xr sumP; grind
      omega
    · have a : xr e.f (sumP (totG r) (totG s)) = xr e.f (totG r) + xr e.f (totG s) := by unfold xr sumP; grind
      have b : xr e.g (sumP (totF r) (totF s)) = xr e.g (totF r) + xr e.g (totF s) := by unfold xr sumP; grind
      have c : xr (sumP e.f (totF r)) (totG s) = xr e.f (totG s) + xr (totF r) (totG s) := by unfold xr sumP; grind
      have d : xr (sumP e.g (totG r)) (totF s) = xr e.g (totF s) + xr (totG r) (totF s) := by unfold xr sumP; grind
      omega

def negE (e : Ed) : Ed := ⟨negP e.u, negP e.f, negP e.g⟩
theorem neg_all : ∀ r : List Ed, totF (r.map negE) = negP (totF r) ∧ totG (r.map negE) = negP (totG r) ∧ qF (r.map negE) = qF r ∧ qG (r.map negE) = qG r ∧ qM (r.map negE) = qM r
  | [] => by simp [totF, totG, qF, qG, qM, negP]
  | e :: r => by
    obtain ⟨h1, h2, h3, h4, h5⟩ := neg_all r
    simp only [List.map_cons, totF, totG, qF, qG, qM, h1, h2, h3, h4, h5]
    refine ⟨?_, ?_, ?_, ?_, ?_⟩
    · unfold negE sumP negP; simp only [Prod.mk.injEq]; omega
    · unfold negE sumP negP; simp only [Prod.mk.injEq]; omega
    · rw [show (negE e).f = negP e.f from rfl, xr_neg2]
    · rw [show (negE e).g = negP e.g from rfl, xr_neg2]
    · rw [show (negE e).f = negP e.f from rfl, show (negE e).g = negP e.g from rfl, xr_neg2, xr_neg2]
theorem Part.neg {u f : Pt} (h : Part u f) : Part (negP u) (negP f) := by
  obtain ⟨p, q, hp, hq, h1, h2⟩ := h
  refine ⟨p, q, hp, hq, ?_, ?_⟩
  · show q * -f.1 = p * -u.1
    rw [Int.mul_neg, Int.mul_neg, h1]
  · show q * -f.2 = p * -u.2
    rw [Int.mul_neg, Int.mul_neg, h2]

theorem Dir.part {u f : Pt} (h : Dir u f) : Part u f := by
  obtain ⟨p, q, hp, hq, h1, h2⟩ := h
  exact ⟨p, q, by omega, hq, h1.symm, h2.symm⟩

/-- The edges of the sum, with each polygon's part. -/
def mEd (a b K : List Pt) (k : Nat) : Ed := ⟨ev K k, subP (vtx a (mst a b (k + 1)).1) (vtx a (mst a b k).1), subP (vtx b (mst a b (k + 1)).2) (vtx b (mst a b k).2)⟩

/-- How far the first polygon's way has come. -/
theorem walk_area (a b : List Pt) : ∀ k, sumF (fun i => xr (vtx a (mst a b i).1) (vtx a (mst a b (i + 1)).1)) k = sumF (tr a) (mst a b k).1
  | 0 => rfl
  | k + 1 => by
    have ih := walk_area a b k
    show sumF _ k + xr (vtx a (mst a b k).1) (vtx a (mst a b (k + 1)).1) = _
    rw [ih]
    by_cases g : goesA a b k
    · rw [mst_A g]; rfl
    · rw [mst_notA g]
      show sumF (tr a) (mst a b k).1 + xr (vtx a (mst a b k).1) (vtx a (mst a b k).1) = sumF (tr a) (mst a b k).1
      rw [xr_self]; omega

theorem brunn {a b K : List Pt} {a0 b0 : Pt} (ca : Conv a a0) (cb : Conv b b0) (h : Hull (sums a b) K (sumP a0 b0)) (cK : Conv K (sumP a0 b0)) :
    area2 a + area2 b ≤ area2 K ∧ 4 * (area2 a * area2 b) ≤ (area2 K - area2 a - area2 b) * (area2 K - area2 a - area2 b) := by
  have hend := (merge_end ca cb h cK).1
  have three := cK.three
  have tK := turnV three (hull_convex cK.hull cK.three cK.low)
  obtain ⟨B, hB, hBn, hr, hf⟩ := tK.once
  generalize hN : K.length = N at *
  have sw : ∀ k, (mst b a k).1 = (mst a b k).2 := fun k => congrArg Prod.fst (mst_swap (a := a) (b := b) k)
  have sw2 : ∀ k, (mst b a k).2 = (mst a b k).1 := fun k => congrArg Prod.snd (mst_swap (a := a) (b := b) k)
  -- parts of the edges
  have part : ∀ k, Part (ev K k) (mEd a b K k).f ∧ Part (ev K k) (mEd a b K k).g := fun k => by
    refine ⟨?_, ?_⟩
    · show Part (ev K k) (subP (vtx a (mst a b (k + 1)).1) (vtx a (mst a b k).1))
      by_cases g : goesA a b k
      · rw [mst_A g]; exact (dir_A ca cb h g).part
      · rw [mst_notA g]
        have : subP (vtx a (mst a b k).1) (vtx a (mst a b k).1) = (0, 0) := by unfold subP; simp
        rw [this]; exact Part.zero _
    · show Part (ev K k) (subP (vtx b (mst a b (k + 1)).2) (vtx b (mst a b k).2))
      by_cases g : goesA b a k
      · have e := mst_A g
        rw [sw, sw] at e
        rw [e]
        have d := (dir_A cb ca (hull_swap h) g).part
        rw [sw] at d
        exact d
      · have e := congrArg Prod.fst (mst_notA g)
        simp only [sw] at e
        rw [e]
        have : subP (vtx b (mst a b k).2) (vtx b (mst a b k).2) = (0, 0) := by unfold subP; simp
        rw [this]; exact Part.zero _
  have evx : ∀ i, 0 < xr (ev K i) (ev K (i + 1)) := cK.turn
  have upr : ∀ i, i < B → Up (ev K i) := fun i hi => up_sub.2 (hr i hi)
  have upf : ∀ i, B ≤ i → i < N → Up (negP (ev K i)) := fun i h1 h2 => by
    have := up_sub.2 (hf i h1 h2)
    have e : subP (vtx K i) (vtx K (i + 1)) = negP (ev K i) := by unfold ev subP negP; simp only [Prod.mk.injEq]; omega
    rwa [e] at this
  have R1 : Rise (edsAt (mEd a b K) 0 B) := eds_rise B 0 (fun i _ h2 => ⟨upr i (by omega), (part i).1, (part i).2⟩) (fun i _ _ => evx i)
  have R2 : Rise ((edsAt (mEd a b K) B (N - B)).map negE) := by
    rw [eds_map]
    exact eds_rise (N - B) B (fun i h1 h2 => ⟨upf i h1 (by omega), (part i).1.neg, (part i).2.neg⟩) (fun i _ _ => by
      show 0 < xr (negP (ev K i)) (negP (ev K (i + 1)))
      rw [xr_neg2]; exact evx i)
  -- the ways
  have wf := eds_f (E := mEd a b K) (P := fun k => vtx a (mst a b k).1) (fun k => rfl)
  have wg := eds_g (E := mEd a b K) (P := fun k => vtx b (mst a b k).2) (fun k => rfl)
  have endA : vtx a (mst a b N).1 = vtx a (mst a b 0).1 := by
    rw [hend]
    show vtx a a.length = vtx a 0
    have := vtx_add a 0
    rwa [Nat.zero_add] at this
  have endB : vtx b (mst a b N).2 = vtx b (mst a b 0).2 := by
    rw [hend]
    show vtx b b.length = vtx b 0
    have := vtx_add b 0
    rwa [Nat.zero_add] at this
  have sp : edsAt (mEd a b K) 0 N = edsAt (mEd a b K) 0 B ++ edsAt (mEd a b K) B (N - B) := by
    have := eds_split (mEd a b K) B (N - B) 0
    rwa [show B + (N - B) = N by omega, Nat.zero_add] at this
  obtain ⟨a1, a2, a3, a4, a5⟩ := q_append (edsAt (mEd a b K) 0 B) (edsAt (mEd a b K) B (N - B))
  rw [← sp] at a1 a2 a3 a4 a5
  have zF : totF (edsAt (mEd a b K) 0 N) = (0, 0) := by
    rw [(wf N 0).1, Nat.zero_add, endA]; unfold subP; simp
  have zG : totG (edsAt (mEd a b K) 0 N) = (0, 0) := by
    rw [(wg N 0).1, Nat.zero_add, endB]; unfold subP; simp
  obtain ⟨n1, n2, n3, n4, n5⟩ := neg_all (edsAt (mEd a b K) B (N - B))
  have tF : totF (edsAt (mEd a b K) 0 B) = totF ((edsAt (mEd a b K) B (N - B)).map negE) := by
    rw [n1]
    rw [zF] at a1
    unfold sumP at a1
    unfold negP
    simp only [Prod.mk.injEq] at a1
    exact Prod.ext (by simp only; omega) (by simp only; omega)
  have tG : totG (edsAt (mEd a b K) 0 B) = totG ((edsAt (mEd a b K) B (N - B)).map negE) := by
    rw [n2]
    rw [zG] at a2
    unfold sumP at a2
    unfold negP
    simp only [Prod.mk.injEq] at a2
    exact Prod.ext (by simp only; omega) (by simp only; omega)
  have key := mixed_ineq _ _ _ (Nat.le_refl _) R1 R2 tF tG
  obtain ⟨-, -, pos1⟩ := q_nonneg R1
  obtain ⟨-, -, pos2⟩ := q_nonneg R2
  rw [n3, n4, n5] at key
  rw [n5] at pos2
  rw [n1] at tF
  rw [n2] at tG
  have c1 : xr (totF (edsAt (mEd a b K) 0 B)) (totF (edsAt (mEd a b K) B (N - B))) = 0 := by rw [tF]; unfold xr negP; grind
  have c2 : xr (totG (edsAt (mEd a b K) 0 B)) (totG (edsAt (mEd a b K) B (N - B))) = 0 := by rw [tG]; unfold xr negP; grind
  have c3 : xr (totF (edsAt (mEd a b K) 0 B)) (totG (edsAt (mEd a b K) B (N - B))) + xr (totG (edsAt (mEd a b K) 0 B)) (totF (edsAt (mEd a b K) B (N - B))) = 0 := by rw [tF, tG]; unfold xr negP; grind
  -- the areas
  have hAa : area2 a = qF (edsAt (mEd a b K) 0 N) := by
    have p := (wf N 0).2
    rw [zF] at p
    have s := pathA_sum (fun k => vtx a (mst a b k).1) N 0
    rw [Nat.zero_add, show sumF (fun i => xr (vtx a (mst a b i).1) (vtx a (mst a b (i + 1)).1)) 0 = 0 from rfl, Int.add_zero, walk_area a b N, hend] at s
    have z : xr (vtx a (mst a b 0).1) (0, 0) = 0 := by unfold xr; simp
    rw [area2_sum]
    have s : pathA (fun k => vtx a (mst a b k).1) 0 N = sumF (tr a) a.length := s
    omega
  have hAb : area2 b = qG (edsAt (mEd a b K) 0 N) := by
    have p := (wg N 0).2
    rw [zG] at p
    have s := pathA_sum (fun k => vtx b (mst a b k).2) N 0
    have wb : sumF (fun i => xr (vtx b (mst a b i).2) (vtx b (mst a b (i + 1)).2)) N = sumF (tr b) (mst a b N).2 := by
      have := walk_area b a N
      simp only [sw] at this
      exact this
    rw [Nat.zero_add, show sumF (fun i => xr (vtx b (mst a b i).2) (vtx b (mst a b (i + 1)).2)) 0 = 0 from rfl, Int.add_zero, wb, hend] at s
    have z : xr (vtx b (mst a b 0).2) (0, 0) = 0 := by unfold xr; simp
    rw [area2_sum]
    have s : pathA (fun k => vtx b (mst a b k).2) 0 N = sumF (tr b) b.length := s
    omega
  have hAK : area2 K = qF (edsAt (mEd a b K) 0 N) + qG (edsAt (mEd a b K) 0 N) + qM (edsAt (mEd a b K) 0 N) := by
    obtain ⟨b1, b2⟩ := both_q (edsAt (mEd a b K) 0 N)
    rw [eds_map] at b1 b2
    have wk := eds_f (E := fun i => bothE (mEd a b K i)) (P := vtx K) (fun k => by
      show sumP (mEd a b K k).f (mEd a b K k).g = _
      rw [← merge_hull ca cb h k, ← merge_hull ca cb h (k + 1)]
      unfold mEd mpt sumP subP
      simp only [Prod.mk.injEq]; omega) N 0
    have s := pathA_sum (vtx K) N 0
    rw [Nat.zero_add, show sumF (fun i => xr (vtx K i) (vtx K (i + 1))) 0 = 0 from rfl, Int.add_zero] at s
    rw [area2_sum, hN, ← b2]
    have p := wk.2
    rw [b1, zF, zG] at p
    have z : xr (vtx K 0) (sumP (0, 0) (0, 0)) = 0 := by unfold xr sumP; simp
    have s : pathA (vtx K) 0 N = sumF (tr K) N := s
    omega
  rw [c1, Int.add_zero] at a3
  rw [c2, Int.add_zero] at a4
  rw [c3, Int.add_zero] at a5
  rw [← a3, ← a4, ← a5, ← hAa, ← hAb] at key
  have eM : area2 K - area2 a - area2 b = qM (edsAt (mEd a b K) 0 N) := by omega
  rw [eM]
  refine ⟨?_, key⟩
  rw [a5] at eM
  omega

end Go.Proofs.Ytfdoijjojaehaaa

/- ShapeBrunn: the law's walk. -/
namespace Go.Proofs.Ytfdoijjojaehaaa
open Go.RowKit Go.Sort

theorem area2_lim {L : Int} (hL : 0 ≤ L) {l : List Pt} (h : ∀ p ∈ l, (-L ≤ p.1 ∧ p.1 ≤ L) ∧ (-L ≤ p.2 ∧ p.2 ≤ L)) : ∀ k : Nat, -(2 * (L * L) * (k : Int)) ≤ area2To l k ∧ area2To l k ≤ 2 * (L * L) * (k : Int)
  | 0 => by simp [area2To]
  | k + 1 => by
    have ih := area2_lim hL h k
    have b : ∀ i, (-L ≤ (l.getD i (0, 0)).1 ∧ (l.getD i (0, 0)).1 ≤ L) ∧ (-L ≤ (l.getD i (0, 0)).2 ∧ (l.getD i (0, 0)).2 ≤ L) := fun i => by
      rw [List.getD_eq_getElem?_getD]
      cases e : l[i]? with
      | none => simp only [Option.getD_none]; omega
      | some p => exact h p (List.mem_of_getElem? e)
    have m1 := mul_le_of_abs (b k).1 (b ((k + 1) % l.length)).2
    have m2 := mul_le_of_abs (b ((k + 1) % l.length)).1 (b k).2
    have e : 2 * (L * L) * ((k + 1 : Nat) : Int) = 2 * (L * L) * (k : Int) + 2 * (L * L) := by
      rw [show ((k + 1 : Nat) : Int) = (k : Int) + 1 by omega, Int.mul_add, Int.mul_one]
    rw [e]
    unfold area2To nx
    omega
theorem area2_limL {L : Int} (hL : 0 ≤ L) {l : List Pt} (h : ∀ p ∈ l, (-L ≤ p.1 ∧ p.1 ≤ L) ∧ (-L ≤ p.2 ∧ p.2 ≤ L)) : -(2 * (L * L) * (l.length : Int)) ≤ area2 l ∧ area2 l ≤ 2 * (L * L) * (l.length : Int) := area2_lim hL h l.length

set_option maxHeartbeats 8000000 in
set_option maxRecDepth 100000 in
theorem brunn_law (A0 : Option Addr) (n0 c0 : Nat) (xs0 : List Pt) (A1 : Option Addr) (n1 c1 : Nat) (xs1 : List Pt) (w : World)
    (hn0 : xs0.length = n0) (hbig0 : n0 ≤ 9223372036854775807) (hw0 : ∀ x ∈ xs0, (-9223372036854775808 ≤ x.1 ∧ x.1 ≤ 9223372036854775807) ∧ (-9223372036854775808 ≤ x.2 ∧ x.2 ≤ 9223372036854775807)) (hx0 : PtsAt w A0 xs0)
    (hn1 : xs1.length = n1) (hbig1 : n1 ≤ 9223372036854775807) (hw1 : ∀ x ∈ xs1, (-9223372036854775808 ≤ x.1 ∧ x.1 ≤ 9223372036854775807) ∧ (-9223372036854775808 ≤ x.2 ∧ x.2 ≤ 9223372036854775807)) (hx1 : PtsAt w A1 xs1) :
    Calls Try.prog 3 #[.slice A0 n0 c0, .slice A1 n1 c1] w fun e w' => e = .returned (.bool true) ∧ Below w.heap.size w w' := by
  have K0 := Lib.hid (lawHull_any 1000 ⟨by omega, by omega⟩ A0 n0 c0 xs0 w hn0 hbig0 hx0 hw0)
  have K1 := fun W (hW : Below w.heap.size w W) => Lib.hid (lawHull_any 1000 ⟨by omega, by omega⟩ A1 n1 c1 xs1 W hn1 hbig1 (hx1.below hW) hw1)
  have LV := fun W => Lib.hid (lives4_any W)
  clear hn0 hbig0 hw0 hx0 hn1 hbig1 hw1 hx1
  go_enter Try.func3, Try.ntmps3
  go_wp2_with fail
  refine (K0.out).mono ?_
  rintro e w1 ⟨va, a, a0, rfl, hoa, PA, hb1⟩
  clear K0
  go_wp2_with fail
  refine ((K1 _ hb1).out).mono ?_
  rintro e w2 ⟨vb, b, b0, rfl, hob, PB, hb2⟩
  have HB2 := Lib.hid (hb1.trans (hb2.mono hb1.size))
  clear K1
  obtain ⟨ga, ca, rfl, -, aa⟩ := hoa.slice_n (n := a.length) rfl
  obtain ⟨gb, cb, rfl, -, ab⟩ := hob.slice_n (n := b.length) rfl
  have Ha := Lib.hid (aa.below hb2)
  have Hb := Lib.hid ab
  clear hoa hob aa ab hb1 hb2
  obtain ⟨K, hK, cK⟩ := conv_sums PA.conv PB.conv
  obtain ⟨br1, br2⟩ := brunn PA.conv PB.conv hK cK
  have la := PA.len
  have lb := PB.len
  have lK : K.length ≤ 24 := by have := sum_len PA.conv PB.conv hK cK; omega
  have oa := ok_of_bd (by omega) PA.bd
  have ob := ok_of_bd (by omega) PB.bd
  have bK := bd_sums PA.bd PB.bd hK
  have oK := ok_of_bd (by omega) bK
  have l1 := area2_limL (L := 1000) (by omega) PA.bd
  have l2 := area2_limL (L := 1000) (by omega) PB.bd
  have l3 := area2_limL (L := 1000 + 1000) (by omega) bK
  have KS := fun W h h' => Lib.hid (sumX_any ga a.length ca gb b.length cb a b K a0 b0 W rfl rfl (by omega) (by omega) h h' oa ob PA.conv PB.conv hK cK)
  have ea : area2X a = area2 a := by unfold area2X; rw [conv_polyB PA.conv oa (by omega)]; rfl
  have ea' : errX a = 0 := by unfold errX; rw [conv_polyB PA.conv oa (by omega)]; rfl
  have eb : area2X b = area2 b := by unfold area2X; rw [conv_polyB PB.conv ob (by omega)]; rfl
  have eb' : errX b = 0 := by unfold errX; rw [conv_polyB PB.conv ob (by omega)]; rfl
  have eK : area2X K = area2 K := by unfold area2X; rw [conv_polyB cK oK (by omega)]; rfl
  have eK' : errX K = 0 := by unfold errX; rw [conv_polyB cK oK (by omega)]; rfl
  have KA := fun W h => Lib.hid (area2X_any ga a.length ca a W rfl (by omega) h)
  have KB := fun W h => Lib.hid (area2X_any gb b.length cb b W rfl (by omega) h)
  have KK := fun g k W h => Lib.hid (area2X_any g K.length k K W rfl (by omega) h)
  rw [ea, ea'] at KA
  rw [eb, eb'] at KB
  rw [eK, eK'] at KK
  clear PA PB hK cK oa ob bK oK ea ea' eb eb' eK eK'
  generalize area2 a = p at *
  generalize area2 b = q at *
  generalize area2 K = n at *
  have bp : -24000000 ≤ p ∧ p ≤ 24000000 := by omega
  have bq : -24000000 ≤ q ∧ q ≤ 24000000 := by omega
  have bn : -192000000 ≤ n ∧ n ≤ 192000000 := by omega
  clear l1 l2 l3
  have q1 : IntKind.i64.wrap (p + q) = p + q := by rw [IntKind.wrap_i64]; omega
  have q2 : IntKind.i64.wrap (n - p) = n - p := by rw [IntKind.wrap_i64]; omega
  have q3 : IntKind.i64.wrap (n - p - q) = n - p - q := by rw [IntKind.wrap_i64]; omega
  have m1 := mul_le_of_abs (a := n - p - q) (b := n - p - q) (K := 240000000) (L := 240000000) (by omega) (by omega)
  have q4 : IntKind.i64.wrap ((n - p - q) * (n - p - q)) = (n - p - q) * (n - p - q) := by rw [IntKind.wrap_i64]; omega
  have q5 : IntKind.i64.wrap (4 * p) = 4 * p := by rw [IntKind.wrap_i64]; omega
  have m2 := mul_le_of_abs (a := 4 * p) (b := q) (K := 96000000) (L := 24000000) (by omega) (by omega)
  have q6 : IntKind.i64.wrap (4 * p * q) = 4 * p * q := by rw [IntKind.wrap_i64]; omega
  have br3 : 4 * p * q ≤ (n - p - q) * (n - p - q) := by rw [Int.mul_assoc]; exact br2
  have w4 : wrap64 ((n - p - q) * (n - p - q)) = (n - p - q) * (n - p - q) := IntWalk.wrap64_in _ (by omega)
  have w6 : wrap64 (4 * p * q) = 4 * p * q := IntWalk.wrap64_in _ (by omega)
  have nlt : ¬ wrap64 ((n - p - q) * (n - p - q)) < wrap64 (4 * p * q) := by rw [w4, w6]; omega
  have NLT := Lib.hid nlt
  clear m1 m2 br2 bp bq bn w4 w6 q4 q6 br3
  -- Sum
  go_wp2_with fail
  refine ((KS _ Ha.out Hb.out).out).mono ?_
  rintro e w3 ⟨v, rfl, ho, hb3⟩
  have HB3 := Lib.hid (HB2.out.trans (hb3.mono HB2.out.size))
  replace Ha := Lib.hid (Ha.out.below hb3)
  replace Hb := Lib.hid (Hb.out.below hb3)
  obtain ⟨g1, k1, rfl, -, at1⟩ := ho.slice_n (n := K.length) rfl
  have H1 := Lib.hid at1
  clear ho at1 hb3 HB2 KS
  go_wp2_with fail
  refine ((KA _ Ha.out).out).mono ?_
  rintro e w4 ⟨rfl, hb4⟩
  have HB4 := Lib.hid (HB3.out.trans (hb4.mono HB3.out.size))
  replace Hb := Lib.hid (Hb.out.below hb4)
  replace H1 := Lib.hid (H1.out.below hb4)
  clear hb4 HB3 KA
  go_wp2_with fail
  refine ((KB _ Hb.out).out).mono ?_
  rintro e w5 ⟨rfl, hb5⟩
  have HB5 := Lib.hid (HB4.out.trans (hb5.mono HB4.out.size))
  replace H1 := Lib.hid (H1.out.below hb5)
  clear hb5 HB4 KB
  go_wp2_with fail
  refine ((KK _ _ _ H1.out).out).mono ?_
  rintro e w6 ⟨rfl, hb6⟩
  have HB6 := Lib.hid (HB5.out.trans (hb6.mono HB5.out.size))
  clear hb6 HB5 KK
  go_wp2_with fail
  refine ((LV _).out).mono ?_
  rintro e w7 ⟨rfl, hb7⟩
  have HB7 := Lib.hid (HB6.out.trans (hb7.mono HB6.out.size))
  go_wp2_with fail
  go_ret
  exact ⟨rfl, HB7.out⟩
end Go.Proofs.Ytfdoijjojaehaaa
