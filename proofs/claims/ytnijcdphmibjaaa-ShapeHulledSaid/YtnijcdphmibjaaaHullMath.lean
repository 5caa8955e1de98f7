/- Plain mathematics of convex hulls: the monotone chain. -/
import Derived.Test.YtnijcdphmibjaaaDevEq
namespace Go.Proofs.Ytnijcdphmibjaaa

/-- The cross product of two vectors. -/
def xr (u v : Pt) : Int := u.1 * v.2 - v.1 * u.2
def subP (a b : Pt) : Pt := (a.1 - b.1, a.2 - b.2)
/-- Upward, or to the right. -/
def Up (v : Pt) : Prop := 0 < v.2 ∨ (v.2 = 0 ∧ 0 < v.1)
/-- From below, then from the left. -/
def ltP (a b : Pt) : Prop := a.2 < b.2 ∨ (a.2 = b.2 ∧ a.1 < b.1)
def leP (a b : Pt) : Prop := a = b ∨ ltP a b

theorem up_sub {a b : Pt} : Up (subP b a) ↔ ltP a b := by unfold Up subP ltP; simp only; omega
theorem ltP_trans {a b c : Pt} (h : ltP a b) (k : ltP b c) : ltP a c := by unfold ltP at *; omega
theorem ltP_irrefl (a : Pt) : ¬ ltP a a := by unfold ltP; omega
theorem ltP_asymm {a b : Pt} (h : ltP a b) : ¬ ltP b a := by unfold ltP at *; omega
theorem leP_trans {a b c : Pt} (h : leP a b) (k : leP b c) : leP a c := by
  rcases h with rfl | h
  · exact k
  · rcases k with rfl | k
    · exact .inr h
    · exact .inr (ltP_trans h k)
theorem leP_refl (a : Pt) : leP a a := .inl rfl
theorem ltP_leP {a b c : Pt} (h : ltP a b) (k : leP b c) : ltP a c := by
  rcases k with rfl | k
  · exact h
  · exact ltP_trans h k
theorem leP_ltP {a b c : Pt} (h : leP a b) (k : ltP b c) : ltP a c := by
  rcases h with rfl | h
  · exact k
  · exact ltP_trans h k
theorem leP_total (a b : Pt) : leP a b ∨ ltP b a := by
  obtain ⟨x, y⟩ := a
  obtain ⟨u, v⟩ := b
  unfold leP ltP
  simp only [Prod.mk.injEq]
  omega
theorem leP_anti {a b : Pt} (h : leP a b) (k : leP b a) : a = b := by
  rcases h with h | h
  · exact h
  · rcases k with k | k
    · exact k.symm
    · exact absurd k (ltP_asymm h)

theorem nonneg_of_mul {v z s : Int} (hv : 0 < v) (h : v * z = s) (hs : 0 ≤ s) : 0 ≤ z := by
  rcases Int.lt_or_le z 0 with g | g
  · have := Int.mul_neg_of_pos_of_neg hv g; omega
  · exact g
theorem pos_of_mul {v z s : Int} (hv : 0 < v) (h : v * z = s) (hs : 0 < s) : 0 < z := by
  rcases Int.lt_or_le 0 z with g | g
  · exact g
  · have := Int.mul_nonpos_of_nonneg_of_nonpos (Int.le_of_lt hv) g; omega
theorem up_y {u : Pt} (h : Up u) : 0 ≤ u.2 := by unfold Up at h; omega

/-- In the upper half plane the angles are ordered. -/
theorem xr_trans {u v w : Pt} (hu : Up u) (hv : Up v) (hw : Up w) (h : 0 ≤ xr u v) (k : 0 ≤ xr v w) : 0 ≤ xr u w := by
  have e : v.2 * xr u w = w.2 * xr u v + u.2 * xr v w := by unfold xr; grind
  have a1 := Int.mul_nonneg (up_y hw) h
  have a2 := Int.mul_nonneg (up_y hu) k
  rcases hv with g | ⟨g, g'⟩
  · exact nonneg_of_mul g e (by omega)
  · have e2 : xr u v = - (v.1 * u.2) := by unfold xr; rw [g]; grind
    have e3 : xr v w = v.1 * w.2 := by unfold xr; rw [g]; grind
    have u0 : u.2 = 0 := by
      rcases Int.lt_or_le 0 u.2 with q | q
      · have := Int.mul_pos g' q; omega
      · have := up_y hu; omega
    have e4 : xr u w = u.1 * w.2 := by unfold xr; rw [u0]; grind
    have hu1 : 0 < u.1 := by unfold Up at hu; omega
    rw [e4]
    exact Int.mul_nonneg (Int.le_of_lt hu1) (up_y hw)
theorem xr_trans1 {u v w : Pt} (hu : Up u) (hv : Up v) (hw : Up w) (h : 0 < xr u v) (k : 0 ≤ xr v w) : 0 < xr u w := by
  have e : v.2 * xr u w = w.2 * xr u v + u.2 * xr v w := by unfold xr; grind
  have hv2 : 0 < v.2 := by
    rcases hv with g | ⟨g, g'⟩
    · exact g
    · have e2 : xr u v = - (v.1 * u.2) := by unfold xr; rw [g]; grind
      have := Int.mul_nonneg (Int.le_of_lt g') (up_y hu)
      omega
  have hw2 : 0 < w.2 := by
    rcases hw with g | ⟨g, g'⟩
    · exact g
    · have e2 : xr v w = - (w.1 * v.2) := by unfold xr; rw [g]; grind
      have := Int.mul_pos g' hv2
      omega
  have a1 := Int.mul_pos hw2 h
  have a2 := Int.mul_nonneg (up_y hu) k
  exact pos_of_mul hv2 e (by omega)
theorem xr_trans2 {u v w : Pt} (hu : Up u) (hv : Up v) (hw : Up w) (h : 0 ≤ xr u v) (k : 0 < xr v w) : 0 < xr u w := by
  have e : v.2 * xr u w = w.2 * xr u v + u.2 * xr v w := by unfold xr; grind
  have hw2 : 0 < w.2 := by
    rcases hw with g | ⟨g, g'⟩
    · exact g
    · have e2 : xr v w = - (w.1 * v.2) := by unfold xr; rw [g]; grind
      have := Int.mul_nonneg (Int.le_of_lt g') (up_y hv)
      omega
  rcases hv with g | ⟨g, g'⟩
  · rcases hu with q | ⟨q, q'⟩
    · have a1 := Int.mul_nonneg (up_y (.inl hw2)) h
      have a2 := Int.mul_pos q k
      exact pos_of_mul g e (by omega)
    · have e2 : xr u v = u.1 * v.2 := by unfold xr; rw [q]; grind
      have e3 : xr u w = u.1 * w.2 := by unfold xr; rw [q]; grind
      rw [e3]; exact Int.mul_pos q' hw2
  · have e2 : xr u v = - (v.1 * u.2) := by unfold xr; rw [g]; grind
    have u0 : u.2 = 0 := by
      rcases Int.lt_or_le 0 u.2 with q | q
      · have := Int.mul_pos g' q; omega
      · have := up_y hu; omega
    have e4 : xr u w = u.1 * w.2 := by unfold xr; rw [u0]; grind
    have hu1 : 0 < u.1 := by unfold Up at hu; omega
    rw [e4]; exact Int.mul_pos hu1 hw2

theorem crossP_xr (a b c : Pt) : crossP a b c = xr (subP b a) (subP c a) := by unfold crossP cross xr subP; grind
theorem crossP_xr2 (a b c : Pt) : crossP a b c = xr (subP b a) (subP c b) := by unfold crossP cross xr subP; grind

/-- A point is to the left of an edge, or on it. -/
def LeftOn (a b p : Pt) : Prop := 0 < crossP a b p ∨ onP a b p = true
theorem onP_cross {a b p : Pt} (h : onP a b p = true) : crossP a b p = 0 := by
  unfold onP onB at h
  simp only [Bool.and_eq_true, beq_iff_eq] at h
  exact h.1.1
theorem LeftOn.nonneg {a b p : Pt} (h : LeftOn a b p) : 0 ≤ crossP a b p := by
  rcases h with h | h
  · omega
  · rw [onP_cross h]; omega
/-- On a line, what lies between in the order lies between. -/
theorem on_of_between {a b p : Pt} (h : crossP a b p = 0) (h1 : leP a p) (h2 : leP p b) : onP a b p = true := by
  obtain ⟨ax, ay⟩ := a
  obtain ⟨bx, by'⟩ := b
  obtain ⟨px, py⟩ := p
  rcases h1 with e | h1
  · rw [← e]; exact onP_start _ _
  · rcases h2 with e | h2
    · rw [e]
      have := (on_iff ax ay (bx - ax) (by' - ay) (bx - ax) (by' - ay)).2 ⟨by unfold al; grind, by unfold btw; omega, by unfold btw; omega⟩
      rw [show ax + (bx - ax) = bx by omega, show ay + (by' - ay) = by' by omega] at this
      exact this
    · have hc : (bx - ax) * (py - ay) = (px - ax) * (by' - ay) := by unfold crossP cross at h; simp only at h; omega
      have key := (on_iff ax ay (bx - ax) (by' - ay) (px - ax) (py - ay))
      rw [show ax + (bx - ax) = bx by omega, show ay + (by' - ay) = by' by omega, show ax + (px - ax) = px by omega, show ay + (py - ay) = py by omega] at key
      refine key.2 ⟨by unfold al; omega, ?_⟩
      unfold ltP at h1 h2
      simp only at h1 h2
      have hy : btw (py - ay) (by' - ay) := by unfold btw; omega
      by_cases e : by' - ay = 0
      · refine ⟨?_, hy⟩
        unfold btw; omega
      · exact ⟨btw_dim e (by rw [Int.mul_comm, ← hc, Int.mul_comm]) hy, hy⟩


theorem onP_end (a b : Pt) (h : leP a b) : onP a b b = true := on_of_between (by unfold crossP cross; grind) h (leP_refl b)

/-- The edges of a chain whose last point stands first. -/
def edges : List Pt → List (Pt × Pt)
  | b :: a :: r => (a, b) :: edges (a :: r)
  | _ => []
def EdgeOK (P : List Pt) (a b : Pt) : Prop := ∀ p ∈ P, LeftOn a b p
def vec (e : Pt × Pt) : Pt := subP e.2 e.1
def Chn (P : List Pt) : List Pt → Prop
  | b :: a :: r => Chn P (a :: r) ∧ ltP a b ∧ EdgeOK P a b ∧ ∀ e ∈ edges (a :: r), 0 < xr (vec e) (subP b a)
  | _ => True
def popW (x : Pt) : List Pt → List Pt
  | b :: a :: r => if crossP a b x ≤ 0 then popW x (a :: r) else b :: a :: r
  | l => l
def pushW (st : List Pt) (x : Pt) : List Pt := x :: popW x st
def chainW (l : List Pt) : List Pt := l.foldl pushW []

theorem chn_edges {P : List Pt} : ∀ {st : List Pt}, Chn P st → ∀ e ∈ edges st, ltP e.1 e.2 ∧ EdgeOK P e.1 e.2
  | [], _, _, h => by cases h
  | [_], _, _, h => by cases h
  | b :: a :: r, hc, e, h => by
    obtain ⟨h1, h2, h3, _⟩ := hc
    rcases List.mem_cons.1 h with rfl | h
    · exact ⟨h2, h3⟩
    · exact chn_edges h1 e h
theorem chn_more {P : List Pt} {x : Pt} : ∀ {st : List Pt}, Chn P st → (∀ e ∈ edges st, LeftOn e.1 e.2 x) → Chn (x :: P) st
  | [], _, _ => trivial
  | [_], _, _ => trivial
  | b :: a :: r, hc, h => by
    obtain ⟨h1, h2, h3, h4⟩ := hc
    refine ⟨chn_more h1 (fun e he => h e (List.mem_cons_of_mem _ he)), h2, fun p hp => ?_, h4⟩
    rcases List.mem_cons.1 hp with rfl | hp
    · exact h (a, b) (List.mem_cons_self)
    · exact h3 p hp
theorem edges_mem : ∀ {st : List Pt} {e : Pt × Pt}, e ∈ edges st → e.1 ∈ st ∧ e.2 ∈ st
  | [], _, h => by cases h
  | [_], _, h => by cases h
  | b :: a :: r, e, h => by
    rcases List.mem_cons.1 h with rfl | h
    · exact ⟨by simp, by simp⟩
    · obtain ⟨h1, h2⟩ := edges_mem h
      exact ⟨List.mem_cons_of_mem _ h1, List.mem_cons_of_mem _ h2⟩

theorem q_step {P : List Pt} {a t x : Pt} (h1 : ltP a t) (h2 : ltP t x) (hx : ∀ p ∈ P, leP p x) (hc : crossP a t x ≤ 0) (he : EdgeOK P a t) (hq : ∀ p ∈ P, leP t p → LeftOn t x p) :
    ∀ p ∈ P, leP a p → LeftOn a x p := by
  intro p hp hap
  have hax := ltP_trans h1 h2
  have hpx := hx p hp
  have hA : Up (subP t a) := up_sub.2 h1
  have hB : Up (subP x t) := up_sub.2 h2
  have hAB : Up (subP x a) := up_sub.2 hax
  have hBA : 0 ≤ xr (subP x t) (subP t a) := by
    have : crossP a t x = - xr (subP x t) (subP t a) := by unfold crossP cross xr subP; grind
    omega
  have key : 0 ≤ crossP a x p := by
    rcases leP_total t p with g | g
    · rcases hpx with rfl | hpx
      · rw [show crossP a p p = 0 by unfold crossP cross; grind]; omega
      · have hD : Up (subP x p) := up_sub.2 hpx
        have k1 := (hq p hp g).nonneg
        have e1 : crossP t x p = xr (subP x p) (subP x t) := by unfold crossP cross xr subP; grind
        have e2 : crossP a x p = xr (subP x p) (subP t a) + xr (subP x p) (subP x t) := by unfold crossP cross xr subP; grind
        have := xr_trans hD hB hA (by omega) hBA
        omega
    · have k1 := (he p hp).nonneg
      rcases hap with rfl | hap
      · rw [show crossP a x a = 0 by unfold crossP cross; grind]; omega
      · have hC : Up (subP p a) := up_sub.2 hap
        have e1 : crossP a t p = xr (subP t a) (subP p a) := crossP_xr a t p
        have e2 : xr (subP x a) (subP t a) = xr (subP x t) (subP t a) := by unfold xr subP; grind
        rw [crossP_xr]
        exact xr_trans hAB hA hC (by omega) (by omega)
  rcases Int.lt_or_eq_of_le key with g | g
  · exact .inl g
  · exact .inr (on_of_between g.symm hap hpx)

/-- What popping leaves. -/
structure Popped (P : List Pt) (x : Pt) (t : Pt) (r : List Pt) : Prop where
  chn : Chn P (t :: r)
  lt : ltP t x
  q : ∀ p ∈ P, leP t p → LeftOn t x p
  turn : ∀ a r', r = a :: r' → 0 < crossP a t x

theorem pop_ok {P : List Pt} {x : Pt} (hx : ∀ p ∈ P, leP p x) : ∀ (t : Pt) (r : List Pt), Chn P (t :: r) → ltP t x → (∀ p ∈ P, leP t p → LeftOn t x p) →
    ∃ t' r', popW x (t :: r) = t' :: r' ∧ Popped P x t' r' ∧ (t' :: r') <:+ (t :: r)
  | t, [], hc, hl, hq => ⟨t, [], rfl, ⟨hc, hl, hq, fun _ _ h => by cases h⟩, List.suffix_refl _⟩
  | t, a :: r, hc, hl, hq => by
    by_cases h : crossP a t x ≤ 0
    · obtain ⟨h1, h2, h3, h4⟩ := hc
      obtain ⟨t', r', e, hp, hs⟩ := pop_ok hx a r h1 (ltP_trans h2 hl) (q_step h2 hl hx h h3 hq)
      refine ⟨t', r', ?_, hp, hs.trans (List.suffix_cons _ _)⟩
      rw [popW, if_pos h]; exact e
    · refine ⟨t, a :: r, ?_, ⟨hc, hl, hq, fun a' r' e => ?_⟩, List.suffix_refl _⟩
      · rw [popW, if_neg h]
      · obtain ⟨rfl, rfl⟩ : a = a' ∧ r = r' := by simpa using e
        omega

theorem push_ok {P : List Pt} {x s0 t : Pt} {r : List Pt} (h : Popped P x t r) (hin : ∀ s ∈ t :: r, s ∈ P) (hx : ∀ p ∈ P, leP p x) (hlast : (t :: r).getLast? = some s0) (hlow : ∀ p ∈ P, leP s0 p) :
    Chn (x :: P) (x :: t :: r) := by
  have hB : Up (subP x t) := up_sub.2 h.lt
  have turns : ∀ e ∈ edges (t :: r), 0 < xr (vec e) (subP x t) := by
    intro e he
    cases r with
    | nil => cases he
    | cons a r =>
      have ht := h.turn a r rfl
      obtain ⟨h1, h2, h3, h4⟩ := h.chn
      have e0 : crossP a t x = xr (subP t a) (subP x t) := crossP_xr2 a t x
      rcases List.mem_cons.1 he with rfl | he
      · show 0 < xr (subP t a) (subP x t); omega
      · have hv : Up (vec e) := up_sub.2 (chn_edges h1 e he).1
        exact xr_trans1 hv (up_sub.2 h2) hB (h4 e he) (by omega)
  have old : ∀ e ∈ edges (t :: r), LeftOn e.1 e.2 x := by
    intro e he
    left
    have k1 := ((chn_edges h.chn e he).2 t (hin t (by simp))).nonneg
    have k2 := turns e he
    have e0 : crossP e.1 e.2 x = crossP e.1 e.2 t + xr (vec e) (subP x t) := by unfold crossP cross xr vec subP; grind
    omega
  refine ⟨chn_more h.chn old, h.lt, fun p hp => ?_, turns⟩
  rcases List.mem_cons.1 hp with rfl | hp
  · exact .inr (onP_end _ _ (.inr h.lt))
  · rcases leP_total t p with g | g
    · exact h.q p hp g
    · left
      cases r with
      | nil =>
        obtain rfl : t = s0 := by simpa using hlast
        exact absurd (leP_ltP (hlow p hp) g) (ltP_irrefl _)
      | cons a r =>
        have ht := h.turn a r rfl
        obtain ⟨h1, h2, h3, h4⟩ := h.chn
        have k1 := (h3 p hp).nonneg
        have e1 : crossP a t p = xr (subP t p) (subP t a) := by unfold crossP cross xr subP; grind
        have e2 : crossP a t x = xr (subP t a) (subP x t) := crossP_xr2 a t x
        have e3 : crossP t x p = xr (subP t p) (subP x t) := by unfold crossP cross xr subP; grind
        have := xr_trans2 (up_sub.2 g) (up_sub.2 h2) hB (by omega) (by omega)
        omega

/-- A chain over points that are not all one. -/
structure Good (P : List Pt) (s0 : Pt) (st : List Pt) : Prop where
  chn : Chn P st
  two : 2 ≤ st.length
  top : ∃ t r, st = t :: r ∧ ∀ p ∈ P, leP p t
  last : st.getLast? = some s0
  low : ∀ p ∈ P, leP s0 p
  sub : ∀ s ∈ st, s ∈ P
/-- .. and over points that are. -/
def Same (P : List Pt) (s0 : Pt) (st : List Pt) : Prop := (∀ p ∈ P, p = s0) ∧ s0 ∈ P ∧ (st = [s0] ∨ st = [s0, s0])

theorem same_push {P : List Pt} {s0 : Pt} {st : List Pt} (h : Same P s0 st) {x : Pt} (hx : leP s0 x) : Same (x :: P) s0 (pushW st x) ∨ Good (x :: P) s0 (pushW st x) := by
  obtain ⟨h1, h2, h3⟩ := h
  have e0 : ∀ q, crossP s0 s0 q = 0 := fun q => by unfold crossP cross; grind
  have hp : pushW st x = [x, s0] := by
    rcases h3 with rfl | rfl
    · rfl
    · show x :: popW x [s0, s0] = _
      rw [popW, if_pos (by rw [e0]; omega)]; rfl
  rw [hp]
  rcases hx with rfl | hx
  · left
    exact ⟨fun p hp => by rcases List.mem_cons.1 hp with h | h; exact h; exact h1 p h, by simp, .inr rfl⟩
  · right
    refine ⟨⟨trivial, hx, fun p hp => ?_, fun e he => by cases he⟩, by simp, ⟨x, [s0], rfl, fun p hp => ?_⟩, rfl, fun p hp => ?_, fun s hs => ?_⟩
    · rcases List.mem_cons.1 hp with rfl | hp
      · exact .inr (onP_end _ _ (.inr hx))
      · rw [h1 p hp]; exact .inr (onP_start _ _)
    · rcases List.mem_cons.1 hp with rfl | hp
      · exact leP_refl _
      · rw [h1 p hp]; exact .inr hx
    · rcases List.mem_cons.1 hp with rfl | hp
      · exact .inr hx
      · rw [h1 p hp]; exact leP_refl _
    · rcases List.mem_cons.1 hs with rfl | hs
      · simp
      · have : s = s0 := by simpa using hs
        subst this; exact List.mem_cons_of_mem _ h2

theorem good_push {P : List Pt} {s0 : Pt} {st : List Pt} (h : Good P s0 st) {x : Pt} (hx : ∀ p ∈ P, leP p x) : Good (x :: P) s0 (pushW st x) := by
  obtain ⟨t, r, rfl, htop⟩ := h.top
  have fin : ∀ t' r', popW x (t :: r) = t' :: r' → Popped P x t' r' → (t' :: r') <:+ (t :: r) → Good (x :: P) s0 (pushW (t :: r) x) := by
    intro t' r' e hp hs
    have hl : (t' :: r').getLast? = some s0 := by
      obtain ⟨pre, hpre⟩ := hs
      have := h.last
      rw [← hpre, List.getLast?_append] at this
      cases e2 : (t' :: r').getLast? with
      | none => simp at e2
      | some y => rw [e2] at this; simpa using this
    have hin : ∀ s ∈ t' :: r', s ∈ P := fun s hs' => h.sub s (hs.subset hs')
    have hne : pushW (t :: r) x = x :: t' :: r' := by unfold pushW; rw [e]
    rw [hne]
    refine ⟨push_ok hp hin hx hl h.low, by simp, ⟨x, _, rfl, fun p hp' => ?_⟩, ?_, fun p hp' => ?_, fun s hs' => ?_⟩
    · rcases List.mem_cons.1 hp' with rfl | hp'
      · exact leP_refl _
      · exact hx p hp'
    · rw [List.getLast?_cons_cons]; exact hl
    · rcases List.mem_cons.1 hp' with rfl | hp'
      · exact leP_trans (h.low t' (hin t' (by simp))) (.inr hp.lt)
      · exact h.low p hp'
    · rcases List.mem_cons.1 hs' with rfl | hs'
      · simp
      · exact List.mem_cons_of_mem _ (hin s hs')
  rcases hx t (h.sub t (by simp)) with e | hlt
  · subst e
    cases r with
    | nil => have := h.two; simp at this
    | cons a r =>
      obtain ⟨h1, h2, h3, h4⟩ := h.chn
      obtain ⟨t', r', e, hp, hs⟩ := pop_ok hx a r h1 h2 (fun p hp _ => h3 p hp)
      refine fin t' r' ?_ hp (hs.trans (List.suffix_cons _ _))
      rw [popW, if_pos (by rw [show crossP a t t = 0 by unfold crossP cross; grind]; omega)]; exact e
  · obtain ⟨t', r', e, hp, hs⟩ := pop_ok hx t r h.chn hlt (fun p hp hle => by
      have : p = t := leP_anti (htop p hp) hle
      subst this; exact .inr (onP_start _ _))
    exact fin t' r' e hp hs

/-- The chain over sorted points. -/
theorem chain_ok : ∀ (l P : List Pt) (s0 : Pt) (st : List Pt), (Same P s0 st ∨ Good P s0 st) → (∀ p ∈ P, ∀ x ∈ l, leP p x) → l.Pairwise leP → s0 ∈ P →
    ∃ Q, (∀ p, p ∈ Q ↔ p ∈ P ∨ p ∈ l) ∧ (Same Q s0 (l.foldl pushW st) ∨ Good Q s0 (l.foldl pushW st))
  | [], P, s0, st, h, _, _, _ => ⟨P, by simp, h⟩
  | x :: l, P, s0, st, h, hle, hs, h0 => by
    obtain ⟨h1, h2⟩ := List.pairwise_cons.1 hs
    have step : Same (x :: P) s0 (pushW st x) ∨ Good (x :: P) s0 (pushW st x) := by
      rcases h with h | h
      · exact same_push h (hle s0 h0 x (by simp))
      · exact .inr (good_push h (fun p hp => hle p hp x (by simp)))
    obtain ⟨Q, hQ, hr⟩ := chain_ok l (x :: P) s0 (pushW st x) step (fun p hp y hy => by
      rcases List.mem_cons.1 hp with rfl | hp
      · exact h1 y hy
      · exact hle p hp y (List.mem_cons_of_mem _ hy)) h2 (List.mem_cons_of_mem _ h0)
    refine ⟨Q, fun p => ?_, hr⟩
    rw [hQ]; simp only [List.mem_cons]
    constructor
    · rintro ((h | h) | h)
      · exact .inr (.inl h)
      · exact .inl h
      · exact .inr (.inr h)
    · rintro (h | h | h)
      · exact .inl (.inr h)
      · exact .inl (.inl h)
      · exact .inr h

end Go.Proofs.Ytnijcdphmibjaaa
