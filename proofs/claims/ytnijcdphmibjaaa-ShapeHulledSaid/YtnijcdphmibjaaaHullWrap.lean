/- Plain mathematics of convex hulls: what wrapping finds; points on one line. -/
import Derived.Test.YtnijcdphmibjaaaHullSpec
namespace Go.Proofs.Ytnijcdphmibjaaa

theorem crossP_swap (a b c : Pt) : crossP a b c = - crossP a c b := by unfold crossP cross; grind
theorem on_both {a t p : Pt} (h1 : onP a t p = true) (h2 : onP a p t = true) : p = t := by
  rw [onP_iff] at h1 h2
  obtain ⟨x, y⟩ := p
  obtain ⟨u, v⟩ := t
  unfold btw at h1 h2
  simp only [Prod.mk.injEq] at *
  omega

/-- One step of wrapping: the point where the next edge may end. -/
def wrapStep (at_ cur p : Pt) : Pt :=
  if p = at_ then cur else if cur = at_ ∨ crossP at_ cur p < 0 ∨ (crossP at_ cur p = 0 ∧ onP at_ p cur = true) then p else cur
def wrap (at_ : Pt) (l : List Pt) : Pt := l.foldl (wrapStep at_) at_

theorem wrap_keep {at_ t p : Pt} (hne : at_ ≠ t) (h : LeftOn at_ t p) : wrapStep at_ t p = t := by
  unfold wrapStep
  split
  · rfl
  · split
    · rename_i h1 h2
      rcases h2 with h2 | h2 | ⟨h2, h3⟩
      · exact absurd h2.symm hne
      · have := h.nonneg; omega
      · rcases h with h | h
        · omega
        · exact on_both h h3
    · rfl
theorem wrap_take {at_ t cur : Pt} (hne : at_ ≠ t) (h : cur = at_ ∨ LeftOn at_ t cur) : wrapStep at_ cur t = t := by
  unfold wrapStep
  rw [if_neg (fun e => hne e.symm), if_pos]
  rcases h with h | h
  · exact .inl h
  · have e := crossP_swap at_ cur t
    rcases h with h | h
    · exact .inr (.inl (by omega))
    · exact .inr (.inr ⟨by have := onP_cross h; omega, h⟩)
theorem wrap_fold {P : List Pt} {at_ t : Pt} (he : Hedge P at_ t) : ∀ (l : List Pt) (cur : Pt), (∀ p ∈ l, p ∈ P) → (cur = at_ ∨ cur ∈ P) → (t ∈ l ∨ cur = t) → l.foldl (wrapStep at_) cur = t
  | [], cur, _, _, h => by
    rcases h with h | h
    · cases h
    · exact h
  | p :: l, cur, hl, hcur, h => by
    rw [List.foldl_cons]
    have hp : p ∈ P := hl p (by simp)
    have hl' : ∀ q ∈ l, q ∈ P := fun q hq => hl q (List.mem_cons_of_mem _ hq)
    by_cases e : cur = t
    · rw [e, wrap_keep he.ne (he.ok p hp)]
      exact wrap_fold he l t hl' (.inr he.snd) (.inr rfl)
    · by_cases e2 : p = t
      · rw [e2, wrap_take he.ne (hcur.imp id (fun h => he.ok cur h))]
        exact wrap_fold he l t hl' (.inr he.snd) (.inr rfl)
      · have ht : t ∈ l := by
          rcases h with h | h
          · rcases List.mem_cons.1 h with h | h
            · exact absurd h.symm e2
            · exact h
          · exact absurd h e
        refine wrap_fold he l _ hl' ?_ (.inl ht)
        unfold wrapStep
        split
        · exact hcur
        · split
          · exact .inr hp
          · exact hcur
theorem wrap_edge {P : List Pt} {at_ t : Pt} (he : Hedge P at_ t) : wrap at_ P = t :=
  wrap_fold he P at_ (fun _ h => h) (.inl rfl) (.inl he.snd)

/-- All points lie on one line. -/
def Flat (P : List Pt) (o : Pt) : Prop := ∀ a ∈ P, ∀ b ∈ P, crossP o a b = 0
theorem Flat.all {P : List Pt} {o : Pt} (h : Flat P o) {a b c : Pt} (ha : a ∈ P) (hb : b ∈ P) (hc : c ∈ P) : crossP a b c = 0 := by
  have e : crossP a b c = crossP o a b + crossP o b c + crossP o c a := by unfold crossP cross; grind
  rw [e, h a ha b hb, h b hb c hc, h c hc a ha]; omega

theorem line_all {a b p q r : Pt} (hne : a ≠ b) (hp : crossP a b p = 0) (hq : crossP a b q = 0) (hr : crossP a b r = 0) : crossP p q r = 0 := by
  have key : ∀ (u v : Pt), xr (subP b a) u = 0 → xr (subP b a) v = 0 → xr u v = 0 := by
    intro u v h1 h2
    have e1 : (subP b a).1 * xr u v = u.1 * xr (subP b a) v - v.1 * xr (subP b a) u := by unfold xr; grind
    have e2 : (subP b a).2 * xr u v = u.2 * xr (subP b a) v - v.2 * xr (subP b a) u := by unfold xr; grind
    rw [h1, h2] at e1 e2
    simp only [Int.mul_zero, Int.sub_self] at e1 e2
    rcases Int.mul_eq_zero.1 e1 with g | g
    · rcases Int.mul_eq_zero.1 e2 with k | k
      · exfalso; apply hne
        obtain ⟨ax, ay⟩ := a
        obtain ⟨bx, by'⟩ := b
        unfold subP at g k
        simp only [Prod.mk.injEq] at *
        omega
      · exact k
    · exact g
  rw [crossP_xr] at hp hq hr ⊢
  have e1 : xr (subP b a) (subP q p) = xr (subP b a) (subP q a) - xr (subP b a) (subP p a) := by unfold xr subP; grind
  have e2 : xr (subP b a) (subP r p) = xr (subP b a) (subP r a) - xr (subP b a) (subP p a) := by unfold xr subP; grind
  exact key _ _ (by omega) (by omega)

theorem gt_nx {H : List Pt} {i : Nat} (h : i + 1 < H.length) : nx H i = gt H (i + 1) := by
  show gt H ((i + 1) % H.length) = _
  rw [Nat.mod_eq_of_lt h]

/-- A hull has three points or more exactly if its points are not on one line. -/
theorem hull_flat {P H : List Pt} {s0 o : Pt} (h : Hull P H s0) (ho : o ∈ P) : Flat P o ↔ H.length < 3 := by
  have two := h.two
  constructor
  · intro hf
    rcases Nat.lt_or_ge H.length 3 with g | g
    · exact g
    · exfalso
      have e0 := h.edge 0 (by omega)
      have e1 := h.edge 1 (by omega)
      rw [gt_nx (by omega)] at e0 e1
      have k0 := hf.all e0.fst e0.snd e1.snd
      have k1 := hf.all e1.fst e1.snd e0.fst
      have o0 : onP (gt H 0) (gt H 1) (gt H 2) = true := by
        rcases e0.ok _ e1.snd with q | q
        · have q' : 0 < crossP (gt H 0) (gt H 1) (gt H 2) := q
          have k0' : crossP (gt H 0) (gt H (0 + 1)) (gt H (1 + 1)) = 0 := k0
          simp only [Nat.zero_add] at k0'
          omega
        · exact q
      have o1 : onP (gt H 1) (gt H 2) (gt H 0) = true := by
        rcases e1.ok _ e0.fst with q | q
        · have q' : 0 < crossP (gt H 1) (gt H 2) (gt H 0) := q
          have k1' : crossP (gt H 1) (gt H (1 + 1)) (gt H 0) = 0 := k1
          omega
        · exact q
      have hne := h.once 2 (by omega) (by omega)
      apply hne
      rw [← h.first]
      rw [onP_iff] at o0 o1
      generalize gt H 0 = a at *
      generalize gt H 1 = b at *
      generalize gt H 2 = c at *
      obtain ⟨a1, a2⟩ := a
      obtain ⟨b1, b2⟩ := b
      obtain ⟨c1, c2⟩ := c
      unfold btw at o0 o1
      simp only [Prod.mk.injEq] at *
      omega
  · intro hl
    have hl2 : H.length = 2 := by omega
    have e0 := h.edge 0 (by omega)
    have e1 := h.edge 1 (by omega)
    have n0 : nx H 0 = gt H 1 := gt_nx (by omega)
    have n1 : nx H 1 = gt H 0 := by show gt H ((1 + 1) % H.length) = _; rw [hl2]
    rw [n0] at e0
    rw [n1] at e1
    have z : ∀ p ∈ P, crossP (gt H 0) (gt H 1) p = 0 := fun p hp => by
      have a1 := (e0.ok p hp).nonneg
      have a2 := (e1.ok p hp).nonneg
      have : crossP (gt H 1) (gt H 0) p = - crossP (gt H 0) (gt H 1) p := by unfold crossP cross; grind
      omega
    intro a ha b hb
    exact line_all e0.ne (z o ho) (z a ha) (z b hb)

theorem flat_one {P : List Pt} {x o : Pt} (h : ∀ p ∈ P, p = x) (ho : o ∈ P) : Flat P o := fun a ha b hb => by
  rw [h a ha, h b hb, h o ho]; unfold crossP cross; grind

theorem Hedge.mem {P Q : List Pt} (h : ∀ p, p ∈ Q ↔ p ∈ P) {a b : Pt} (k : Hedge P a b) : Hedge Q a b :=
  ⟨k.ne, fun p hp => k.ok p ((h p).1 hp), (h a).2 k.fst, (h b).2 k.snd⟩
theorem Hull.mem {P Q H : List Pt} {s0 : Pt} (h : ∀ p, p ∈ Q ↔ p ∈ P) (k : Hull P H s0) : Hull Q H s0 :=
  ⟨k.first, k.two, fun i hi => (k.edge i hi).mem h, k.once⟩

/-- Points in their order, from below and then from the left. -/
def leB (a b : Pt) : Bool := decide (a.2 < b.2) || (decide (a.2 = b.2) && decide (a.1 ≤ b.1))
theorem leB_iff {a b : Pt} : leB a b = true ↔ leP a b := by
  obtain ⟨x, y⟩ := a
  obtain ⟨u, v⟩ := b
  unfold leB leP ltP
  simp only [Bool.or_eq_true, Bool.and_eq_true, decide_eq_true_eq, Prod.mk.injEq]
  omega

end Go.Proofs.Ytnijcdphmibjaaa
