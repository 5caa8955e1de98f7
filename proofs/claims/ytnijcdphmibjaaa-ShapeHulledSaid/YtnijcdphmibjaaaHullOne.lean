/- Shape: hulls of lists with the same points; what ShapeHulled asks of them. -/
import Derived.Test.YtnijcdphmibjaaaHullWhere
import Derived.Test.YtnijcdphmibjaaaHullTop
import Derived.Test.YtnijcdphmibjaaaWhereTop
namespace Go.Proofs.Ytnijcdphmibjaaa

theorem gt_mem {l : List Pt} {i : Nat} (h : i < l.length) : gt l i ∈ l := by
  rw [gt_of (List.getElem?_eq_getElem h)]; exact List.getElem_mem h
theorem low_le {l : List Pt} {p : Pt} (h : p ∈ l) : leP (lowTo l l.length) p := by
  obtain ⟨i, hi, e⟩ := List.getElem_of_mem h
  have := lowTo_le l l.length i hi
  rwa [gt_of (List.getElem?_eq_getElem hi), e] at this

theorem hull_facts {l s : List Pt} (hp : s.Perm l) (hs : s.Pairwise leP) (h0 : (0, 0) ∈ l) (h1 : (1, 0) ∈ l) (h2 : (0, 1) ∈ l) :
    3 ≤ (hullL s).length ∧ ∃ s0, Hull l (hullL s) s0 ∧ ∀ p ∈ l, leP s0 p := by
  have hl : 0 < l.length := List.length_pos_of_mem h0
  obtain ⟨a, b⟩ := hull_both hl hp hs
  cases hf : flatTo l l.length
  · refine ⟨?_, _, b hf, fun p hp => low_le hp⟩
    rcases Nat.lt_or_ge (hullL s).length 3 with g | g
    · rw [a.2 g] at hf; cases hf
    · exact g
  · exfalso
    have := ((flatTo_iff hl).1 hf).all h0 h1 h2
    unfold crossP cross at this
    omega

theorem hull_other {P K Q t : List Pt} {k0 : Pt} (h : Hull P K k0) (hlow : ∀ p ∈ P, leP k0 p) (h3 : 3 ≤ K.length) (hQ : ∀ p, p ∈ Q ↔ p ∈ P) (hp : t.Perm Q) (hs : t.Pairwise leP) : hullL t = K := by
  have hk0 : k0 ∈ P := by
    have := (h.edge 0 (by omega)).fst
    rwa [h.first] at this
  have hl : 0 < Q.length := List.length_pos_of_mem ((hQ k0).2 hk0)
  obtain ⟨a, b⟩ := hull_both hl hp hs
  cases hf : flatTo Q Q.length
  · have hh := (b hf).mem (P := Q) (Q := P) (fun p => (hQ p).symm)
    have hm : lowTo Q Q.length ∈ P := (hQ _).1 (lowTo_mem hl _ (Nat.le_refl _))
    have e : lowTo Q Q.length = k0 := leP_anti (low_le ((hQ _).2 hk0)) (hlow _ hm)
    rw [e] at hh
    exact hull_unique hh h
  · exfalso
    have hflat := (flatTo_iff hl).1 hf
    have : Flat P (gt Q 0) := fun x hx y hy => hflat x ((hQ x).2 hx) y ((hQ y).2 hy)
    have := (hull_flat h ((hQ _).1 (gt_mem hl))).1 this
    omega

/-- A hull as an argument. -/
theorem hull_poly {P H : List Pt} {s0 : Pt} (h : Hull P H s0) (h3 : 3 ≤ H.length) (hok : P.all okP = true) (hlen : P.length ≤ 32) : polyB H = true := by
  unfold polyB
  rw [Bool.and_eq_true]
  refine ⟨List.all_eq_true.2 fun p hp => List.all_eq_true.1 hok p (hull_sub h hp), ?_⟩
  have := hull_length h
  rw [inB_true]
  omega

theorem convexB_simple {l : List Pt} (h : convexB l = true) : simpleB l = true := by
  unfold convexB at h
  rw [Bool.and_eq_true] at h
  exact h.1

theorem hull_simpE {H : List Pt} (hp : polyB H = true) (hc : convexB H = true) : simpE H = 0 := by
  have := convexB_simple hc
  rcases simpE_cases H with h | h | h
  · rw [hp] at h; cases h.2
  · have := h.2; simp_all
  · exact h.1

/-- Where finds all points inside or on the edges. -/
theorem hull_whereX {P H : List Pt} {s0 p : Pt} (h : Hull P H s0) (hlow : ∀ p ∈ P, leP s0 p) (h3 : 3 ≤ H.length) (hok : P.all okP = true) (hlen : P.length ≤ 32) (hp : p ∈ P) :
    (whereX H p = 0 ∨ whereX H p = 1) ∧ whereE H p = 0 := by
  have e0 := hull_simpE (hull_poly h h3 hok hlen) (hull_convex h h3 hlow)
  have ev : validB p.1 p.2 10000 = true := List.all_eq_true.1 hok p hp
  refine ⟨?_, ?_⟩
  · unfold whereX
    rw [if_pos ⟨e0, ev⟩, ← where_same]
    exact hull_where h hlow hp
  · unfold whereE
    rw [if_pos e0, if_pos ev]

end Go.Proofs.Ytnijcdphmibjaaa
