/- Plain mathematics of convex hulls: what the chains make, and what wrapping finds. -/
import Derived.Test.YtnijcdphmibjaaaHullMath
namespace Go.Proofs.Ytnijcdphmibjaaa

def negP (p : Pt) : Pt := (-p.1, -p.2)
theorem negP_negP (p : Pt) : negP (negP p) = p := by unfold negP; simp
theorem negP_inj {p q : Pt} (h : negP p = negP q) : p = q := by rw [← negP_negP p, h, negP_negP]
theorem crossP_neg (a b c : Pt) : crossP (negP a) (negP b) (negP c) = crossP a b c := by unfold crossP cross negP; grind
theorem ltP_neg {a b : Pt} : ltP (negP a) (negP b) ↔ ltP b a := by unfold ltP negP; simp only; omega
theorem leP_neg {a b : Pt} : leP (negP a) (negP b) ↔ leP b a := by
  unfold leP
  rw [ltP_neg]
  constructor
  · rintro (h | h)
    · exact .inl (negP_inj h).symm
    · exact .inr h
  · rintro (h | h)
    · exact .inl (by rw [h])
    · exact .inr h
theorem onP_iff (a b p : Pt) : onP a b p = true ↔ al (b.1 - a.1) (b.2 - a.2) (p.1 - a.1) (p.2 - a.2) = 0 ∧ btw (p.1 - a.1) (b.1 - a.1) ∧ btw (p.2 - a.2) (b.2 - a.2) := by
  have key := on_iff a.1 a.2 (b.1 - a.1) (b.2 - a.2) (p.1 - a.1) (p.2 - a.2)
  rw [show a.1 + (b.1 - a.1) = b.1 by omega, show a.2 + (b.2 - a.2) = b.2 by omega, show a.1 + (p.1 - a.1) = p.1 by omega, show a.2 + (p.2 - a.2) = p.2 by omega] at key
  exact key
theorem onP_neg (a b p : Pt) : onP (negP a) (negP b) (negP p) = onP a b p := by
  rw [Bool.eq_iff_iff, onP_iff, onP_iff]
  unfold negP al btw
  simp only
  rw [show (-b.1 - -a.1) * (-p.2 - -a.2) - (-p.1 - -a.1) * (-b.2 - -a.2) = (b.1 - a.1) * (p.2 - a.2) - (p.1 - a.1) * (b.2 - a.2) by grind]
  omega
theorem LeftOn_neg {a b p : Pt} : LeftOn (negP a) (negP b) (negP p) ↔ LeftOn a b p := by unfold LeftOn; rw [crossP_neg, onP_neg]

theorem popW_neg (x : Pt) : ∀ st : List Pt, popW (negP x) (st.map negP) = (popW x st).map negP
  | [] => rfl
  | [_] => rfl
  | b :: a :: r => by
    have ih := popW_neg x (a :: r)
    simp only [List.map_cons, popW, crossP_neg] at ih ⊢
    split
    · exact ih
    · rfl
theorem chainW_neg (l : List Pt) : chainW (l.map negP) = (chainW l).map negP := by
  have key : ∀ (l st : List Pt), (l.map negP).foldl pushW (st.map negP) = (l.foldl pushW st).map negP := by
    intro l
    induction l with
    | nil => intro st; rfl
    | cons x l ih =>
      intro st
      simp only [List.map_cons, List.foldl_cons]
      rw [← ih]
      congr 1
      unfold pushW
      rw [popW_neg]; rfl
  exact key l []

/-- An edge of the hull. -/
structure Hedge (P : List Pt) (a b : Pt) : Prop where
  ne : a ≠ b
  ok : ∀ p ∈ P, LeftOn a b p
  fst : a ∈ P
  snd : b ∈ P

/-- A chain, forward: from one end to the other. -/
structure Fwd (P L : List Pt) (s t : Pt) : Prop where
  two : 2 ≤ L.length
  first : L[0]? = some s
  last : L[L.length - 1]? = some t
  edge : ∀ i a b, L[i]? = some a → L[i + 1]? = some b → Hedge P a b

theorem edges_at {R : Pt → Pt → Prop} : ∀ {st : List Pt}, (∀ e ∈ edges st, R e.1 e.2) → ∀ j a b, st[j + 1]? = some a → st[j]? = some b → R a b
  | [], _, _, _, _, h, _ => by simp at h
  | [_], _, _, _, _, h, _ => by simp at h
  | y :: x :: r, h, 0, a, b, h1, h2 => by
    obtain rfl : x = a := by simpa using h1
    obtain rfl : y = b := by simpa using h2
    exact h (x, y) (by simp [edges])
  | y :: x :: r, h, j + 1, a, b, h1, h2 =>
    edges_at (st := x :: r) (fun e he => h e (List.mem_cons_of_mem _ he)) j a b (by simpa using h1) (by simpa using h2)

theorem Fwd.of_edges {P st : List Pt} {s t : Pt} {r : List Pt} (h2 : 2 ≤ st.length) (ht : st = t :: r) (hs : st.getLast? = some s) (he : ∀ e ∈ edges st, Hedge P e.1 e.2) : Fwd P st.reverse s t := by
  have hl : st.reverse.length = st.length := List.length_reverse
  refine ⟨by omega, ?_, ?_, fun i a b ha hb => ?_⟩
  · rw [List.getElem?_reverse (by omega), Nat.sub_zero, ← List.getLast?_eq_getElem?]; exact hs
  · rw [hl, List.getElem?_reverse (by omega), show st.length - 1 - (st.length - 1) = 0 by omega, ht]; rfl
  · have hi : i + 1 < st.length := by
      have := (List.getElem?_eq_some_iff.1 hb).1; omega
    rw [List.getElem?_reverse (by omega)] at ha hb
    exact edges_at he (st.length - 1 - (i + 1)) a b (by rw [show st.length - 1 - (i + 1) + 1 = st.length - 1 - i by omega]; exact ha) hb

def hullL (s : List Pt) : List Pt := (chainW s).reverse.dropLast ++ (chainW s.reverse).reverse.dropLast

/-- What a hull is: its points in their order round it. -/
structure Hull (P H : List Pt) (s0 : Pt) : Prop where
  first : gt H 0 = s0
  two : 2 ≤ H.length
  edge : ∀ i, i < H.length → Hedge P (gt H i) (nx H i)
  once : ∀ i, 0 < i → i < H.length → gt H i ≠ s0

theorem gt_of {l : List Pt} {i : Nat} {p : Pt} (h : l[i]? = some p) : gt l i = p := by
  unfold gt; rw [List.getD_eq_getElem?_getD, h]; rfl

theorem Hull.join {P U D : List Pt} {s t : Pt} (hu : Fwd P U s t) (hd : Fwd P D t s) (hu1 : ∀ i a, 0 < i → U[i]? = some a → a ≠ s) (hd1 : ∀ i a, i + 1 < D.length → D[i]? = some a → a ≠ s) : Hull P (U.dropLast ++ D.dropLast) s := by
  have lu := hu.two
  have ld := hd.two
  have hlen : (U.dropLast ++ D.dropLast).length = (U.length - 1) + (D.length - 1) := by simp
  have gu : ∀ i, i < U.length - 1 → (U.dropLast ++ D.dropLast)[i]? = U[i]? := fun i hi => by
    rw [List.getElem?_append_left (by simpa using hi), List.getElem?_dropLast, if_pos hi]
  have gd : ∀ j, j < D.length - 1 → (U.dropLast ++ D.dropLast)[(U.length - 1) + j]? = D[j]? := fun j hj => by
    rw [List.getElem?_append_right (by simp), List.length_dropLast, Nat.add_sub_cancel_left, List.getElem?_dropLast, if_pos hj]
  have some_u : ∀ i, i < U.length → ∃ a, U[i]? = some a := fun i hi => ⟨U[i], List.getElem?_eq_getElem hi⟩
  have some_d : ∀ i, i < D.length → ∃ a, D[i]? = some a := fun i hi => ⟨D[i], List.getElem?_eq_getElem hi⟩
  have f0 : (U.dropLast ++ D.dropLast)[0]? = some s := by rw [gu 0 (by omega)]; exact hu.first
  have nxg : ∀ i, nx (U.dropLast ++ D.dropLast) i = gt (U.dropLast ++ D.dropLast) ((i + 1) % (U.dropLast ++ D.dropLast).length) := fun _ => rfl
  refine ⟨gt_of f0, by omega, fun i hi => ?_, fun i h0 hi => ?_⟩
  · rw [hlen] at hi
    rcases Nat.lt_or_ge i (U.length - 1) with g | g
    · obtain ⟨a, ha⟩ := some_u i (by omega)
      obtain ⟨b, hb⟩ := some_u (i + 1) (by omega)
      have e1 : gt (U.dropLast ++ D.dropLast) i = a := gt_of ((gu i g).trans ha)
      have e2 : nx (U.dropLast ++ D.dropLast) i = b := by
        rw [nxg, hlen, Nat.mod_eq_of_lt (by omega)]
        rcases Nat.lt_or_ge (i + 1) (U.length - 1) with q | q
        · exact gt_of ((gu _ q).trans hb)
        · have : i + 1 = U.length - 1 := by omega
          have h1 := gd 0 (by omega)
          rw [Nat.add_zero, ← this, hd.first] at h1
          rw [this, hu.last] at hb
          rw [gt_of h1]; exact Option.some.inj hb
      rw [e1, e2]
      exact hu.edge i a b ha hb
    · obtain ⟨j, rfl⟩ : ∃ j, i = (U.length - 1) + j := ⟨i - (U.length - 1), by omega⟩
      obtain ⟨a, ha⟩ := some_d j (by omega)
      obtain ⟨b, hb⟩ := some_d (j + 1) (by omega)
      have e1 : gt (U.dropLast ++ D.dropLast) ((U.length - 1) + j) = a := gt_of ((gd j (by omega)).trans ha)
      have e2 : nx (U.dropLast ++ D.dropLast) ((U.length - 1) + j) = b := by
        rw [nxg, hlen]
        rcases Nat.lt_or_ge (j + 1) (D.length - 1) with q | q
        · rw [Nat.mod_eq_of_lt (by omega)]
          exact gt_of ((gd (j + 1) q).trans hb)
        · have hj : j + 1 = D.length - 1 := by omega
          rw [show U.length - 1 + j + 1 = U.length - 1 + (D.length - 1) by omega, Nat.mod_self, gt_of f0]
          rw [hj, hd.last] at hb
          exact Option.some.inj hb
      rw [e1, e2]
      exact hd.edge j a b ha hb
  · rw [hlen] at hi
    rcases Nat.lt_or_ge i (U.length - 1) with g | g
    · obtain ⟨a, ha⟩ := some_u i (by omega)
      rw [gt_of ((gu i g).trans ha)]
      exact hu1 i a h0 ha
    · obtain ⟨j, rfl⟩ : ∃ j, i = (U.length - 1) + j := ⟨i - (U.length - 1), by omega⟩
      obtain ⟨a, ha⟩ := some_d j (by omega)
      rw [gt_of ((gd j (by omega)).trans ha)]
      exact hd1 j a (by omega) ha

/-- Along a chain the points rise. -/
theorem rises {P : List Pt} : ∀ {st : List Pt}, Chn P st → ∀ (j : Nat) (a b : Pt), st[j]? = some b → ∀ i : Nat, j < i → st[i]? = some a → ltP a b
  | [], _, _, _, _, h, _, _, _ => by simp at h
  | [_], _, j, a, b, h, i, hi, h' => by
    have h1 := (List.getElem?_eq_some_iff.1 h').1
    simp at h1; omega
  | y :: x :: r, hc, j, a, b, h, i, hi, h' => by
    obtain ⟨h1, h2, h3, h4⟩ := hc
    obtain ⟨i, rfl⟩ : ∃ i', i = i' + 1 := ⟨i - 1, by omega⟩
    rw [List.getElem?_cons_succ] at h'
    cases j with
    | zero =>
      obtain rfl : y = b := by simpa using h
      cases i with
      | zero =>
        obtain rfl : x = a := by simpa using h'
        exact h2
      | succ i => exact ltP_trans (rises h1 0 a x rfl (i + 1) (by omega) h') h2
    | succ j =>
      rw [List.getElem?_cons_succ] at h
      exact rises h1 j a b h i (by omega) h'

theorem sorted_neg {s : List Pt} (h : s.Pairwise leP) : (s.reverse.map negP).Pairwise leP := by
  rw [List.pairwise_map, List.pairwise_reverse]
  exact h.imp fun hab => leP_neg.2 hab

/-- The chain over a sorted list. -/
theorem chain_sorted {x : Pt} {l : List Pt} (hs : (x :: l).Pairwise leP) :
    ∃ Q, (∀ p, p ∈ Q ↔ p ∈ x :: l) ∧ (Same Q x (chainW (x :: l)) ∨ Good Q x (chainW (x :: l))) := by
  obtain ⟨h1, h2⟩ := List.pairwise_cons.1 hs
  obtain ⟨Q, hQ, hr⟩ := chain_ok l [x] x [x] (.inl ⟨by simp, by simp, .inl rfl⟩) (fun p hp y hy => by
    have : p = x := by simpa using hp
    subst this; exact h1 y hy) h2 (by simp)
  exact ⟨Q, fun p => by rw [hQ]; simp, hr⟩

theorem hedge_same {P Q : List Pt} (h : ∀ p, p ∈ Q ↔ p ∈ P) {a b : Pt} (k : Hedge Q a b) : Hedge P a b :=
  ⟨k.ne, fun p hp => k.ok p ((h p).2 hp), (h a).1 k.fst, (h b).1 k.snd⟩

/-- THE HULL OF SORTED POINTS. -/
theorem hull_ok {x : Pt} {l : List Pt} (hs : (x :: l).Pairwise leP) :
    ((∀ p ∈ x :: l, p = x) ∧ (hullL (x :: l)).length ≤ 2) ∨ Hull (x :: l) (hullL (x :: l)) x := by
  obtain ⟨Q, hQ, hr⟩ := chain_sorted hs
  obtain ⟨h1, h2⟩ := List.pairwise_cons.1 hs
  have hlow : ∀ p ∈ x :: l, leP x p := fun p hp => by
    rcases List.mem_cons.1 hp with rfl | hp
    · exact leP_refl _
    · exact h1 p hp
  cases hrev : (x :: l).reverse with
  | nil => simp at hrev
  | cons y m =>
    have hmem : ∀ p, p ∈ y :: m ↔ p ∈ x :: l := fun p => by rw [← hrev]; exact List.mem_reverse
    have hns := sorted_neg hs
    rw [hrev, List.map_cons] at hns
    obtain ⟨R, hR, hr2⟩ := chain_sorted hns
    rw [← List.map_cons, chainW_neg] at hr2
    have hR2 : ∀ p, negP p ∈ R ↔ p ∈ x :: l := fun p => by
      rw [hR, ← List.map_cons, List.mem_map]
      constructor
      · rintro ⟨q, hq, e⟩
        rw [← negP_inj e]; exact (hmem q).1 hq
      · intro h; exact ⟨p, (hmem p).2 h, rfl⟩
    have hhigh : ∀ p ∈ x :: l, leP p y := fun p hp => by
      have := (List.pairwise_cons.1 hns).1
      rcases List.mem_cons.1 ((hmem p).2 hp) with e | e
      · rw [e]; exact leP_refl _
      · exact leP_neg.1 (this (negP p) (List.mem_map.2 ⟨p, e, rfl⟩))
    have hy : y ∈ x :: l := (hmem y).1 (by simp)
    unfold hullL
    rw [hrev]
    rcases hr with hr | hr
    · left
      have hall : ∀ p ∈ x :: l, p = x := fun p hp => hr.1 p ((hQ p).2 hp)
      refine ⟨hall, ?_⟩
      have l1 : (chainW (x :: l)).length ≤ 2 := by rcases hr.2.2 with e | e <;> rw [e] <;> simp
      have l2 : (chainW (y :: m)).length ≤ 2 := by
        rcases hr2 with hr2 | hr2
        · have : ((chainW (y :: m)).map negP).length ≤ 2 := by rcases hr2.2.2 with e | e <;> rw [e] <;> simp
          simpa using this
        · exfalso
          have t2 := hr2.two
          have c := hr2.chn
          match hst : (chainW (y :: m)).map negP, c with
          | [], _ => rw [hst] at t2; simp at t2
          | [_], _ => rw [hst] at t2; simp at t2
          | b :: a :: r, c =>
            have sb := hr2.sub
            rw [hst] at sb
            have ea := hall (negP a) ((hR2 _).1 (by rw [negP_negP]; exact sb a (by simp)))
            have eb := hall (negP b) ((hR2 _).1 (by rw [negP_negP]; exact sb b (by simp)))
            have := c.2.1
            rw [negP_inj (ea.trans eb.symm)] at this
            exact ltP_irrefl _ this
      simp only [List.length_append, List.length_dropLast, List.length_reverse]
      omega
    · right
      obtain ⟨t, r, ht, htop⟩ := hr.top
      have hin := hr.sub
      have tty : t = y := leP_anti (hhigh t ((hQ t).1 (hin t (by rw [ht]; simp)))) (htop y ((hQ y).2 hy))
      have hu : Fwd (x :: l) (chainW (x :: l)).reverse x y := by
        refine Fwd.of_edges (r := r) hr.two (by rw [ht, tty]) hr.last fun e he => ?_
        obtain ⟨k1, k2⟩ := chn_edges hr.chn e he
        obtain ⟨k3, k4⟩ := edges_mem he
        exact ⟨fun q => ltP_irrefl _ (q ▸ k1), fun p hp => k2 p ((hQ p).2 hp), (hQ _).1 (hin _ k3), (hQ _).1 (hin _ k4)⟩
      have hr3 : Good R (negP y) ((chainW (y :: m)).map negP) := by
        rcases hr2 with hr2 | hr2
        · exfalso
          have hall : ∀ p ∈ x :: l, p = y := fun p hp => negP_inj (hr2.1 _ ((hR2 p).2 hp))
          have c := hr.chn
          match hst : chainW (x :: l), c with
          | [], _ => have := hr.two; rw [hst] at this; simp at this
          | [_], _ => have := hr.two; rw [hst] at this; simp at this
          | b :: a :: r, c =>
            rw [hst] at hin
            have ea := hall a ((hQ a).1 (hin a (by simp)))
            have eb := hall b ((hQ b).1 (hin b (by simp)))
            have := c.2.1
            rw [ea, eb] at this
            exact ltP_irrefl _ this
        · exact hr2
      have ed : ∀ e ∈ edges ((chainW (y :: m)).map negP), Hedge (x :: l) (negP e.1) (negP e.2) := fun e he => by
        obtain ⟨k1, k2⟩ := chn_edges hr3.chn e he
        obtain ⟨k3, k4⟩ := edges_mem he
        refine ⟨fun q => ltP_irrefl _ ((negP_inj q) ▸ k1), fun p hp => ?_, (hR2 _).1 (by rw [negP_negP]; exact hr3.sub _ k3), (hR2 _).1 (by rw [negP_negP]; exact hr3.sub _ k4)⟩
        have := k2 (negP p) ((hR2 p).2 hp)
        rw [← LeftOn_neg, negP_negP, negP_negP]
        exact this
      obtain ⟨t', r', ht', htop'⟩ := hr3.top
      have tx : negP t' = x := by
        have g1 : t' ∈ R := hr3.sub t' (by rw [ht']; simp)
        have g2 : negP t' ∈ x :: l := (hR2 _).1 (by rw [negP_negP]; exact g1)
        have g3 := htop' (negP x) ((hR2 x).2 (by simp))
        rw [← negP_negP t', leP_neg] at g3
        exact leP_anti g3 (hlow _ g2)
      have hd0 : Fwd (x :: l) (chainW (y :: m)).reverse y x := by
        have l2 : 2 ≤ (chainW (y :: m)).length := by simpa using hr3.two
        cases hst : chainW (y :: m) with
        | nil => rw [hst] at l2; simp at l2
        | cons b r2 =>
          have e1 : b = x := by
            have : negP b = t' := by rw [hst] at ht'; simpa using (List.cons.inj ht').1
            rw [← tx, ← this, negP_negP]
          have elast : (b :: r2).getLast? = some y := by
            have := hr3.last
            rw [hst, List.getLast?_map] at this
            cases e : (b :: r2).getLast? with
            | none => rw [e] at this; cases this
            | some q => rw [e] at this; rw [negP_inj (Option.some.inj this)]
          refine Fwd.of_edges (r := r2) (by rw [← hst]; exact l2) (by rw [e1]) elast fun e he => ?_
          have em : ∀ (st : List Pt) (e : Pt × Pt), e ∈ edges st → (negP e.1, negP e.2) ∈ edges (st.map negP) := by
            intro st
            induction st with
            | nil => intro e h; cases h
            | cons b st ih =>
              intro e h
              cases st with
              | nil => cases h
              | cons a st =>
                rcases List.mem_cons.1 h with rfl | h
                · simp [edges]
                · have := ih e h
                  simp only [List.map_cons] at this ⊢
                  exact List.mem_cons_of_mem _ this
          have := ed _ (by rw [hst]; exact em _ e he)
          simpa only [negP_negP] using this
      refine Hull.join hu hd0 (fun i a h0 ha => ?_) (fun i a hi ha => ?_)
      · have hl : (chainW (x :: l)).reverse.length = (chainW (x :: l)).length := List.length_reverse
        have hi : i < (chainW (x :: l)).length := by have := (List.getElem?_eq_some_iff.1 ha).1; omega
        rw [List.getElem?_reverse hi] at ha
        have hlast := hr.last
        rw [List.getLast?_eq_getElem?] at hlast
        intro e
        rw [e] at ha
        exact ltP_irrefl _ (rises hr.chn _ x x ha ((chainW (x :: l)).length - 1) (by omega) hlast)
      · have hl : (chainW (y :: m)).reverse.length = (chainW (y :: m)).length := List.length_reverse
        rw [hl] at hi
        rw [List.getElem?_reverse (by omega)] at ha
        intro e
        have hch := hr3.chn
        have h0 : ((chainW (y :: m)).map negP)[0]? = some t' := by rw [ht']; rfl
        have hj : ((chainW (y :: m)).map negP)[(chainW (y :: m)).length - 1 - i]? = some (negP a) := by rw [List.getElem?_map, ha]; rfl
        have := rises hch 0 (negP a) t' h0 _ (by omega) hj
        rw [e, ← tx, negP_negP] at this
        exact ltP_irrefl _ this

end Go.Proofs.Ytnijcdphmibjaaa
