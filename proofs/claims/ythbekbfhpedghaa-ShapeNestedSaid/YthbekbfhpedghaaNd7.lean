/- Parts of the proof, one after the other: ConvOf, NestTop, PtsFold, Lives4, HulledLaw, PtsLim, NestedParts, RefNest, PlSame. -/
import Derived.Test.YthbekbfhpedghaaNd6
import Derived.Test.YthbekbfhpedghaaNd3
import Derived.Test.YthbekbfhpedghaaEngD
import Derived.Test.YthbekbfhpedghaaChecked
import Derived.KernelRfl
import Derived.Test.YthbekbfhpedghaaNd5
import Derived.Test.YthbekbfhpedghaaNd4
import Derived.StillTailTactics
import Derived.Laws.StructEq
import Derived.BigQuiet
import Derived.Lib.QuietBelow
/- Shape: what both programs call convex in normal form is a convex polygon. -/
namespace Go.Proofs.Ythbekbfhpedghaa

theorem onP_neg3 (a b p : Pt) : onP (negP a) (negP b) (negP p) = onP a b p := onP_neg a b p
theorem meetP_neg (a b c d : Pt) : meetP (negP a) (negP b) (negP c) (negP d) = meetP a b c d := by
  have o : ∀ a b c : Pt, onB (negP a).1 (negP a).2 (negP b).1 (negP b).2 (negP c).1 (negP c).2 = onB a.1 a.2 b.1 b.2 c.1 c.2 := fun a b c => onP_neg a b c
  have k : ∀ a b c : Pt, cross (negP a).1 (negP a).2 (negP b).1 (negP b).2 (negP c).1 (negP c).2 = cross a.1 a.2 b.1 b.2 c.1 c.2 := fun a b c => crossP_neg a b c
  unfold meetP meetB
  rw [o, o, o, o, k, k, k, k]

/-- The end of a run. -/
theorem run_end (R : Nat → Prop) (n : Nat) (hn : ¬ R n) : ∀ m i, n - i = m → i ≤ n → ∃ j, i ≤ j ∧ j ≤ n ∧ (∀ k, i ≤ k → k < j → R k) ∧ ¬ R j
  | 0, i, hm, hi => ⟨i, Nat.le_refl _, hi, fun k h1 h2 => by omega, by rw [show i = n by omega]; exact hn⟩
  | m + 1, i, hm, hi => by
    by_cases h : R i
    · obtain ⟨j, j1, j2, j3, j4⟩ := run_end R n hn m (i + 1) (by omega) (by omega)
      refine ⟨j, by omega, j2, fun k h1 h2 => ?_, j4⟩
      by_cases e : k = i
      · rw [e]; exact h
      · exact j3 k (by omega) h2
    · exact ⟨i, Nat.le_refl _, hi, fun k h1 h2 => by omega, h⟩

/-- A polygon by its corners: what the two programs ask of it. -/
structure TurnV (l : List Pt) : Prop where
  three : 3 ≤ l.length
  simp_ : SimpleV l
  turn : ∀ i, 0 < crossP (vtx l i) (vtx l (i + 1)) (vtx l (i + 1 + 1))
  low : ∀ i, i < l.length → 0 < i → ltP (vtx l 0) (vtx l i)

theorem turnV {l : List Pt} (h3 : 3 ≤ l.length) (h : convexB l = true) : TurnV l := by
  have hs := convexB_simple h
  unfold convexB at h
  rw [Bool.and_eq_true, List.all_eq_true] at h
  have at_ : ∀ i, i < l.length → convexAt l i = true := fun i hi => h.2 i (List.mem_range.2 hi)
  refine ⟨h3, (simpleV l).1 hs, fun i => ?_, fun i hi h0 => ?_⟩
  · have hm : i % l.length < l.length := Nat.mod_lt _ (by omega)
    have k := at_ (i % l.length) hm
    unfold convexAt at k
    rw [Bool.and_eq_true] at k
    have k1 := k.1
    rw [Bool.not_eq_true', decide_eq_false_iff_not] at k1
    rw [← vtx_lt hm, vtx_nx, vtx_nx, vtx_mod, vtx_mod1] at k1
    have e : vtx l (i % l.length + 1 + 1) = vtx l (i + 1 + 1) := by
      unfold vtx
      rw [Nat.add_assoc, Nat.mod_add_mod]
    rw [e] at k1
    omega
  · have k := at_ i hi
    unfold convexAt at k
    rw [Bool.and_eq_true, Bool.or_eq_true] at k
    rcases k.2 with q | q
    · simp at q; omega
    · rw [vtx_lt hi, vtx_lt (show 0 < l.length by omega)]
      exact firstP_iff.1 q

theorem TurnV.ends {l : List Pt} (h : TurnV l) : vtx l l.length = vtx l 0 := by have := vtx_add l 0; rwa [Nat.zero_add] at this
theorem TurnV.edge {l : List Pt} (h : TurnV l) {i : Nat} (hi : i < l.length) : ltP (vtx l i) (vtx l (i + 1)) ∨ ltP (vtx l (i + 1)) (vtx l i) := by
  rcases leP_total (vtx l i) (vtx l (i + 1)) with q | q
  · rcases q with e | q
    · exact absurd e (h.simp_.ne i hi)
    · exact .inl q
  · exact .inr q
theorem TurnV.first {l : List Pt} (h : TurnV l) : ltP (vtx l 0) (vtx l 1) := h.low 1 (by have := h.three; omega) (by omega)
theorem TurnV.last {l : List Pt} (h : TurnV l) : ltP (vtx l l.length) (vtx l (l.length - 1)) := by
  rw [h.ends]; exact h.low _ (by have := h.three; omega) (by have := h.three; omega)
theorem TurnV.apart {l : List Pt} (h : TurnV l) {i k : Nat} (h2 : i + 2 ≤ k) (hk : k < l.length) (h0 : 0 < i ∨ k + 1 < l.length) : meetP (vtx l i) (vtx l (i + 1)) (vtx l k) (vtx l (k + 1)) = false := by
  refine h.simp_.hit i k h2 hk ?_
  by_cases e : k + 1 = l.length
  · rw [e, Nat.mod_self]; omega
  · rw [Nat.mod_eq_of_lt (by omega)]; omega
theorem TurnV.at_ {l : List Pt} (h : TurnV l) {b : Nat} (hb : 0 < b) : 0 < crossP (vtx l (b - 1)) (vtx l b) (vtx l (b + 1)) := by
  have := h.turn (b - 1)
  rwa [show b - 1 + 1 = b by omega] at this

/-- No spiral comes back to the lowest corner. -/
theorem no_spiral {l : List Pt} (h : TurnV l) : ∀ m a b c, l.length - c ≤ m → a < b → b < c → c < l.length → (∀ i, a ≤ i → i < b → ltP (vtx l i) (vtx l (i + 1))) → (∀ i, b ≤ i → i < c → ltP (vtx l (i + 1)) (vtx l i)) →
    ltP (vtx l c) (vtx l (c + 1)) → ltP (vtx l a) (vtx l c) → False
  | 0, a, b, c, hm, _, _, hc, _, _, _, _ => by omega
  | m + 1, a, b, c, hm, hab, hbc, hc, r1, f1, up, hac => by
    have three := h.three
    have hl := h.last
    -- up to the next top
    obtain ⟨d, d1, d2, d3, d4⟩ := run_end (fun i => ltP (vtx l i) (vtx l (i + 1))) (l.length - 1) (by
      rw [show l.length - 1 + 1 = l.length by omega]
      exact fun q => ltP_asymm q hl) _ c rfl (by omega)
    have hcd : c < d := by
      rcases Nat.lt_or_eq_of_le d1 with q | q
      · exact q
      · rw [← q] at d4; exact absurd up d4
    have down : ltP (vtx l (d + 1)) (vtx l d) := (h.edge (show d < l.length by omega)).resolve_left d4
    have top := lower_top (v := vtx l) hab hbc hcd r1 f1 d3 (h.at_ (by omega)) (h.at_ (by omega)) (fun i k h1 h2 h3 => h.apart h2 (by omega) (.inr (by omega))) hac
    -- down to the next low one
    obtain ⟨e, e1, e2, e3, e4⟩ := run_end (fun i => i < l.length ∧ ltP (vtx l (i + 1)) (vtx l i)) l.length (fun q => by omega) _ d rfl (by omega)
    have hde : d < e := by
      rcases Nat.lt_or_eq_of_le e1 with q | q
      · exact q
      · rw [← q] at e4; exact absurd ⟨by omega, down⟩ e4
    have low := lower_top (v := fun i => negP (vtx l i)) (a := b) (b := c) (c := d) (d := e) hbc hcd hde
      (fun i h1 h2 => ltP_neg.2 (f1 i h1 h2)) (fun i h1 h2 => ltP_neg.2 (d3 i h1 h2)) (fun i h1 h2 => ltP_neg.2 (e3 i h1 h2).2)
      (by rw [crossP_neg]; exact h.at_ (by omega)) (by rw [crossP_neg]; exact h.at_ (by omega))
      (fun i k h1 h2 h3 => by rw [meetP_neg]; exact h.apart h2 (by omega) (.inl (by omega))) (ltP_neg.2 top)
    have low : ltP (vtx l c) (vtx l e) := ltP_neg.1 low
    rcases Nat.lt_or_eq_of_le e2 with q | q
    · have up2 : ltP (vtx l e) (vtx l (e + 1)) := by
        rcases h.edge q with k | k
        · exact k
        · exact absurd ⟨q, k⟩ e4
      exact no_spiral h m c d e (by omega) hcd hde q d3 (fun i h1 h2 => (e3 i h1 h2).2) up2 low
    · rw [q, h.ends] at low
      exact ltP_asymm low (h.low c hc (by omega))

/-- Up once, and down once. -/
theorem TurnV.once {l : List Pt} (h : TurnV l) : ∃ b, 0 < b ∧ b < l.length ∧ (∀ i, i < b → ltP (vtx l i) (vtx l (i + 1))) ∧ ∀ i, b ≤ i → i < l.length → ltP (vtx l (i + 1)) (vtx l i) := by
  have three := h.three
  have hl := h.last
  obtain ⟨b, b1, b2, b3, b4⟩ := run_end (fun i => ltP (vtx l i) (vtx l (i + 1))) (l.length - 1) (by
    rw [show l.length - 1 + 1 = l.length by omega]
    exact fun q => ltP_asymm q hl) _ 0 rfl (by omega)
  have hb : 0 < b := by
    rcases Nat.lt_or_eq_of_le b1 with q | q
    · exact q
    · rw [← q] at b4; exact absurd h.first b4
  have down : ltP (vtx l (b + 1)) (vtx l b) := (h.edge (show b < l.length by omega)).resolve_left b4
  obtain ⟨c, c1, c2, c3, c4⟩ := run_end (fun i => i < l.length ∧ ltP (vtx l (i + 1)) (vtx l i)) l.length (fun q => by omega) _ b rfl (by omega)
  have hbc : b < c := by
    rcases Nat.lt_or_eq_of_le c1 with q | q
    · exact q
    · rw [← q] at c4; exact absurd ⟨by omega, down⟩ c4
  rcases Nat.lt_or_eq_of_le c2 with q | q
  · exfalso
    have up2 : ltP (vtx l c) (vtx l (c + 1)) := by
      rcases h.edge q with k | k
      · exact k
      · exact absurd ⟨q, k⟩ c4
    exact no_spiral h _ 0 b c (Nat.le_refl _) hb hbc q (fun i _ h2 => b3 i (by omega) h2) (fun i h1 h2 => (c3 i h1 h2).2) up2 (h.low c q (by omega))
  · exact ⟨b, hb, by omega, fun i hi => b3 i (by omega) hi, fun i h1 h2 => (c3 i h1 (by omega)).2⟩

def ngP (p : Pt) : Pt := negP p
theorem xr_neg2 (u v : Pt) : xr (negP u) (negP v) = xr u v := by unfold xr negP; grind
theorem xr_negR (u v : Pt) : xr u (negP v) = - xr u v := by unfold xr negP; grind
theorem xr_negL (u v : Pt) : xr (negP u) v = - xr u v := by unfold xr negP; grind

/-- Vectors that turn to the left all the way, in one half plane: each later one is to the left of each earlier one. -/
theorem up_chain {U : Nat → Pt} {s t : Nat} (hu : ∀ k, s ≤ k → k ≤ t → Up (U k)) (hx : ∀ k, s ≤ k → k < t → 0 < xr (U k) (U (k + 1))) : ∀ k, s < k → k ≤ t → 0 < xr (U s) (U k)
  | 0, h, _ => by omega
  | k + 1, h, hk => by
    by_cases e : s = k
    · rw [← e]; exact hx s (Nat.le_refl _) (by omega)
    · have ih := up_chain hu hx k (by omega) (by omega)
      exact xr_trans1 (hu s (Nat.le_refl _) (by omega)) (hu k (by omega) (by omega)) (hu (k + 1) (by omega) hk) ih (by have := hx k (by omega) (by omega); omega)

/-- One round of vectors, each to the left of the one before: what is to the right of the first one stays so. -/
theorem round_once {U : Nat → Pt} {s t n : Nat} (h0 : 0 < s) (hst : s ≤ t) (htn : t ≤ n) (hn : U n = U 0) (hx : ∀ k, k < n → 0 < xr (U k) (U (k + 1)))
    (u1 : ∀ k, k < s → Up (U k)) (u2 : ∀ k, s ≤ k → k < t → Up (negP (U k))) (u3 : ∀ k, t ≤ k → k < n → Up (U k)) {k : Nat} (hk0 : 0 < k) (hk : k + 1 < n) (hle : xr (U 0) (U k) ≤ 0) : xr (U 0) (U (k + 1)) ≤ 0 := by
  have U0 : Up (U 0) := u1 0 h0
  have u3' : ∀ k, t ≤ k → k ≤ n → Up (U k) := fun k h1 h2 => by
    by_cases e : k = n
    · rw [e, hn]; exact U0
    · exact u3 k h1 (by omega)
  have last : ∀ j, t ≤ j → j < n → xr (U 0) (U j) < 0 := fun j h1 h2 => by
    have := up_chain (U := U) (s := j) (t := n) (fun k a b => u3' k (by omega) b) (fun k a b => hx k b) n h2 (Nat.le_refl _)
    rw [hn, xr_swap] at this
    omega
  rcases Nat.lt_or_ge k s with g | g
  · exfalso
    have := up_chain (U := U) (s := 0) (t := k) (fun j _ b => u1 j (by omega)) (fun j _ b => hx j (by omega)) k hk0 (Nat.le_refl _)
    omega
  · rcases Nat.lt_or_ge (k + 1) t with g2 | g2
    · have := xr_trans2 U0 (u2 k g (by omega)) (u2 (k + 1) (by omega) g2) (by rw [xr_negR]; omega) (by rw [xr_neg2]; exact hx k (by omega))
      rw [xr_negR] at this
      omega
    · have := last (k + 1) g2 hk
      omega

/-- What rises and then falls back to where it began is never below. -/
theorem hill {g S : Nat → Int} {N : Nat} (hS0 : S 0 = 0) (hS : ∀ k, k < N → S (k + 1) = S k + g k) (hN : S N = 0) (h0 : 0 < g 0) (hl : g (N - 1) < 0) (hst : ∀ k, 0 < k → k + 1 < N → g k ≤ 0 → g (k + 1) ≤ 0) {k : Nat} (hk0 : 0 < k) (hk : k < N) : 0 < S k := by
  have last : 0 < S (N - 1) := by
    have := hS (N - 1) (by omega)
    rw [show N - 1 + 1 = N by omega] at this
    omega
  apply Classical.byContradiction
  intro hno
  -- from there on it only falls
  have key : ∀ j, k ≤ j → j < N → S j ≤ 0 ∧ (j < N - 1 → g j ≤ 0) ∨ S j ≤ 0 := fun _ _ _ => by
    rename_i j h1 h2
    exact .inr (by
      -- the step into the first such place went down
      have first : ∃ m, 0 < m ∧ m ≤ k ∧ S m ≤ 0 ∧ g (m - 1) ≤ 0 := by
        have : ∀ m, 0 < m → S m ≤ 0 → m < N → ∃ m', 0 < m' ∧ m' ≤ m ∧ S m' ≤ 0 ∧ g (m' - 1) ≤ 0 := by
          intro m
          induction m with
          | zero => intro h; omega
          | succ m ih =>
            intro _ hm hN'
            have e := hS m (by omega)
            by_cases z : m = 0
            · subst z; rw [hS0] at e; omega
            · by_cases p : S m ≤ 0
              · obtain ⟨m', a, b, c⟩ := ih (by omega) p (by omega)
                exact ⟨m', a, by omega, c⟩
              · exact ⟨m + 1, by omega, Nat.le_refl _, hm, by rw [Nat.add_sub_cancel]; omega⟩
        exact this k hk0 (by omega) hk
      obtain ⟨m, m1, m2, m3, m4⟩ := first
      have m0 : m ≠ 1 := fun e => by rw [e] at m4; simp at m4; omega
      have fall : ∀ j, m ≤ j → j < N → g (j - 1) ≤ 0 ∧ S j ≤ 0 := by
        intro j
        induction j with
        | zero => intro h; omega
        | succ j ih =>
          intro h1 h2
          by_cases e : m = j + 1
          · subst e; exact ⟨m4, m3⟩
          · obtain ⟨a, b⟩ := ih (by omega) (by omega)
            have c := hst (j - 1) (by omega) (by omega) a
            rw [show j - 1 + 1 = j by omega] at c
            have e2 := hS j (by omega)
            rw [Nat.add_sub_cancel]
            exact ⟨c, by omega⟩
      exact (fall j (by omega) h2).2)
  have := key (N - 1) (by omega) (by omega)
  omega

/-- CONVEX IN NORMAL FORM. -/
theorem conv_of_convexB {l : List Pt} (h3 : 3 ≤ l.length) (hc : convexB l = true) : Conv l (gt l 0) := by
  have h := turnV h3 hc
  obtain ⟨b, hb, hbn, hr, hf⟩ := h.once
  have per : ∀ i, vtx l (i + l.length) = vtx l i := fun i => vtx_add l i
  have evp : ∀ i, ev l (i + l.length) = ev l i := fun i => by
    unfold ev
    rw [vtx_add, show i + l.length + 1 = i + 1 + l.length by omega, vtx_add]
  have evx : ∀ i, 0 < xr (ev l i) (ev l (i + 1)) := fun i => by
    have := h.turn i
    rw [crossP_xr2] at this
    exact this
  have upr : ∀ i, i < b → Up (ev l i) := fun i hi => up_sub.2 (hr i hi)
  have upf : ∀ i, b ≤ i → i < l.length → Up (negP (ev l i)) := fun i h1 h2 => by
    have := up_sub.2 (hf i h1 h2)
    have e : subP (vtx l i) (vtx l (i + 1)) = negP (ev l i) := by unfold ev subP negP; simp only [Prod.mk.injEq]; omega
    rwa [e] at this
  -- each edge has all corners to its left, or on it
  have left : ∀ i, i < l.length → ∀ k, 0 < k → k < l.length - 1 → 0 < crossP (vtx l i) (vtx l (i + 1)) (vtx l (i + 1 + k)) := fun i hi k hk0 hk => by
    have hst : ∀ k, 0 < k → k + 1 < l.length → xr (ev l i) (ev l (i + k)) ≤ 0 → xr (ev l i) (ev l (i + (k + 1))) ≤ 0 := by
      by_cases g : i < b
      · intro k h1 h2 h3
        exact round_once (U := fun k => ev l (i + k)) (s := b - i) (t := l.length - i) (n := l.length) (by omega) (by omega) (by omega) (by simpa using evp i) (fun k _ => evx (i + k))
          (fun k hk => upr (i + k) (by omega)) (fun k h1 h2 => upf (i + k) (by omega) (by omega))
          (fun k h1 h2 => by
            show Up (ev l (i + k))
            rw [show i + k = (i + k - l.length) + l.length by omega, evp]
            exact upr _ (by omega)) h1 h2 h3
      · intro k h1 h2 h3
        have r := round_once (U := fun k => negP (ev l (i + k))) (s := l.length - i) (t := l.length - i + b) (n := l.length) (by omega) (by omega) (by omega) (by
            show negP (ev l (i + l.length)) = negP (ev l (i + 0))
            rw [evp, Nat.add_zero]) (fun k _ => by
            show 0 < xr (negP (ev l (i + k))) (negP (ev l (i + (k + 1))))
            rw [xr_neg2]; exact evx (i + k))
          (fun k hk => upf (i + k) (by omega) (by omega)) (fun k h1 h2 => by
            show Up (negP (negP (ev l (i + k))))
            rw [negP_negP, show i + k = (i + k - l.length) + l.length by omega, evp]
            exact upr _ (by omega))
          (fun k h1 h2 => by
            show Up (negP (ev l (i + k)))
            rw [show i + k = (i + k - l.length) + l.length by omega, evp]
            exact upf _ (by omega) (by omega)) h1 h2 (by
            show xr (negP (ev l (i + 0))) (negP (ev l (i + k))) ≤ 0
            rw [xr_neg2]; exact h3)
        have r : xr (negP (ev l (i + 0))) (negP (ev l (i + (k + 1)))) ≤ 0 := r
        rw [xr_neg2] at r
        exact r
    have e : crossP (vtx l i) (vtx l (i + 1)) (vtx l (i + 1 + k)) = xr (ev l i) (subP (vtx l (i + 1 + k)) (vtx l (i + 1))) := crossP_xr2 _ _ _
    rw [e]
    refine hill (S := fun k => xr (ev l i) (subP (vtx l (i + 1 + k)) (vtx l (i + 1)))) (g := fun k => xr (ev l i) (ev l (i + 1 + k))) (N := l.length - 1) ?_ (fun k _ => ?_) ?_ ?_ ?_ (fun k h1 h2 h3 => ?_) hk0 hk
    · show xr (ev l i) (subP (vtx l (i + 1)) (vtx l (i + 1))) = 0
      unfold xr subP; grind
    · show xr (ev l i) (subP (vtx l (i + 1 + k + 1)) (vtx l (i + 1))) = xr (ev l i) (subP (vtx l (i + 1 + k)) (vtx l (i + 1))) + xr (ev l i) (subP (vtx l (i + 1 + k + 1)) (vtx l (i + 1 + k)))
      rw [subP_add, subP_add, subP_add]; omega
    · show xr (ev l i) (subP (vtx l (i + 1 + (l.length - 1))) (vtx l (i + 1))) = 0
      rw [show i + 1 + (l.length - 1) = i + l.length by omega, vtx_add]
      unfold ev xr subP; grind
    · exact evx i
    · show xr (ev l i) (ev l (i + 1 + (l.length - 1 - 1))) < 0
      have := evx (i + (l.length - 1))
      rw [show i + (l.length - 1) + 1 = i + l.length by omega, evp, xr_swap] at this
      rw [show i + 1 + (l.length - 1 - 1) = i + (l.length - 1) by omega]
      omega
    · have := hst (k + 1) (by omega) (by omega) (by rw [show i + (k + 1) = i + 1 + k by omega]; exact h3)
      rw [show i + (k + 1 + 1) = i + 1 + (k + 1) by omega] at this
      exact this
  have hedge : ∀ i, i < l.length → Hedge l (vtx l i) (vtx l (i + 1)) := fun i hi => by
    refine ⟨h.simp_.ne i hi, fun p hp => ?_, vtx_mem (by omega) i, vtx_mem (by omega) (i + 1)⟩
    obtain ⟨m, hm, rfl⟩ := List.getElem_of_mem hp
    have em : l[m] = vtx l m := by rw [vtx_lt hm, gt_of (List.getElem?_eq_getElem hm)]
    -- its place behind the edge
    obtain ⟨k, hk, ek⟩ : ∃ k, k < l.length ∧ vtx l m = vtx l (i + 1 + k) := by
      by_cases g : i + 1 ≤ m
      · exact ⟨m - (i + 1), by omega, by rw [show i + 1 + (m - (i + 1)) = m by omega]⟩
      · exact ⟨m + l.length - (i + 1), by omega, by rw [show i + 1 + (m + l.length - (i + 1)) = m + l.length by omega, vtx_add]⟩
    rw [em, ek]
    by_cases k0 : k = 0
    · subst k0
      right
      rw [Nat.add_zero, ← onP_turn, onP_start]
    · by_cases k1 : k = l.length - 1
      · right
        rw [show i + 1 + k = i + l.length by omega, vtx_add, onP_start]
      · exact .inl (left i hi k (by omega) (by omega))
  refine ⟨⟨rfl, by omega, fun i hi => ?_, fun i h0 hi e => ?_⟩, h3, fun p hp => ?_⟩
  · have := hedge i hi
    rwa [vtx_lt hi, ← vtx_nx] at this
  · have := h.low i hi h0
    rw [vtx_lt hi, vtx_lt (show 0 < l.length by omega), e] at this
    exact ltP_irrefl _ this
  · obtain ⟨m, hm, rfl⟩ := List.getElem_of_mem hp
    by_cases e : m = 0
    · subst e; rw [gt_of (List.getElem?_eq_getElem hm)]; exact leP_refl _
    · have := h.low m hm (by omega)
      rw [vtx_lt hm, vtx_lt (show 0 < l.length by omega), gt_of (List.getElem?_eq_getElem hm)] at this
      exact .inr this

end Go.Proofs.Ythbekbfhpedghaa

/- Package shape's Nest. -/
namespace Go.Proofs.Ythbekbfhpedghaa
open Go.RowKit Go.Sort
attribute [local go_sem ↓] run_min_mn run_max_mx Go.wp_at_zero Go.wp_at_succ

theorem conv_shape {l : List Pt} (h : conE l = 0) : ShapeOk l := by
  obtain ⟨h1, h2⟩ := conE_zero h
  unfold polyB at h1
  rw [Bool.and_eq_true, inB_true] at h1
  exact ⟨⟨_, conv_of_convexB (by omega) h2⟩, by omega, h1.1⟩
theorem convsE_all : ∀ {L : List (List Pt)}, convsE L = 0 → ∀ l ∈ L, conE l = 0
  | [], _, l, h => by cases h
  | a :: L, h, l, hl => by
    have h : (if conE a = 0 then convsE L else conE a) = 0 := h
    by_cases e : conE a = 0
    · rw [if_pos e] at h
      rcases List.mem_cons.1 hl with rfl | hl
      · exact e
      · exact convsE_all h l hl
    · rw [if_neg e] at h; exact absurd h e

theorem checkConvexA_any (A : Option Addr) (n c : Nat) (L : List (List Pt)) (w : World) (hl : L.length = n) (hn' : n ≤ 1000) (hx : PolysAt w A L) :
    Calls Try.prog 16 #[.slice A n c] w fun e w' => e = .returned (.int .i64 (convsE L)) ∧ Below w.heap.size w w' := by
  by_cases h : L = []
  · subst h
    obtain rfl : 0 = n := hl
    show Calls _ _ _ w fun e w' => e = .returned (.int .i64 0) ∧ _
    clear hx
    go_enter Try.func16, Try.ntmps16
    go_wp2
    refine wp_loop_rounds 1 ?_
    rw [rounds_succ]
    go_wp2
    go_ret
    exact ⟨rfl, Below.refl _ _⟩
  · obtain ⟨b, off, rfl, h1, h2⟩ := hx h
    exact checkConvex_any b off n c L w hl hn' h2 h1

/-- What Nest says. -/
def nestE (W H : Int) (L : List (List Pt)) : Int := if (1 ≤ W ∧ W ≤ 100) ∧ (1 ≤ H ∧ H ≤ 100) ∧ L.length ≤ 16 then convsE L else 1
theorem nestE_cases (W H : Int) (L : List (List Pt)) : nestE W H L = 1 ∨ nestE W H L = 2 ∨ nestE W H L = 0 := by
  unfold nestE
  split
  · rename_i hh; clear hh
    induction L with
    | nil => exact .inr (.inr rfl)
    | cons l L ih =>
      have e : convsE (l :: L) = if conE l = 0 then convsE L else conE l := rfl
      rw [e]
      rcases conE_cases l with h | h | h
      · rw [if_neg (by omega)]; exact .inl h.1
      · rw [if_neg (by omega)]; exact .inr (.inl h.1)
      · rw [if_pos h.1]; exact ih
  · exact .inl rfl
def NestXTo (W H : Int) (L : List (List Pt)) (w : World) (e : Ending) (w' : World) : Prop :=
  Below w.heap.size w w' ∧ ((nestE W H L ≠ 0 ∧ e = .returned (.tuple #[.slice none 0 0, .int .i64 (nestE W H L)])) ∨
    (nestE W H L = 0 ∧ ∃ v, e = .returned (.tuple #[v, .int .i64 0]) ∧ PlOwn w' w.heap.size v (nestTo W H L L.length).out))

set_option maxRecDepth 100000 in
set_option maxHeartbeats 4000000 in
theorem nestX_any (hS : SortsPts) (hR : ReversesPts) (A : Option Addr) (m d : Nat) (L : List (List Pt)) (W H : Int) (w : World) (hm : L.length = m) (hm' : m ≤ 1000) (hx : PolysAt w A L) :
    Calls Try.prog 6 #[.int .i64 W, .int .i64 H, .slice A m d] w (NestXTo W H L w) := by
  have bad : ¬ ((1 ≤ W ∧ W ≤ 100) ∧ (1 ≤ H ∧ H ≤ 100) ∧ m ≤ 16) → nestE W H L = 1 := fun h => by unfold nestE; rw [hm, if_neg h]
  have good : ((1 ≤ W ∧ W ≤ 100) ∧ (1 ≤ H ∧ H ≤ 100) ∧ m ≤ 16) → nestE W H L = convsE L := fun h => by unfold nestE; rw [hm, if_pos h]
  by_cases g1 : W < 1
  · have E := Lib.hid (bad (by omega))
    clear bad good hx hm
    go_enter Try.func6, Try.ntmps6
    go_wp2
    go_ret2
    exact ⟨Below.refl _ _, .inl ⟨by rw [E.out]; decide, by rw [E.out]; rfl⟩⟩
  by_cases g2 : 100 < W
  · have E := Lib.hid (bad (by omega))
    clear bad good hx hm
    go_enter Try.func6, Try.ntmps6
    go_wp2
    go_ret2
    exact ⟨Below.refl _ _, .inl ⟨by rw [E.out]; decide, by rw [E.out]; rfl⟩⟩
  by_cases g3 : H < 1
  · have E := Lib.hid (bad (by omega))
    clear bad good hx hm
    go_enter Try.func6, Try.ntmps6
    go_wp2
    go_ret2
    exact ⟨Below.refl _ _, .inl ⟨by rw [E.out]; decide, by rw [E.out]; rfl⟩⟩
  by_cases g4 : 100 < H
  · have E := Lib.hid (bad (by omega))
    clear bad good hx hm
    go_enter Try.func6, Try.ntmps6
    go_wp2
    go_ret2
    exact ⟨Below.refl _ _, .inl ⟨by rw [E.out]; decide, by rw [E.out]; rfl⟩⟩
  by_cases g5 : 16 < m
  · have E := Lib.hid (bad (by omega))
    clear bad good hx hm
    go_enter Try.func6, Try.ntmps6
    go_wp2
    go_ret2
    exact ⟨Below.refl _ _, .inl ⟨by rw [E.out]; decide, by rw [E.out]; rfl⟩⟩
  have E := Lib.hid (good (by omega))
  have CK := Lib.hid (checkConvexA_any A m d L w hm (by omega) hx)
  have cs := nestE_cases W H L
  rw [E.out] at cs
  have NS := fun (V : World) (hV : Below w.heap.size w V) (h0 : convsE L = 0) => Lib.hid (nest_any hS hR A m d L W H V hm (by omega) (hx.below hV) (fun l hl => conv_shape (convsE_all h0 l hl)) (by omega) (by omega))
  clear bad good hx hm
  generalize convsE L = z at *
  rcases cs with rfl | rfl | rfl
  · go_enter Try.func6, Try.ntmps6
    go_wp2_with fail
    refine (CK.out).mono ?_
    rintro e w1 ⟨rfl, hb1⟩
    go_wp2_with fail
    go_ret2
    exact ⟨hb1, .inl ⟨by rw [E.out]; decide, by rw [E.out]; rfl⟩⟩
  · go_enter Try.func6, Try.ntmps6
    go_wp2_with fail
    refine (CK.out).mono ?_
    rintro e w1 ⟨rfl, hb1⟩
    go_wp2_with fail
    go_ret2
    exact ⟨hb1, .inl ⟨by rw [E.out]; decide, by rw [E.out]; rfl⟩⟩
  · go_enter Try.func6, Try.ntmps6
    go_wp2_with fail
    refine (CK.out).mono ?_
    rintro e w1 ⟨rfl, hb1⟩
    go_wp2_with fail
    refine ((NS _ hb1 trivial).out).mono ?_
    rintro e w2 ⟨v, rfl, ho, hb2⟩
    have HB := Lib.hid (hb1.trans (hb2.mono hb1.size))
    have HO := Lib.hid (ho.low hb1.size)
    clear hb2 ho
    go_wp2_with fail
    go_ret2
    exact ⟨HB.out, .inr ⟨E.out, v, rfl, HO.out⟩⟩
end Go.Proofs.Ythbekbfhpedghaa

/- Shape: the law's points: any points, with coordinates up to a limit. -/
namespace Go.Proofs.Ythbekbfhpedghaa
open Go.RowKit Go.Sort
attribute [local go_sem ↓] run_min_mn run_max_mx

/-- A point's rest. -/
def tmP (p : Pt) : Pt := (p.1.tmod 10001, p.2.tmod 10001)
def foldL (xs : List Pt) : List Pt := xs.map tmP
theorem foldL_length (xs : List Pt) : (foldL xs).length = xs.length := by simp [foldL]
theorem tmod_bd (x : Int) : -10000 ≤ x.tmod 10001 ∧ x.tmod 10001 ≤ 10000 := by
  have a := Int.tmod_lt_of_pos x (b := 10001) (by omega)
  have b := Int.lt_tmod_of_pos x (b := 10001) (by omega)
  omega

def PointsTo (w : World) (l : List Pt) (e : Ending) (w' : World) : Prop := ∃ v, e = .returned v ∧ PtsOwn w' w.heap.size v l ∧ Below w.heap.size w w'

set_option maxRecDepth 100000 in
set_option maxHeartbeats 2000000 in
theorem points_any (A : Option Addr) (n c : Nat) (xs : List Pt) (w : World) (hn : xs.length = n) (hbig : n ≤ 9223372036854775807) (hx : PtsAt w A xs) (hw : ∀ x ∈ xs, (-9223372036854775808 ≤ x.1 ∧ x.1 ≤ 9223372036854775807) ∧ (-9223372036854775808 ≤ x.2 ∧ x.2 ≤ 9223372036854775807)) :
    Calls Try.prog 25 #[.slice A n c, .int .i64 10000, .int .i64 20] w (PointsTo w (foldL (xs.take 20))) := by
  have HN := Lib.hid hn
  have HX := Lib.hid hx
  have HW := Lib.hid hw
  clear hn hx hw
  go_enter Try.func25, Try.ntmps25
  go_wp2
  go_loopw [7, 8] (fun o i wr => ∃ k : Nat, k ≤ n ∧ k ≤ 20 ∧ i = .int .i64 k ∧ PtsOwn wr w.heap.size o (foldL (xs.take k)) ∧ Below w.heap.size w wr) (fun _ i _ => 20 - (intOf i).toNat)
  case atStart => exact ⟨0, Nat.zero_le _, by omega, rfl, by simpa [foldL] using PtsOwn.empty w, (Below.refl _ _).alloc (Nat.le_refl _) _⟩
  case round =>
    obtain ⟨k, hk, hk20, rfl, hown, hbr⟩ := hrel
    have HO := Lib.hid hown
    have HB := Lib.hid hbr
    have hsz := hbr.size
    clear hown
    by_cases hlt : k < n ∧ k < 20
    · obtain ⟨hlt, hlt2⟩ := hlt
      have hkl : k < xs.length := by rw [HN.out]; exact hlt
      obtain ⟨b, off, rfl, hb, hin⟩ := HX.out (by intro e; subst e; simp at hkl)
      obtain ⟨h1, h2⟩ := (hin.below hbr hb) k _ (List.getElem?_eq_getElem hkl)
      obtain ⟨⟨d3, d4⟩, d5, d6⟩ := HW.out _ (List.getElem_mem hkl)
      have HNX : Hid (foldL (xs.take (k + 1)) = foldL (xs.take k) ++ [tmP xs[k]]) := Lib.hid (by
        rw [List.take_succ_eq_append_getElem hkl]; unfold foldL; rw [List.map_append]; rfl)
      have HLN : Hid ((foldL (xs.take k)).length ≤ 100) := Lib.hid (by rw [foldL_length, List.length_take]; omega)
      generalize xs[k] = p at *
      generalize foldL (xs.take k) = cur at *
      obtain ⟨x, y⟩ := p
      replace d3 : -9223372036854775808 ≤ x := d3
      replace d4 : x ≤ 9223372036854775807 := d4
      replace d5 : -9223372036854775808 ≤ y := d5
      replace d6 : y ≤ 9223372036854775807 := d6
      have ne1 : u7.ownBlock ≠ some b := fun e => by have := (HO.out.base b e).1; omega
      have hB : b < wr.heap.size := by omega
      clear hin
      have l1 : b < (wr.alloc (.cells #[.int .i64 (x.tmod 10001), .int .i64 (y.tmod 10001)] 37)).drew.heap.size := by simp; omega
      have k1 : (wr.alloc (.cells #[.int .i64 (x.tmod 10001), .int .i64 (y.tmod 10001)] 37)).drew.cell? ⟨b, off + k * 2, none⟩ = some (.int .i64 x) := (World.cell?_alloc_lt wr _ ⟨b, _, none⟩ hB).trans h1
      have k2 : (wr.alloc (.cells #[.int .i64 (x.tmod 10001), .int .i64 (y.tmod 10001)] 37)).drew.cell? ⟨b, off + k * 2 + 1, none⟩ = some (.int .i64 y) := (World.cell?_alloc_lt wr _ ⟨b, _, none⟩ hB).trans h2
      have hlim : IntKind.i64.wrap 10001 = 10001 := by decide
      have hlim2 : IntKind.i64.wrap (10000 + 1) = 10001 := by decide
      have r1 : IntKind.i64.wrap (x.tmod 10001) = x.tmod 10001 := by have := tmod_bd x; rw [IntKind.wrap_i64]; omega
      have r2 : IntKind.i64.wrap (y.tmod 10001) = y.tmod 10001 := by have := tmod_bd y; rw [IntKind.wrap_i64]; omega
      go_wp2_with fail
      go_region_held3 (fun w' => w'.cell? ⟨b, off + k * 2, none⟩ = some (.int .i64 x) ∧ w'.cell? ⟨b, off + k * 2 + 1, none⟩ = some (.int .i64 y))
        (first
          | go_keep
          | exact ⟨(hgrow.cell_far _ l1 (Ne.symm ne1)).trans k1, (hgrow.cell_far _ l1 (Ne.symm ne1)).trans k2⟩)
        ((refine step_papp (by rfl) _ _ (by rfl) w.heap.size _ cur [(x.tmod 10001, y.tmod 10001)] (some ⟨wr.heap.size, 0, none⟩) 1 1 (by rfl) (by rfl) ((HO.out.alloc _).drew) rfl (PtsAt.one wr _ _) (by have := HLN.out; simp; omega) (by simp; omega) ?_; intro v1 w2 hown1 hgrow hat))
      have HO2 : Hid (PtsOwn w2 w.heap.size v1 (foldL (xs.take (k + 1)))) := Lib.hid (by rw [HNX.out]; exact hown1)
      have HB2 : Hid (Below w.heap.size w w2) := Lib.hid ((hbr.alloc (by omega) _).drew.grown hgrow (by simp; omega) (fun k hk => (HO.out.base k hk).1))
      clear hown1 hgrow hat k1 k2 l1 r1 r2
      go_wp2_with fail
      go_roundw
      case rel => exact ⟨k + 1, by omega, by omega, by go_num, HO2.out, HB2.out⟩
      case measure => simp [intOf]; omega
    · have HF : Hid (foldL (xs.take k) = foldL (xs.take 20)) := Lib.hid (by
        rcases Nat.lt_or_ge k 20 with g | g
        · rw [List.take_of_length_le (by rw [HN.out]; omega), List.take_of_length_le (by rw [HN.out]; omega)]
        · rw [show k = 20 by omega])
      by_cases g : k < n
      · have g20 : k = 20 := by omega
        go_wp2_with fail
        go_ret
        exact ⟨_, rfl, by rw [← HF.out]; exact HO.out, HB.out⟩
      · go_wp2_with fail
        go_ret
        exact ⟨_, rfl, by rw [← HF.out]; exact HO.out, HB.out⟩

end Go.Proofs.Ythbekbfhpedghaa

/- The run of layer 4's lives: at every start it hands back true, and of what was there nothing turns. -/
namespace Go.Proofs.Ythbekbfhpedghaa
open Go.RowKit (Below)

theorem eng_names : Eng.namesB Try.prog = true := by kernel_rfl
theorem eng_none (f : FuncId) (e : Array Value → Sem Value) (h : (Try.prog.funcs[f]?).isNone = true) : Eng.Entry Try.prog f e := ⟨fun fn h' => by rw [h'] at h; cases h⟩
noncomputable def eng_prims : Eng.Base := Eng.bareOf 1000000 1000001 1000002
theorem eng_ok {ro : Eng.Lo} : Eng.ProgOk Try.prog ro eng_prims :=
  Eng.progOk Try.checked.mixed eng_names (eng_none _ _ (by kernel_rfl)) (eng_none _ _ (by kernel_rfl)) (eng_none _ _ (by kernel_rfl))

theorem lives4_run : Eng.isTrue (Eng.call Try.prog (Eng.lo 0) eng_prims 100000 8 [] (Eng.heapOf [] .nil) 0) = true := by kernel_rfl

theorem lives4_any (w : World) :
    Calls Try.prog 8 #[] w fun e w' => e = .returned (.bool true) ∧ Below w.heap.size w w' :=
  Eng.runs_true (tabs := []) eng_ok lives4_run (by simp) Try.func8 (by kernel_rfl) (Nat.zero_le _) (Nat.le_refl _) (by intro p hp; cases hp) (by simp [Eng.relL])

end Go.Proofs.Ythbekbfhpedghaa
#print axioms Go.Proofs.Ythbekbfhpedghaa.lives4_any

/- ShapeHulled: the law's walk. -/
namespace Go.Proofs.Ythbekbfhpedghaa
open Go.RowKit Go.Sort

theorem hfold_any (v : Int) (n : Nat) (w : World) (_ : -9223372036854775808 ≤ v ∧ v ≤ 9223372036854775807) (hn : 1 ≤ n ∧ n ≤ 100000) :
    Calls Try.prog 14 #[.int .i64 v, .int .i64 n] w fun e w' => ∃ r : Nat, r < n ∧ e = .returned (.int .i64 r) ∧ w = w' := by
  have h1 : -(n : Int) < v.tmod n ∧ v.tmod n < n := by
    have a := Int.tmod_lt_of_pos v (b := (n : Int)) (by omega)
    have b := Int.lt_tmod_of_pos v (b := (n : Int)) (by omega)
    exact ⟨b, a⟩
  obtain ⟨h2, h3⟩ := h1
  have hr : ∃ r : Nat, r < n ∧ (v.tmod n + n) % n = r := by
    have a := Int.emod_nonneg (v.tmod n + n) (b := (n : Int)) (by omega)
    have b := Int.emod_lt_of_pos (v.tmod n + n) (b := (n : Int)) (by omega)
    exact ⟨((v.tmod n + n) % n).toNat, by omega, by omega⟩
  obtain ⟨r, hr1, hr2⟩ := hr
  have HR := Lib.hid hr2
  clear hr2
  go_enter Try.func14, Try.ntmps14
  go_wp2
  go_ret
  exact ⟨r, hr1, ret_int (HR.out), rfl⟩

theorem PtsIn.drop {w : World} {b off : Nat} {l : List Pt} (h : PtsIn w b off l) (k : Nat) : PtsIn w b (off + k * 2) (l.drop k) := fun i p hp => by
  have := h (k + i) p (by rw [List.getElem?_drop] at hp; exact hp)
  rw [show off + k * 2 + i * 2 = off + (k + i) * 2 by omega]
  exact this
theorem hull_again {P K Q : List Pt} {k0 : Pt} (h : Hull P K k0) (hlow : ∀ p ∈ P, leP k0 p) (h3 : 3 ≤ K.length) (hQ : ∀ p, p ∈ Q ↔ p ∈ P) (hok : P.all okP = true) (hlen : Q.length ≤ 32) {w w' : World} {e : Ending} (hc : HullXTo Q w e w') :
    ∃ v, e = .returned (.tuple #[v, .int .i64 0]) ∧ PtsOwn w' w.heap.size v K ∧ Below w.heap.size w w' := by
  obtain ⟨hb, hc⟩ := hc
  have hk0 : k0 ∈ P := by
    have := (h.edge 0 (by omega)).fst
    rwa [h.first] at this
  have h1 : 1 ≤ Q.length := List.length_pos_of_mem ((hQ k0).2 hk0)
  have hp : ptsB Q 1 = true := ptsB_1.2 ⟨h1, hlen, List.all_eq_true.2 fun p hp => List.all_eq_true.1 hok p ((hQ p).1 hp)⟩
  rcases hc with ⟨q, _⟩ | ⟨_, t, ht, hs, q⟩
  · rw [hp] at q; cases q
  · have e := hull_other h hlow h3 hQ ht hs
    rw [e] at q
    rcases q with ⟨q, _⟩ | ⟨_, v, ev, ho⟩
    · omega
    · exact ⟨v, ev, ho, hb⟩
theorem rot_mem (l : List Pt) (r : Nat) (p : Pt) : p ∈ [] ++ l.drop r ++ l.take r ↔ p ∈ l := by
  rw [List.nil_append, List.mem_append]
  constructor
  · rintro (h | h)
    · exact List.mem_of_mem_drop h
    · exact List.mem_of_mem_take h
  · intro h
    rw [← List.take_append_drop r l, List.mem_append] at h
    exact h.symm
def memB (l : List Pt) (t : Nat) (p : Pt) : Bool := (l.take t).any fun z => eqP z p
theorem memB_succ {l : List Pt} {t : Nat} (h : t < l.length) (p : Pt) : memB l (t + 1) p = (memB l t p || eqP l[t] p) := by
  unfold memB
  rw [List.take_succ_eq_append_getElem h, List.any_append]
  simp
theorem memB_all {l : List Pt} {p : Pt} (h : p ∈ l) {t : Nat} (ht : l.length ≤ t) : memB l t p = true := by
  unfold memB
  rw [List.take_of_length_le ht, List.any_eq_true]
  exact ⟨p, h, by simp [eqP, eqI]⟩
def triL : List Pt := [(0, 0), (1, 0), (0, 1)]
theorem tri_at (w : World) : PtsAt (w.alloc (.cells #[.int .i64 0, .int .i64 0, .int .i64 1, .int .i64 0, .int .i64 0, .int .i64 1] 37)) (some ⟨w.heap.size, 0, none⟩) triL := fun _ =>
  ⟨w.heap.size, 0, rfl, by simp, PtBlk.pts (l := triL) (show PtBlk _ _ triL from heap_alloc_new _ _)⟩
theorem fold_ok (xs : List Pt) : (foldL xs).all okP = true := List.all_eq_true.2 fun p hp => by
  unfold foldL at hp
  obtain ⟨q, _, rfl⟩ := List.mem_map.1 hp
  have a := tmod_bd q.1
  have b := tmod_bd q.2
  unfold okP validB tmP
  simp only [inB]
  simp
  omega

end Go.Proofs.Ythbekbfhpedghaa

/- Shape: the law's points up to a limit, nine at most; the law's hull of them and three more. -/
namespace Go.Proofs.Ythbekbfhpedghaa
open Go.RowKit Go.Sort
attribute [local go_sem ↓] run_min_mn run_max_mx

def tmL (L : Int) (p : Pt) : Pt := (p.1.tmod (L + 1), p.2.tmod (L + 1))
def foldLim (L : Int) (xs : List Pt) : List Pt := xs.map (tmL L)
theorem foldLim_length (L : Int) (xs : List Pt) : (foldLim L xs).length = xs.length := by simp [foldLim]
theorem tmodL_bd {L : Int} (h : 0 ≤ L) (x : Int) : -L ≤ x.tmod (L + 1) ∧ x.tmod (L + 1) ≤ L := by
  have a := Int.tmod_lt_of_pos x (b := L + 1) (by omega)
  have b := Int.lt_tmod_of_pos x (b := L + 1) (by omega)
  omega

set_option maxRecDepth 100000 in
set_option maxHeartbeats 2000000 in
theorem pointsL_any (L : Int) (hL : 1 ≤ L ∧ L ≤ 10000) (A : Option Addr) (n c : Nat) (xs : List Pt) (w : World) (hn : xs.length = n) (hbig : n ≤ 9223372036854775807) (hx : PtsAt w A xs) (hw : ∀ x ∈ xs, (-9223372036854775808 ≤ x.1 ∧ x.1 ≤ 9223372036854775807) ∧ (-9223372036854775808 ≤ x.2 ∧ x.2 ≤ 9223372036854775807)) :
    Calls Try.prog 25 #[.slice A n c, .int .i64 L, .int .i64 9] w (PointsTo w (foldLim L (xs.take 9))) := by
  have HN := Lib.hid hn
  have HX := Lib.hid hx
  have HW := Lib.hid hw
  clear hn hx hw
  obtain ⟨hL1, hL2⟩ := hL
  have hlim : IntKind.i64.wrap (L + 1) = L + 1 := by rw [IntKind.wrap_i64]; omega
  have hne : ¬ L + 1 = 0 := by omega
  go_enter Try.func25, Try.ntmps25
  go_wp2
  go_loopw [7, 8] (fun o i wr => ∃ k : Nat, k ≤ n ∧ k ≤ 9 ∧ i = .int .i64 k ∧ PtsOwn wr w.heap.size o (foldLim L (xs.take k)) ∧ Below w.heap.size w wr) (fun _ i _ => 9 - (intOf i).toNat)
  case atStart => exact ⟨0, Nat.zero_le _, by omega, rfl, by simpa [foldLim] using PtsOwn.empty w, (Below.refl _ _).alloc (Nat.le_refl _) _⟩
  case round =>
    obtain ⟨k, hk, hk9, rfl, hown, hbr⟩ := hrel
    have HO := Lib.hid hown
    have HB := Lib.hid hbr
    have hsz := hbr.size
    clear hown
    by_cases hlt : k < n ∧ k < 9
    · obtain ⟨hlt, hlt2⟩ := hlt
      have hkl : k < xs.length := by rw [HN.out]; exact hlt
      obtain ⟨b, off, rfl, hb, hin⟩ := HX.out (by intro e; subst e; simp at hkl)
      obtain ⟨h1, h2⟩ := (hin.below hbr hb) k _ (List.getElem?_eq_getElem hkl)
      obtain ⟨⟨d3, d4⟩, d5, d6⟩ := HW.out _ (List.getElem_mem hkl)
      have HNX : Hid (foldLim L (xs.take (k + 1)) = foldLim L (xs.take k) ++ [tmL L xs[k]]) := Lib.hid (by
        rw [List.take_succ_eq_append_getElem hkl]; unfold foldLim; rw [List.map_append]; rfl)
      have HLN : Hid ((foldLim L (xs.take k)).length ≤ 100) := Lib.hid (by rw [foldLim_length, List.length_take]; omega)
      generalize xs[k] = p at *
      generalize foldLim L (xs.take k) = cur at *
      obtain ⟨x, y⟩ := p
      replace d3 : -9223372036854775808 ≤ x := d3
      replace d4 : x ≤ 9223372036854775807 := d4
      replace d5 : -9223372036854775808 ≤ y := d5
      replace d6 : y ≤ 9223372036854775807 := d6
      have ne1 : u7.ownBlock ≠ some b := fun e => by have := (HO.out.base b e).1; omega
      have hB : b < wr.heap.size := by omega
      clear hin
      have l1 : b < (wr.alloc (.cells #[.int .i64 (x.tmod (L + 1)), .int .i64 (y.tmod (L + 1))] 37)).drew.heap.size := by simp; omega
      have k1 : (wr.alloc (.cells #[.int .i64 (x.tmod (L + 1)), .int .i64 (y.tmod (L + 1))] 37)).drew.cell? ⟨b, off + k * 2, none⟩ = some (.int .i64 x) := (World.cell?_alloc_lt wr _ ⟨b, _, none⟩ hB).trans h1
      have k2 : (wr.alloc (.cells #[.int .i64 (x.tmod (L + 1)), .int .i64 (y.tmod (L + 1))] 37)).drew.cell? ⟨b, off + k * 2 + 1, none⟩ = some (.int .i64 y) := (World.cell?_alloc_lt wr _ ⟨b, _, none⟩ hB).trans h2
      have r1 : IntKind.i64.wrap (x.tmod (L + 1)) = x.tmod (L + 1) := by have := tmodL_bd (L := L) (by omega) x; rw [IntKind.wrap_i64]; omega
      have r2 : IntKind.i64.wrap (y.tmod (L + 1)) = y.tmod (L + 1) := by have := tmodL_bd (L := L) (by omega) y; rw [IntKind.wrap_i64]; omega
      go_wp2_with fail
      go_region_held3 (fun w' => w'.cell? ⟨b, off + k * 2, none⟩ = some (.int .i64 x) ∧ w'.cell? ⟨b, off + k * 2 + 1, none⟩ = some (.int .i64 y))
        (first
          | go_keep
          | exact ⟨(hgrow.cell_far _ l1 (Ne.symm ne1)).trans k1, (hgrow.cell_far _ l1 (Ne.symm ne1)).trans k2⟩)
        ((refine step_papp (by rfl) _ _ (by rfl) w.heap.size _ cur [(x.tmod (L + 1), y.tmod (L + 1))] (some ⟨wr.heap.size, 0, none⟩) 1 1 (by rfl) (by rfl) ((HO.out.alloc _).drew) rfl (PtsAt.one wr _ _) (by have := HLN.out; simp; omega) (by simp; omega) ?_; intro v1 w2 hown1 hgrow hat))
      have HO2 : Hid (PtsOwn w2 w.heap.size v1 (foldLim L (xs.take (k + 1)))) := Lib.hid (by rw [HNX.out]; exact hown1)
      have HB2 : Hid (Below w.heap.size w w2) := Lib.hid ((hbr.alloc (by omega) _).drew.grown hgrow (by simp; omega) (fun k hk => (HO.out.base k hk).1))
      clear hown1 hgrow hat k1 k2 l1 r1 r2
      go_wp2_with fail
      go_roundw
      case rel => exact ⟨k + 1, by omega, by omega, by go_num, HO2.out, HB2.out⟩
      case measure => simp [intOf]; omega
    · have HF : Hid (foldLim L (xs.take k) = foldLim L (xs.take 9)) := Lib.hid (by
        rcases Nat.lt_or_ge k 9 with g | g
        · rw [List.take_of_length_le (by rw [HN.out]; omega), List.take_of_length_le (by rw [HN.out]; omega)]
        · rw [show k = 9 by omega])
      by_cases g : k < n
      · have g9 : k = 9 := by omega
        go_wp2_with fail
        go_ret
        exact ⟨_, rfl, by rw [← HF.out]; exact HO.out, HB.out⟩
      · go_wp2_with fail
        go_ret
        exact ⟨_, rfl, by rw [← HF.out]; exact HO.out, HB.out⟩

/-- A polygon that is convex in normal form, of at most twelve corners, with coordinates up to a limit. -/
structure Poly (L : Int) (m : Nat) (H : List Pt) (h0 : Pt) : Prop where
  conv : Conv H h0
  bd : ∀ p ∈ H, (-L ≤ p.1 ∧ p.1 ≤ L) ∧ (-L ≤ p.2 ∧ p.2 ≤ L)
  len : H.length ≤ m

def LawHullTo (L : Int) (w : World) (e : Ending) (w' : World) : Prop :=
  ∃ v H h0, e = .returned v ∧ PtsOwn w' w.heap.size v H ∧ Poly L 12 H h0 ∧ Below w.heap.size w w'

set_option maxRecDepth 100000 in
set_option maxHeartbeats 4000000 in
theorem lawHull_any (L : Int) (hL : 1 ≤ L ∧ L ≤ 10000) (A : Option Addr) (n c : Nat) (xs : List Pt) (w : World) (hn : xs.length = n) (hbig : n ≤ 9223372036854775807) (hx : PtsAt w A xs) (hw : ∀ x ∈ xs, (-9223372036854775808 ≤ x.1 ∧ x.1 ≤ 9223372036854775807) ∧ (-9223372036854775808 ≤ x.2 ∧ x.2 ≤ 9223372036854775807)) :
    Calls Try.prog 11 #[.slice A n c, .int .i64 L] w (LawHullTo L w) := by
  have K := Lib.hid (pointsL_any L hL A n c xs w hn hbig hx hw)
  have hl0 : (foldLim L (xs.take 9)).length ≤ 9 := by rw [foldLim_length, List.length_take]; omega
  have HBL : Hid (∀ p ∈ foldLim L (xs.take 9), (-L ≤ p.1 ∧ p.1 ≤ L) ∧ (-L ≤ p.2 ∧ p.2 ≤ L)) := Lib.hid fun p hp => by
    unfold foldLim at hp
    obtain ⟨q, _, rfl⟩ := List.mem_map.1 hp
    exact ⟨tmodL_bd (by omega) q.1, tmodL_bd (by omega) q.2⟩
  clear hn hbig hx hw
  generalize foldLim L (xs.take 9) = l0 at *
  go_enter Try.func11, Try.ntmps11
  go_wp2_with fail
  refine (K.out).mono ?_
  rintro e w1 ⟨v, rfl, hown, hb1⟩
  have HO := Lib.hid hown
  have HB1 := Lib.hid hb1
  have hs1 := hb1.size
  clear hown hb1 K
  go_wp2_with (at_builtin; refine wpList_papp rfl _ _ rfl w.heap.size v l0 triL (some ⟨w1.heap.size, 0, none⟩) 3 3 rfl rfl (HO.out.alloc _) rfl (tri_at w1) (by simp [triL]; omega) (by simp; omega) ?_; intro v2 w2 ho hg hat; have HG := Lib.hid hg; have HO2 := Lib.hid ho; clear ho hg hat)
  have hm3 : (l0 ++ triL).length = l0.length + 3 := by simp [triL]
  have t0 : (0, 0) ∈ l0 ++ triL := by simp [triL]
  have t1 : (1, 0) ∈ l0 ++ triL := by simp [triL]
  have t2 : (0, 1) ∈ l0 ++ triL := by simp [triL]
  have HBD : Hid (∀ p ∈ l0 ++ triL, (-L ≤ p.1 ∧ p.1 ≤ L) ∧ (-L ≤ p.2 ∧ p.2 ≤ L)) := Lib.hid fun p hp => by
    rcases List.mem_append.1 hp with h | h
    · exact HBL.out p h
    · simp only [triL, List.mem_cons, List.not_mem_nil, or_false] at h
      rcases h with rfl | rfl | rfl <;> simp only <;> omega
  have HB2 : Hid (Below w.heap.size w w2) := Lib.hid ((HB1.out.alloc hs1 _).grown HG.out (by simp; omega) (fun k hk => (HO.out.base k hk).1))
  clear HO HG HB1 HBL hs1
  generalize l0 ++ triL = l at *
  have hml : l.length ≤ 12 := by omega
  have hml3 : 3 ≤ l.length := by omega
  clear hm3 hl0
  obtain ⟨s, hperm, hsort⟩ := sort_of l
  obtain ⟨h3, s0, hH, hlow⟩ := hull_facts hperm hsort t0 t1 t2
  have hlowto : lowTo l l.length = s0 := by
    have hs0 : s0 ∈ l := by
      have := (hH.edge 0 (by omega)).fst
      rwa [hH.first] at this
    exact leP_anti (low_le hs0) (hlow _ (lowTo_mem (by omega) _ (Nat.le_refl _)))
  have hflat : flatTo l l.length = false := by
    obtain ⟨a, _⟩ := hull_both (by omega) hperm hsort
    cases hf : flatTo l l.length
    · rfl
    · have := a.1 hf; omega
  have HP : Hid (Poly L 12 (hullL s) s0) := Lib.hid ⟨conv_of hH hlow h3, fun p hp => HBD.out p (hull_sub hH hp), Nat.le_trans (hull_length hH) hml⟩
  have hHl := hull_length hH
  have HBd : Hid (∀ x ∈ l, Bd x) := Lib.hid fun x hx => by
    have := HBD.out x hx
    unfold Bd; omega
  generalize hullL s = H at *
  generalize hm : l.length = m at *
  obtain ⟨g, cc, rfl, hcc, hg, hgl, hin⟩ := HO2.out.row hm (by omega)
  have KR := Lib.hid (refHull_any g 0 m cc l H w2 hm (by omega) (by omega) hin hgl HBd.out (fun _ => by rw [hlowto]; exact hH) (by omega))
  have HF := Lib.hid hflat
  have HM := Lib.hid hm
  clear hin HO2 t0 t1 t2 hperm hsort hH hlow hlowto hflat hm h3 HBd HBD
  go_wp2_with fail
  refine (KR.out).mono ?_
  rintro e w3 ⟨hb3, hc⟩
  obtain ⟨v3, rfl, ho3⟩ : ∃ v, e = .returned (.tuple #[v, .bool true]) ∧ PtsOwn w3 w2.heap.size v H := by
    rcases hc with ⟨q, _⟩ | ⟨_, q⟩
    · rw [HM.out, HF.out] at q; cases q
    · exact q
  have HO3 := Lib.hid (ho3.low HB2.out.size)
  have HB3 := Lib.hid (HB2.out.trans (hb3.mono HB2.out.size))
  clear hc hb3 ho3 KR HF HM
  go_wp2_with fail
  go_ret
  exact ⟨v3, H, s0, rfl, HO3.out, HP.out, HB3.out⟩
end Go.Proofs.Ythbekbfhpedghaa

/- ShapeNested: plain facts about nesting, the law's fold, the reference's Box. -/
namespace Go.Proofs.Ythbekbfhpedghaa
open Go.RowKit Go.Sort
attribute [local go_sem ↓] run_min_mn run_max_mx Go.wp_at_zero Go.wp_at_succ

/-- There is always a first free vector, or none is free. -/
theorem isFirst_at {rx ry : Int} {free : Pt → Bool} : ∀ (n : Nat) (u : Pt), u.2.toNat * (rx.toNat + 1) + u.1.toNat = n → 0 ≤ u.1 → u.1 ≤ rx → 0 ≤ u.2 → u.2 ≤ ry → free u = true → ∃ v, IsFirst rx ry free (some v) := by
  intro n
  induction n using Nat.strongRecOn with
  | ind n ih =>
    intro u hu h1 h2 h3 h4 h5
    by_cases h : ∃ v : Pt, 0 ≤ v.1 ∧ v.1 ≤ rx ∧ 0 ≤ v.2 ∧ v.2 ≤ ry ∧ (v.2 < u.2 ∨ (v.2 = u.2 ∧ v.1 < u.1)) ∧ free v = true
    · obtain ⟨v, g1, g2, g3, g4, g5, g6⟩ := h
      refine ih (v.2.toNat * (rx.toNat + 1) + v.1.toNat) ?_ v rfl g1 g2 g3 g4 g6
      rcases g5 with g5 | ⟨g5, g7⟩
      · have a : v.2.toNat + 1 ≤ u.2.toNat := by omega
        have b := Nat.mul_le_mul_right (rx.toNat + 1) a
        rw [Nat.add_mul] at b
        omega
      · rw [g5] at *
        omega
    · refine ⟨u, ⟨h1, h2⟩, ⟨h3, h4⟩, h5, fun v g1 g2 g3 g4 g5 => ?_⟩
      cases e : free v
      · rfl
      · exact absurd ⟨v, g1, g2, g3, g4, g5, e⟩ h
theorem isFirst_ex (rx ry : Int) (free : Pt → Bool) : ∃ r, IsFirst rx ry free r := by
  by_cases h : ∃ u : Pt, 0 ≤ u.1 ∧ u.1 ≤ rx ∧ 0 ≤ u.2 ∧ u.2 ≤ ry ∧ free u = true
  · obtain ⟨u, h1, h2, h3, h4, h5⟩ := h
    obtain ⟨v, hv⟩ := isFirst_at _ u rfl h1 h2 h3 h4 h5
    exact ⟨some v, hv⟩
  · refine ⟨none, fun u h1 h2 h3 h4 => ?_⟩
    cases e : free u
    · rfl
    · exact absurd ⟨u, h1, h2, h3, h4, e⟩ h
theorem firstOf_first (rx ry : Int) (free : Pt → Bool) : IsFirst rx ry free (firstOf rx ry free) := by
  obtain ⟨r, hr⟩ := isFirst_ex rx ry free
  rw [firstOf_eq hr]
  exact hr

/-- What is placed first stays, and what comes later has greater numbers. -/
theorem nestTo_pre {W H : Int} {L : List (List Pt)} (i : Nat) : ∀ d : Nat, ∃ R, (nestTo W H L (i + d)).out = (nestTo W H L i).out ++ R ∧ ∀ x ∈ R, i ≤ x.1
  | 0 => ⟨[], by simp, fun x h => by cases h⟩
  | d + 1 => by
    obtain ⟨R, h1, h2⟩ := nestTo_pre (W := W) (H := H) (L := L) i d
    have e : nestTo W H L (i + (d + 1)) = nestPut (nestTo W H L (i + d)) (i + d) (L.getD (i + d) []) (nestV W H (nestTo W H L (i + d)).laid (L.getD (i + d) [])) := rfl
    rw [e]
    cases nestV W H (nestTo W H L (i + d)).laid (L.getD (i + d) []) with
    | none => exact ⟨R, h1, h2⟩
    | some v =>
      refine ⟨R ++ [(i + d, v)], ?_, fun x hx => ?_⟩
      · show (nestTo W H L (i + d)).out ++ [(i + d, v)] = _
        rw [h1, List.append_assoc]
      · rcases List.mem_append.1 hx with hx | hx
        · exact h2 x hx
        · obtain rfl := List.mem_singleton.1 hx
          exact Nat.le_add_right _ _
theorem nest_next_none {W H : Int} {L : List (List Pt)} {k m : Nat} (hk : k < m) (h : nestV W H (nestTo W H L k).laid (L.getD k []) = none) {x : Nat × Pt} (hx : (nestTo W H L m).out[(nestTo W H L k).out.length]? = some x) : x.1 ≠ k := by
  obtain ⟨R, h1, h2⟩ := nestTo_pre (W := W) (H := H) (L := L) (k + 1) (m - (k + 1))
  rw [show k + 1 + (m - (k + 1)) = m by omega] at h1
  have e : (nestTo W H L (k + 1)).out = (nestTo W H L k).out := by
    show (nestPut (nestTo W H L k) k (L.getD k []) (nestV W H (nestTo W H L k).laid (L.getD k []))).out = _
    rw [h]; rfl
  rw [h1, e, List.getElem?_append_right (Nat.le_refl _)] at hx
  have := h2 x (List.mem_of_getElem? hx)
  omega
theorem nest_next_some {W H : Int} {L : List (List Pt)} {k m : Nat} (hk : k < m) {v : Pt} (h : nestV W H (nestTo W H L k).laid (L.getD k []) = some v) : (nestTo W H L m).out[(nestTo W H L k).out.length]? = some (k, v) := by
  obtain ⟨R, h1, h2⟩ := nestTo_pre (W := W) (H := H) (L := L) (k + 1) (m - (k + 1))
  rw [show k + 1 + (m - (k + 1)) = m by omega] at h1
  have e : (nestTo W H L (k + 1)).out = (nestTo W H L k).out ++ [(k, v)] := by
    show (nestPut (nestTo W H L k) k (L.getD k []) (nestV W H (nestTo W H L k).laid (L.getD k []))).out = _
    rw [h]; rfl
  rw [h1, e, List.append_assoc, List.getElem?_append_right (Nat.le_refl _)]
  simp
theorem nest_out_le {W H : Int} {L : List (List Pt)} {k m : Nat} (hk : k ≤ m) : (nestTo W H L k).out.length ≤ (nestTo W H L m).out.length := by
  obtain ⟨R, h1, h2⟩ := nestTo_pre (W := W) (H := H) (L := L) k (m - k)
  rw [show k + (m - k) = m by omega] at h1
  rw [h1, List.length_append]
  omega

/-- The law's fold. -/
def foldI (x n : Int) : Int := (x.tmod n + n).tmod n
theorem foldI_bd {x n : Int} (h : 1 ≤ n) : 0 ≤ foldI x n ∧ foldI x n < n := by
  unfold foldI
  have a := Int.lt_tmod_of_pos x (b := n) (by omega)
  have b := Int.tmod_lt_of_pos (x.tmod n + n) (b := n) (by omega)
  have c : 0 ≤ (x.tmod n + n).tmod n := Int.tmod_nonneg _ (by omega)
  exact ⟨c, b⟩
theorem fold_any (x n : Int) (w : World) (hn : 1 ≤ n ∧ n ≤ 100000) :
    Calls Try.prog 14 #[.int .i64 x, .int .i64 n] w fun e w' => e = .returned (.int .i64 (foldI x n)) ∧ w = w' := by
  have a := Int.lt_tmod_of_pos x (b := n) (by omega)
  have a' := Int.tmod_lt_of_pos x (b := n) (by omega)
  have b := Int.tmod_lt_of_pos (x.tmod n + n) (b := n) (by omega)
  have c : 0 ≤ (x.tmod n + n).tmod n := Int.tmod_nonneg _ (by omega)
  have r1 : IntKind.i64.wrap (x.tmod n) = x.tmod n := by rw [IntKind.wrap_i64]; omega
  have r2 : IntKind.i64.wrap (x.tmod n + n) = x.tmod n + n := by rw [IntKind.wrap_i64]; omega
  have r3 : IntKind.i64.wrap ((x.tmod n + n).tmod n) = (x.tmod n + n).tmod n := by rw [IntKind.wrap_i64]; omega
  have ne : ¬ n = 0 := by omega
  have E : Hid (foldI x n = (x.tmod n + n).tmod n) := Lib.hid rfl
  generalize foldI x n = f at *
  clear a a' b c
  go_enter Try.func14, Try.ntmps14
  go_wp2
  go_ret
  exact ⟨ret_int E.out.symm, rfl⟩

theorem refBoxX_any (b off n c : Nat) (l : List Pt) (w : World) (hl : l.length = n) (hn : 0 < n) (hn' : n ≤ 100) (h : PtsIn w b off l) (hb : b < w.heap.size) :
    Calls Try.prog 12 #[.slice (some ⟨b, off, none⟩) n c] w fun e w' =>
      e = .returned (.tuple #[.agg #[.int .i64 (lowL l).1, .int .i64 (lowL l).2], .agg #[.int .i64 (highL l).1, .int .i64 (highL l).2]]) ∧ Below w.heap.size w w' := by
  have K := fun V (hV : Below w.heap.size w V) => Lib.hid (refBox_any b off n c l V hl hn hn' (h.below hV hb) (Nat.lt_of_lt_of_le hb hV.size))
  clear hl h
  generalize lowL l = lo at *
  generalize highL l = hi at *
  obtain ⟨lx, ly⟩ := lo
  obtain ⟨hx, hy⟩ := hi
  have b2 : Below w.heap.size w ((w.alloc (bx 0 0)).alloc (bx 0 0)) := ((Below.refl _ _).alloc (Nat.le_refl _) _).alloc (by simp) _
  have hz2 : ((w.alloc (bx 0 0)).alloc (bx 0 0)).heap.size = w.heap.size + 2 := by simp
  have p1 : PtBlk ((w.alloc (bx 0 0)).alloc (bx 0 0)) w.heap.size [(0, 0)] := (ptBlk_box w 0 0).alloc _
  have p2 : PtBlk ((w.alloc (bx 0 0)).alloc (bx 0 0)) (w.heap.size + 1) [(0, 0)] := by
    have := ptBlk_box (w.alloc (bx 0 0)) 0 0
    rwa [World.size_alloc] at this
  have K' := (K _ b2)
  have HB2 := Lib.hid b2
  have HP := Lib.hid (And.intro p1 p2)
  have HZ2 := Lib.hid hz2
  clear b2 hz2 p1 p2 K
  go_enter Try.func12, Try.ntmps12
  go_wp2_with fail
  refine (K'.out).mono ?_
  rintro e w1 ⟨rfl, hb1⟩
  have q1 := HP.out.1.below hb1 (by rw [HZ2.out]; omega)
  have q2 := HP.out.2.below hb1 (by rw [HZ2.out]; omega)
  have HBW := Lib.hid (HB2.out.trans (hb1.mono HB2.out.size))
  obtain ⟨c1, c2⟩ := q1.one
  obtain ⟨c3, c4⟩ := q2.one
  have f1 := q1.frozen 0
  have f2 := q1.frozen 1
  have f3 := q2.frozen 0
  have f4 := q2.frozen 1
  have n1 : ¬ w.heap.size = w.heap.size + 1 := by omega
  have n2 : ¬ w.heap.size + 1 = w.heap.size := by omega
  clear hb1 q1 q2 HB2 HZ2 HP
  go_wp2_with fail
  try go_region
  all_goals
    go_wp2
    refine bodyPost_ret (v := .tuple #[.agg #[.int .i64 lx, .int .i64 ly], .agg #[.int .i64 hx, .int .i64 hy]]) (by simp [results, Try.results12, go_sem, *]) rfl ⟨rfl, ?_⟩
    first
    | exact ((((HBW.out.setCell (by simp) _).setCell (by simp) _).setCell (by simp) _).setCell (by simp) _)
    | exact ((((HBW.out.setCell (by simp) _).setCell (by simp) _).setCell (by simp) _).setCell (by simp) _).drew

/-- Hulls that the law makes. -/
def HullOk (l : List Pt) : Prop := ∃ l0, Poly 12 12 l l0
theorem HullOk.shape {l : List Pt} (h : HullOk l) : ShapeOk l := by
  obtain ⟨l0, h⟩ := h
  refine ⟨⟨l0, h.conv⟩, by have := h.len; omega, List.all_eq_true.2 fun p hp => ?_⟩
  have := h.bd p hp
  unfold okP validB
  rw [Bool.and_eq_true, inB_true, inB_true]
  omega
theorem HullOk.box {l : List Pt} (h : HullOk l) : ((-12 ≤ (lowL l).1 ∧ (lowL l).1 ≤ 12) ∧ (-12 ≤ (lowL l).2 ∧ (lowL l).2 ≤ 12)) ∧ ((-12 ≤ (highL l).1 ∧ (highL l).1 ≤ 12) ∧ (-12 ≤ (highL l).2 ∧ (highL l).2 ≤ 12)) := by
  obtain ⟨l0, h⟩ := h
  refine boxTo_bd (L := 12) (fun i => ?_) l.length
  unfold gt
  rw [List.getD_eq_getElem?_getD]
  cases e : l[i]? with
  | none => simp
  | some x => simpa using h.bd x (List.mem_of_getElem? e)
theorem HullOk.conE {l : List Pt} (h : HullOk l) : conE l = 0 := by
  have k := h.shape
  obtain ⟨l0, h⟩ := h
  exact conv_conE h.conv k.2.2 k.2.1
theorem hulls_conE : ∀ {L : List (List Pt)}, (∀ l ∈ L, HullOk l) → convsE L = 0
  | [], _ => rfl
  | a :: L, h => by
    show (if Go.Proofs.Ythbekbfhpedghaa.conE a = 0 then convsE L else Go.Proofs.Ythbekbfhpedghaa.conE a) = 0
    rw [if_pos (h a (List.mem_cons_self ..)).conE]
    exact hulls_conE fun l hl => h l (List.mem_cons_of_mem _ hl)

/-- A round of the law over the shapes. -/
structure NRound (W H : Int) (k : Nat) (O : List (Nat × Pt)) (st st1 : NestSt) (l : List Pt) (vv : Option Pt) : Prop where
  ok : HullOk l
  first : IsFirst (W - ((highL l).1 - (lowL l).1)) (H - ((highL l).2 - (lowL l).2)) (freeB st.laid (atZero l)) vv
  laid : ∀ p ∈ st.laid, (∃ p0, Conv p p0) ∧ p.length ≤ 32 ∧ Small 100 p
  laidn : st.laid.length ≤ k
  outle : st.out.length ≤ O.length
  none : vv = none → st1 = st ∧ ∀ x, O[st.out.length]? = some x → x.1 ≠ k
  some : ∀ v, vv = some v → st1 = ⟨st.out ++ [(k, v)], st.laid ++ [movedL (atZero l) v]⟩ ∧ O[st.out.length]? = some (k, v)
theorem nround {W H : Int} {L : List (List Pt)} {N k : Nat} {O : List (Nat × Pt)} (hW : W ≤ 40) (hH : H ≤ 40) (hk : k < N) (hL : L.length = N) (hh : ∀ l ∈ L, HullOk l) (hO : (nestTo W H L N).out = O) :
    ∃ l vv, L[k]? = some l ∧ NRound W H k O (nestTo W H L k) (nestTo W H L (k + 1)) l vv := by
  have hkl : k < L.length := by omega
  have e : L.getD k [] = L[k] := by rw [List.getD_eq_getElem?_getD, List.getElem?_eq_getElem hkl]; rfl
  have e1 : nestTo W H L (k + 1) = nestPut (nestTo W H L k) k (L.getD k []) (nestV W H (nestTo W H L k).laid (L.getD k [])) := rfl
  obtain ⟨h1, h2, h3, h4⟩ := nestTo_laid (w := W) (h := H) (m := 32) (L := L) (fun l hl => ⟨(hh l hl).shape.1, (hh l hl).shape.2.1⟩) k (by omega)
  refine ⟨L[k], nestV W H (nestTo W H L k).laid L[k], List.getElem?_eq_getElem hkl, ⟨hh _ (List.getElem_mem hkl), firstOf_first _ _ _, fun p hp => ?_, h2, ?_, fun h => ⟨?_, fun x hx => ?_⟩, fun v h => ⟨?_, ?_⟩⟩⟩
  · obtain ⟨c1, c2, c3⟩ := h1 p hp
    exact ⟨c1, c2, fun x hx => by have := c3 x hx; omega⟩
  · rw [← hO]; exact nest_out_le (by omega)
  · rw [e1, e, h]; rfl
  · rw [← hO] at hx
    exact nest_next_none hk (by rw [e]; exact h) hx
  · rw [e1, e, h]; rfl
  · rw [← hO]
    exact nest_next_some hk (by rw [e]; exact h)

/-- One variable of the call's own that holds a point. -/
def OwnOne (wr : World) (x y : Int) (t : Value) (wx : World) : Prop := ∃ g : Nat, t = .pointer (some ⟨g, 0, none⟩) ∧ wr.heap.size ≤ g ∧ PtBlk wx g [(x, y)] ∧ Below wr.heap.size wr wx
theorem ownOne (w : World) (x y : Int) : OwnOne w x y (.pointer (some ⟨w.heap.size, 0, none⟩)) ((w.alloc (bx x y)).drew) :=
  ⟨_, rfl, Nat.le_refl _, ptBlk_box w x y, ((Below.refl _ _).alloc (Nat.le_refl _) _).drew⟩

section
variable {wr W w' : World} {b g o : Nat} {v x y : Value}
theorem keep2_call (p : Below wr.heap.size wr W ∧ W.cell? ⟨b, o, none⟩ = some v ∧ W.cell? ⟨g, 0, none⟩ = some x ∧ W.cell? ⟨g, 1, none⟩ = some y) (hB : b < wr.heap.size) (hG : g < wr.heap.size) (hb : Below W.heap.size W w') :
    Below wr.heap.size wr w' ∧ w'.cell? ⟨b, o, none⟩ = some v ∧ w'.cell? ⟨g, 0, none⟩ = some x ∧ w'.cell? ⟨g, 1, none⟩ = some y :=
  have hs := p.1.size
  ⟨p.1.trans (hb.mono hs), (hb.cell (p := ⟨b, _, none⟩) (Nat.lt_of_lt_of_le hB hs)).trans p.2.1, (hb.cell (p := ⟨g, _, none⟩) (Nat.lt_of_lt_of_le hG hs)).trans p.2.2.1, (hb.cell (p := ⟨g, _, none⟩) (Nat.lt_of_lt_of_le hG hs)).trans p.2.2.2⟩
theorem keep2_drew (p : Below wr.heap.size wr W ∧ W.cell? ⟨b, o, none⟩ = some v ∧ W.cell? ⟨g, 0, none⟩ = some x ∧ W.cell? ⟨g, 1, none⟩ = some y) :
    Below wr.heap.size wr W.drew ∧ W.drew.cell? ⟨b, o, none⟩ = some v ∧ W.drew.cell? ⟨g, 0, none⟩ = some x ∧ W.drew.cell? ⟨g, 1, none⟩ = some y :=
  ⟨p.1.drew, p.2.1, p.2.2.1, p.2.2.2⟩
end
end Go.Proofs.Ythbekbfhpedghaa

/- The reference's Nest. -/
namespace Go.Proofs.Ythbekbfhpedghaa
open Go.RowKit Go.Sort
attribute [local go_sem ↓] run_min_mn run_max_mx Go.wp_at_zero Go.wp_at_succ

/-- How it stands with shape k: placed, or not yet. -/
def RefSt (rx ry : Int) (st : NestSt) (k : Nat) (s : List Pt) (base : Nat) (v7 v8 : Value) (wr : World) : Bool → Prop
  | false => PlOwn wr base v7 st.out ∧ PolysOwn wr base v8 st.laid
  | true => ∃ v, IsFirst rx ry (freeB st.laid s) (some v) ∧ PlOwn wr base v7 (st.out ++ [(k, v)]) ∧ PolysOwn wr base v8 (st.laid ++ [movedL s v])
theorem small_bd {W : Int} (hW : W ≤ 60000) {p : List Pt} (h : Small W p) (i : Nat) : Bd (gt p i) := by
  unfold gt
  rw [List.getD_eq_getElem?_getD]
  cases e : p[i]? with
  | none => exact ⟨by decide, by decide⟩
  | some x => have := h x (List.mem_of_getElem? e); exact ⟨by simp only [Option.getD_some]; omega, by simp only [Option.getD_some]; omega⟩

theorem PtBlk.besidePl {w w' : World} {g base : Nat} {u : Value} {p : List Pt} {l : List (Nat × Pt)} (h : PtBlk w g p) (k : PlOwn w base u l) (hg : w.grownBy w' u.ownBlock) : PtBlk w' g p :=
  h.same (hg.block g h.lt (fun e => by
    obtain ⟨cur, hc⟩ := k.typed g e.symm
    have h2 : w.heap[g]? = some (.cells (ptsV p).toArray 37 (0, 0)) := h
    rw [hc] at h2
    simp at h2))
theorem PtBlk.besidePo {w w' : World} {g base : Nat} {u : Value} {p : List Pt} {L : List (List Pt)} (h : PtBlk w g p) (k : PolysOwn w base u L) (hg : w.grownBy w' u.ownBlock) : PtBlk w' g p :=
  h.same (hg.block g h.lt (fun e => by
    obtain ⟨cur, hc⟩ := k.typed g e.symm
    have h2 : w.heap[g]? = some (.cells (ptsV p).toArray 37 (0, 0)) := h
    rw [hc] at h2
    simp at h2))

set_option maxRecDepth 100000 in
set_option maxHeartbeats 8000000 in
theorem refNest_any (B : Option Addr) (m d : Nat) (L : List (List Pt)) (W H : Int) (w : World)
    (hm : L.length = m) (hm' : m ≤ 16) (hx : PolysAt w B L) (hL : ∀ l ∈ L, ShapeOk l) (hW : 0 ≤ W ∧ W ≤ 100) (hH : 0 ≤ H ∧ H ≤ 100) :
    Calls Try.prog 10 #[.int .i64 W, .int .i64 H, .slice B m d] w (NestD W H L w) := by
  have HM := Lib.hid hm
  have HX := Lib.hid hx
  have HLL := Lib.hid hL
  have HLD := fun k (hk : k ≤ m) => Lib.hid (nestTo_laid (w := W) (h := H) (m := 32) (L := L) (fun l hl => ⟨(hL l hl).1, (hL l hl).2.1⟩) k (by omega))
  clear hm hx hL
  go_enter Try.func10, Try.ntmps10
  go_wp2_with fail
  have O1 := (PlOwn.empty w).alloc (.cells #[] 24)
  have O2 := PolysOwn.empty (w.alloc (.cells #[] 44))
  have hb0 : Below w.heap.size w ((w.alloc (.cells #[] 44)).alloc (.cells #[] 24)) := (Below.refl _ _).alloc (Nat.le_refl _) _ |>.alloc (by simp) _
  have O2' := O2.low (base' := w.heap.size) (by simp)
  rw [World.size_alloc] at O2'
  clear O2
  generalize (w.alloc (.cells #[] 44)).alloc (.cells #[] 24) = w0 at *
  go_loopw [7, 8, 9] (fun v7 v8 i wr => ∃ k : Nat, k ≤ m ∧ i = .int .i64 k ∧ PlOwn wr w.heap.size v7 (nestTo W H L k).out ∧ PolysOwn wr w.heap.size v8 (nestTo W H L k).laid ∧ Below w.heap.size w wr) (fun _ _ i _ => m - (intOf i).toNat)
  case atStart => exact ⟨0, Nat.zero_le _, rfl, O1, O2', hb0⟩
  case round =>
    clear O1 O2' hb0
    obtain ⟨k, hk, rfl, hp, ho, hbw⟩ := hrel
    have HP := Lib.hid hp
    have HO := Lib.hid ho
    clear hp ho
    by_cases hlt : k < m
    · have hkl : k < L.length := by rw [HM.out]; exact hlt
      obtain ⟨b1, off1, rfl, hbl, hps⟩ := HX.out (by intro e; rw [e] at hkl; simp at hkl)
      have hbl' := Nat.lt_of_lt_of_le hbl hbw.size
      have HPSI := Lib.hid (hps.below hbw hbl)
      obtain ⟨A2, n2, c2, h1, h2, h3', h4⟩ := HPSI.out k _ (List.getElem?_eq_getElem hkl)
      have hok := HLL.out _ (List.getElem_mem hkl)
      have HST : Hid (nestTo W H L (k + 1) = nestPut (nestTo W H L k) k L[k] (nestV W H (nestTo W H L k).laid L[k])) := Lib.hid (by
        show nestPut (nestTo W H L k) k (L.getD k []) (nestV W H (nestTo W H L k).laid (L.getD k [])) = _
        rw [List.getD_eq_getElem?_getD, List.getElem?_eq_getElem hkl]; rfl)
      have HLDk := HLD k hk
      generalize nestTo W H L k = st at *
      generalize L[k] = l at *
      obtain ⟨⟨l0, cl⟩, ll, lok⟩ := hok
      have hl3 := cl.three
      obtain ⟨b3, off3, rfl, hb3, hpp⟩ := h4 (by intro e; rw [e] at hl3; simp at hl3)
      have HBX := box_ok lok
      have HBL := box_le (l := l) (by omega)
      have HPP := Lib.hid hpp
      have HSM := Lib.hid (atZero_small lok)
      have HBD : Hid (∀ i, Bd (gt l i)) := Lib.hid fun i => Bd.of_ok (getD_ok lok i)
      have BX := Lib.hid (refBox_any b3 off3 n2 c2 l wr h2 (by omega) (by omega) hpp hb3)
      have HAZ : Hid (atZero l = movedL l (negP (lowL l))) := Lib.hid rfl
      have HNV : Hid (∀ r, IsFirst (W - ((highL l).1 - (lowL l).1)) (H - ((highL l).2 - (lowL l).2)) (freeB st.laid (atZero l)) r → nestV W H st.laid l = r) := Lib.hid fun r hr => firstOf_eq hr
      have HLZ : Hid ((atZero l).length = n2) := Lib.hid (by rw [← h2]; exact movedL_length _ _)
      have H1 := Lib.hid h1
      clear cl lok hpp h4 hps h3'
      generalize lowL l = lo at *
      generalize highL l = hi at *
      obtain ⟨lx, ly⟩ := lo
      obtain ⟨hx, hy⟩ := hi
      simp only at HBX HBL
      obtain ⟨hld1, hld2, hld3, hld4⟩ := HLDk.out
      have HLAID : Hid (∀ p ∈ st.laid, (∃ p0, Conv p p0) ∧ p.length ≤ 32 ∧ Small 100 p) := Lib.hid fun p hp => by
        obtain ⟨c1, c2, c3⟩ := hld1 p hp
        exact ⟨c1, c2, fun x hx => by have := c3 x hx; omega⟩
      have HLD2 := Lib.hid hld2
      have HLD3 := Lib.hid hld3
      have q0 : negP (lx, ly) = (-lx, -ly) := rfl
      rw [q0] at HAZ
      have MV := fun V hV => Lib.hid (refMoved_any b3 off3 n2 c2 l (-lx, -ly) V h2 (by omega) (HPP.out.below (B := wr.heap.size) hV hb3) (Nat.lt_of_lt_of_le hb3 hV.size) HBD.out ⟨by simp only; omega, by simp only; omega⟩)
      rw [← HAZ.out] at MV
      have HSEQ : Hid (atZero l = atZero l) := Lib.hid rfl
      generalize hs0 : atZero l = s at *
      replace HSEQ := Lib.hid hs0
      have H2 := Lib.hid h2
      clear h2 hs0 hld1 hld2 hld3 hld4 HLDk
      go_wp2_with fail
      refine (BX.out).mono ?_
      rintro e w1 ⟨rfl, hb1⟩
      have B2 := boxed2 w1 lx ly hx hy
      have K1 : PtBlk ((w1.alloc (Go.Proofs.Ythbekbfhpedghaa.bx lx ly)).alloc (Go.Proofs.Ythbekbfhpedghaa.bx hx hy)) w1.heap.size [(lx, ly)] := (ptBlk_box w1 lx ly).alloc _
      have K2 : PtBlk ((w1.alloc (Go.Proofs.Ythbekbfhpedghaa.bx lx ly)).alloc (Go.Proofs.Ythbekbfhpedghaa.bx hx hy)) (w1.heap.size + 1) [(hx, hy)] := by
        have := ptBlk_box (w1.alloc (Go.Proofs.Ythbekbfhpedghaa.bx lx ly)) hx hy
        rwa [World.size_alloc] at this
      go_upto_region 6 with (fail)
      generalize (w1.alloc (Go.Proofs.Ythbekbfhpedghaa.bx lx ly)).alloc (Go.Proofs.Ythbekbfhpedghaa.bx hx hy) = w2 at *
      obtain ⟨P1, P2, hb2, hz2⟩ := B2
      have hbr2 := hb1.trans (hb2.mono hb1.size)
      have hgw : wr.heap.size ≤ w1.heap.size := hb1.size
      generalize w1.heap.size = g at *
      have hg2 : g + 1 < w2.heap.size := by omega
      have HPT := Lib.hid (And.intro K1 K2)
      clear K1 K2
      have h1' : w2.cell? ⟨b1, off1 + k, none⟩ = some (.slice (some ⟨b3, off3, none⟩) n2 c2) := (hbr2.cell (p := ⟨b1, _, none⟩) hbl').trans H1.out
      obtain ⟨p1, p2⟩ := P1
      have n1 : IntKind.i64.wrap (-lx) = -lx := by rw [IntKind.wrap_i64]; omega
      have n2' : IntKind.i64.wrap (-ly) = -ly := by rw [IntKind.wrap_i64]; omega
      have hbz1 : b1 < w2.heap.size := by omega
      clear hb2 hz2 hb1 q0 BX
      go_still_tail 11, (by kernel_rfl)
      change wpList _ _ _ _ _ w2.drew
      go_wp2_with fail
      refine ((MV _ hbr2.drew).out).mono ?_
      rintro e w3 ⟨v, rfl, hs, hb3'⟩
      have hbr3 := hbr2.drew.trans (hb3'.mono hbr2.drew.size)
      obtain ⟨A3, c3, rfl, TS, -⟩ := hs.ty (by intro e; have := HLZ.out; rw [e] at this; have := H2.out; simp at *; omega)
      obtain ⟨gs, rfl, hgs, hsp⟩ := TS.lt
      have HSP := Lib.hid hsp
      have Q1 := (show PtBlk w2.drew g [(lx, ly)] from HPT.out.1).below hb3' (by show g < w2.heap.size; omega)
      have Q2 := (show PtBlk w2.drew (g + 1) [(hx, hy)] from HPT.out.2).below hb3' (by show g + 1 < w2.heap.size; omega)
      have hg3 : g + 1 < w3.heap.size := by have := hb3'.size; have e : w2.drew.heap.size = w2.heap.size := rfl; omega
      have HP3 := Lib.hid (HP.out.belows hbr3)
      have HO3 := Lib.hid (HO.out.belows hbr3)
      have HBW3 := Lib.hid (hbw.trans (hbr3.mono hbw.size))
      have HSL : Hid (s.length = n2) := HLZ
      have q3 : IntKind.i64.wrap (hy - ly) = hy - ly := by rw [IntKind.wrap_i64]; omega
      have q4 : IntKind.i64.wrap (H - (hy - ly)) = H - (hy - ly) := by rw [IntKind.wrap_i64]; omega
      have q5 : IntKind.i64.wrap (hx - lx) = hx - lx := by rw [IntKind.wrap_i64]; omega
      have q6 : IntKind.i64.wrap (W - (hx - lx)) = W - (hx - lx) := by rw [IntKind.wrap_i64]; omega
      have hn2 : n2 ≤ 32 := by have := H2.out; omega
      have hn3 : 3 ≤ n2 := by have := H2.out; omega
      clear hbr2 hbr3 hb3' MV hs TS p1 p2 n1 n2' hbz1 h1' HPT hg2 hgw hsp HP HO HPSI H1 HPP hbw
      go_wp2_with fail
      go_loopw [7, 8, 13, 14] (fun v7 v8 f i wr => ∃ (y : Nat) (t : Bool), f = .bool t ∧ i = .int .i64 y ∧ RefSt (W - (hx - lx)) (H - (hy - ly)) st k s w.heap.size v7 v8 wr t ∧
        (t = false → ((y : Int) ≤ H - (hy - ly) + 1 ∨ y = 0) ∧ (∀ u : Pt, 0 ≤ u.1 → u.1 ≤ W - (hx - lx) → 0 ≤ u.2 → u.2 ≤ H - (hy - ly) → u.2 < y → freeB st.laid s u = false) ∧ Below w3.heap.size w3 wr) ∧ PtBlk wr g [(lx, ly)] ∧ PtBlk wr (g + 1) [(hx, hy)] ∧ Below w.heap.size w wr) (fun _ _ _ i _ => (H - (hy - ly) + 1 - intOf i).toNat)
      case atStart => exact ⟨0, false, rfl, rfl, ⟨HP3.out, HO3.out⟩, fun _ => ⟨.inr rfl, fun u _ _ h3 _ h5 => by omega, Below.refl _ _⟩, Q1, Q2, HBW3.out⟩
      case round =>
        clear Q1 Q2 HP3 HO3 HBW3
        obtain ⟨y, t, rfl, rfl, hst, hfa, P1, P2, hbw⟩ := hrel
        have HPT := Lib.hid (And.intro P1 P2)
        obtain ⟨p1, p2⟩ := P1.one
        obtain ⟨p3, p4⟩ := P2.one
        clear P1 P2
        cases t
        · obtain ⟨hy0, hrow, hb3⟩ := hfa rfl
          have HROW := Lib.hid hrow
          have HSTF := Lib.hid hst
          clear hfa hrow hst
          by_cases hly : (y : Int) ≤ H - (hy - ly)
          · obtain ⟨wy, rfl⟩ : ∃ wy : World, wy = wr := ⟨_, rfl⟩
            go_wp2_with fail
            go_loopw [7, 8, 13, 15] (fun v7 v8 f i wr => ∃ (x : Nat) (t : Bool), f = .bool t ∧ i = .int .i64 x ∧ RefSt (W - (hx - lx)) (H - (hy - ly)) st k s w.heap.size v7 v8 wr t ∧
              (t = false → ((x : Int) ≤ W - (hx - lx) + 1 ∨ x = 0) ∧ (∀ u : Pt, 0 ≤ u.1 → u.1 ≤ W - (hx - lx) → u.2 = y → u.1 < x → freeB st.laid s u = false) ∧ Below w3.heap.size w3 wr) ∧ PtBlk wr g [(lx, ly)] ∧ PtBlk wr (g + 1) [(hx, hy)] ∧ Below w.heap.size w wr) (fun _ _ _ i _ => (W - (hx - lx) + 1 - intOf i).toNat)
            case atStart => exact ⟨0, false, rfl, rfl, HSTF.out, fun _ => ⟨.inr rfl, fun u h1 _ _ h4 => by omega, hb3⟩, HPT.out.1, HPT.out.2, hbw⟩
            case round =>
              clear HSTF HPT p1 p2 p3 p4 hb3 hbw
              obtain ⟨x, t, rfl, rfl, hst, hfa, P1, P2, hbw⟩ := hrel
              have HPT := Lib.hid (And.intro P1 P2)
              obtain ⟨p1, p2⟩ := P1.one
              obtain ⟨p3, p4⟩ := P2.one
              clear P1 P2
              cases t
              · obtain ⟨hx0, hcol, hb3⟩ := hfa rfl
                have HCOL := Lib.hid hcol
                have HSTF := Lib.hid hst
                clear hfa hcol hst
                by_cases hlx : (x : Int) ≤ W - (hx - lx)
                · obtain ⟨wx, rfl⟩ : ∃ wx : World, wx = wr := ⟨_, rfl⟩
                  have HPO : Hid (PlOwn wx w.heap.size u7 st.out) := Lib.hid HSTF.out.1
                  have HOO : Hid (PolysOwn wx w.heap.size u8 st.laid) := Lib.hid HSTF.out.2
                  obtain ⟨A8, c8, rfl, hat8⟩ := HOO.out.slice (fun p hp => by have := (HLAID.out p hp).2.1; omega)
                  have HAT8 := Lib.hid hat8
                  have MV2 := Lib.hid (refMoved_any gs 0 s.length c3 s ((x : Int), (y : Int)) wx rfl (by have := HSL.out; omega) (HSP.out.below hb3 hgs) (Nat.lt_of_lt_of_le hgs hb3.size) (small_bd (by omega) HSM.out) ⟨by simp only; omega, by simp only; omega⟩)
                  have hxb : (x : Int) ≤ 100 := by omega
                  have hyb : (y : Int) ≤ 100 := by omega
                  have HMS : Hid (∀ i, Bd (gt (movedL s ((x : Int), (y : Int))) i)) := Lib.hid (small_bd (W := 30000) (by omega) (fun q hq => by
                    obtain ⟨z, hz, rfl⟩ := List.mem_map.1 hq
                    have := HSM.out z hz
                    unfold addP
                    simp only
                    omega))
                  have HME : Hid (∀ q ∈ movedL s ((x : Int), (y : Int)), Bd q) := Lib.hid (fun q hq => by
                    obtain ⟨z, hz, rfl⟩ := List.mem_map.1 hq
                    have := HSM.out z hz
                    unfold addP Bd
                    simp only
                    omega)
                  have HMLn : Hid ((movedL s ((x : Int), (y : Int))).length = n2) := Lib.hid (by rw [movedL_length]; exact HSL.out)
                  have HFB : Hid (freeB st.laid s ((x : Int), (y : Int)) = st.laid.all fun p => apartB p (movedL s ((x : Int), (y : Int)))) := Lib.hid rfl
                  have HRES : Hid (∀ r, freeB st.laid s ((x : Int), (y : Int)) = r → (r = true → IsFirst (W - (hx - lx)) (H - (hy - ly)) (freeB st.laid s) (some ((x : Int), (y : Int)))) ∧ (r = false → ∀ u : Pt, 0 ≤ u.1 → u.1 ≤ W - (hx - lx) → u.2 = y → u.1 < x + 1 → freeB st.laid s u = false)) := Lib.hid fun r hr => ⟨fun e => ⟨⟨by simp only; omega, by simp only; omega⟩, ⟨by simp only; omega, by simp only; omega⟩, hr.trans e, fun u h1 h2 h3 h4 h5 => by
                      simp only at h5
                      rcases h5 with h5 | ⟨h5, h6⟩
                      · exact HROW.out u h1 h2 h3 h4 h5
                      · exact HCOL.out u h1 h2 h5 h6⟩, fun e u h1 h2 h3 h4 => by
                      by_cases he : u.1 < x
                      · exact HCOL.out u h1 h2 h3 he
                      · rw [show u = ((x : Int), (y : Int)) from Prod.ext (by simp only; omega) h3, hr, e]⟩
                  have HNM : Hid (movedL s ((x : Int), (y : Int)) = movedL s ((x : Int), (y : Int))) := Lib.hid rfl
                  generalize hmm : movedL s ((x : Int), (y : Int)) = M at *
                  have HMM := Lib.hid hmm
                  clear hat8 HSTF hmm HNM
                  go_wp2_with fail
                  refine (MV2.out).mono ?_
                  rintro e w5 ⟨v, rfl, hs2, hb5⟩
                  obtain ⟨A4, c4, rfl, TM, -⟩ := hs2.ty (by intro e; have := HMLn.out; rw [e] at this; simp at this; omega)
                  obtain ⟨gm, rfl, hgm, hmp⟩ := TM.lt
                  have HMP := Lib.hid hmp
                  have HTM := Lib.hid TM
                  have HB5 := Lib.hid hb5
                  have hAT5 := Lib.hid (HAT8.out.below hb5)
                  clear MV2 hs2 TM hmp hb5
                  go_wp2_with fail
                  go_loopw [17, 18] (fun f i wr => ∃ j : Nat, j ≤ st.laid.length ∧ i = .int .i64 j ∧ f = .bool ((st.laid.take j).all fun p => apartB p M) ∧ Below w5.heap.size w5 wr) (fun _ i _ => st.laid.length - (intOf i).toNat)
                  case atStart => exact ⟨0, Nat.zero_le _, rfl, rfl, Below.refl _ _⟩
                  case round =>
                    obtain ⟨j, hj, rfl, rfl, hbj⟩ := hrel
                    have hj16 : j ≤ 16 := by have := HLD2.out; omega
                    have hb9 := HB5.out.trans (hbj.mono HB5.out.size)
                    have HPJ := Lib.hid (HPO.out.belows hb9)
                    have HOJ := Lib.hid (HOO.out.belows hb9)
                    have HBW9 := Lib.hid (hbw.trans (hb9.mono hbw.size))
                    have HB39 := Lib.hid (hb3.trans (hb9.mono hb3.size))
                    have hgx : g + 1 < wx.heap.size := by have := hb3.size; omega
                    have HPT9 := Lib.hid (And.intro (HPT.out.1.below hb9 (by omega)) (HPT.out.2.below hb9 hgx))
                    have HTM9 := Lib.hid (HTM.out.below hbj)
                    generalize hT : (st.laid.take j).all (fun p => apartB p M) = t at *
                    have HT := Lib.hid hT
                    clear hT hb9
                    cases t
                    · have HFALSE := Lib.hid ((HRES.out false (by
                        rw [HFB.out, List.all_eq_false]
                        obtain ⟨p, hp, hq⟩ := List.all_eq_false.1 HT.out
                        exact ⟨p, List.mem_of_mem_take hp, hq⟩)).2 rfl)
                      by_cases hjl : j < st.laid.length
                      all_goals
                        go_wp2_with fail
                        go_roundw
                        case rel => exact ⟨x + 1, false, rfl, by go_num, ⟨HPJ.out, HOJ.out⟩, (fun _ => ⟨by omega, (fun u h1 h2 h3 h4 => HFALSE.out u h1 h2 h3 (by omega)), HB39.out⟩), HPT9.out.1, HPT9.out.2, HBW9.out⟩
                        case measure => simp [intOf]; omega
                    · by_cases hjl : j < st.laid.length
                      · have HJL := Lib.hid hjl
                        obtain ⟨b8, off8, rfl, hl8, hps8⟩ := hAT5.out (by intro e; rw [e] at hjl; simp at hjl)
                        obtain ⟨A7, n7, c7, g1, g2, g3, g4⟩ := (hps8.below hbj hl8) j _ (List.getElem?_eq_getElem hjl)
                        obtain ⟨-, lp, sp⟩ := HLAID.out _ (List.getElem_mem hjl)
                        have HLD5 := HLAID.out _ (List.getElem_mem hjl)
                        have HTN : Hid ((st.laid.take (j + 1)).all (fun p => apartB p M) = apartB st.laid[j] M) := Lib.hid (by rw [List.take_succ_eq_append_getElem hjl, List.all_append, HT.out, Bool.true_and, List.all_cons, List.all_nil, Bool.and_true]; rfl)
                        generalize st.laid[j] = p at *
                        obtain ⟨⟨p0, cp⟩, -, -⟩ := HLD5
                        have hp3 := cp.three
                        obtain ⟨b7, off7, rfl, k1, k2⟩ := g4 (by intro e; rw [e] at hp3; simp at hp3)
                        have RA := Lib.hid (refApart_any b7 off7 n7 c7 gm 0 M.length c4 p M wr g2 (by omega) (by omega) k2 k1 (fun q hq => by have := sp q hq; exact ⟨by omega, by omega⟩) rfl (by have := HMLn.out; omega) (by have := HMLn.out; omega) (HMP.out.below hbj hgm) (Nat.lt_of_lt_of_le hgm hbj.size) HME.out)
                        clear cp sp g2 g3 g4 k2 hps8
                        generalize apartB p M = ta at *
                        go_wp2_with fail
                        refine (RA.out).mono ?_
                        rintro e w6 ⟨rfl, hb6⟩
                        have HBJ6 := Lib.hid (hbj.trans (hb6.mono hbj.size))
                        clear RA hb6 g1
                        go_wp2_with fail
                        go_roundw
                        case rel => exact ⟨j + 1, HJL.out, by go_num, by rw [HTN.out], HBJ6.out⟩
                        case measure => have := HJL.out; simp [intOf]; omega
                      · obtain rfl : j = st.laid.length := by omega
                        have HTRUE := Lib.hid ((HRES.out true (by
                          rw [HFB.out]
                          have := HT.out
                          rwa [List.take_length] at this)).1 rfl)
                        go_upto_region 22 with (fail)
                        have hbA : Below wr.heap.size wr (wr.alloc (.cells #[.int .i64 (k : Nat), .int .i64 (x : Int), .int .i64 (y : Int)] 44)) := (Below.refl _ _).alloc (Nat.le_refl _) _
                        have HPA := Lib.hid (HPJ.out.belows hbA)
                        have HOA := Lib.hid (HOJ.out.belows hbA)
                        have HMA := Lib.hid (HTM9.out.below hbA)
                        have HBA := Lib.hid (HBW9.out.trans (hbA.mono HBW9.out.size))
                        have PTA := Lib.hid (And.intro (HPT9.out.1.alloc (.cells #[.int .i64 (k : Nat), .int .i64 (x : Int), .int .i64 (y : Int)] 44)) (HPT9.out.2.alloc (.cells #[.int .i64 (k : Nat), .int .i64 (x : Int), .int .i64 (y : Int)] 44)))
                        have c0 : (wr.alloc (.cells #[.int .i64 (k : Nat), .int .i64 (x : Int), .int .i64 (y : Int)] 44)).cell? ⟨wr.heap.size, 0, none⟩ = some (.int .i64 (k : Nat)) := by simp [World.cell?_alloc_new]
                        have c1 : (wr.alloc (.cells #[.int .i64 (k : Nat), .int .i64 (x : Int), .int .i64 (y : Int)] 44)).cell? ⟨wr.heap.size, 1, none⟩ = some (.int .i64 (x : Int)) := by simp [World.cell?_alloc_new]
                        have c2' : (wr.alloc (.cells #[.int .i64 (k : Nat), .int .i64 (x : Int), .int .i64 (y : Int)] 44)).cell? ⟨wr.heap.size, 2, none⟩ = some (.int .i64 (y : Int)) := by simp [World.cell?_alloc_new]
                        have hol : st.out.length + 1 ≤ 100000 := by have := HLD3.out; have := HLD2.out; omega
                        have hkl' : st.laid.length + 1 ≤ 100000 := by have := HLD2.out; omega
                        have hbs : w.heap.size ≤ (wr.alloc (.cells #[.int .i64 (k : Nat), .int .i64 (x : Int), .int .i64 (y : Int)] 44)).heap.size := HBA.out.size
                        go_wp2_with (first
                          | (at_builtin; refine wpList_placed rfl (.tmp 98) (.tmp 104) rfl w.heap.size _ st.out wr.heap.size k x y rfl rfl HPA.out c0 c1 c2' hol hbs ?_; intro v1 w8 ho hg hat; have HP8 := Lib.hid ho; have HG8 := Lib.hid hg; have HO8 := Lib.hid (HOA.out.beside HPA.out hg); have HM8 := Lib.hid (HMA.out.beside HPA.out hg); have HB8 := Lib.hid (HBA.out.grown hg hbs (fun q hq => (HPA.out.base q hq).1)); have PT8 := Lib.hid (And.intro (PTA.out.1.besidePl HPA.out hg) (PTA.out.2.besidePl HPA.out hg)); clear ho hg hat)
                          | (at_builtin; refine wpList_plapp rfl (.tmp 106) (.tmp 108) rfl w.heap.size _ st.laid w8.heap.size (some ⟨gm, 0, none⟩) M.length c4 M rfl rfl (HO8.out.belows ((Below.refl w8.heap.size w8).alloc (Nat.le_refl _) _)) (by simp [World.cell?_alloc_new]) rfl (fun _ => HM8.out.below ((Below.refl w8.heap.size w8).alloc (Nat.le_refl _) _)) hkl' (by rw [World.size_alloc]; have := HB8.out.size; omega) ?_; intro v2 w10 ho hg hat; have HO10 := Lib.hid ho; have HG10 := Lib.hid hg; clear ho hg hat))
                        have hb8a : Below w8.heap.size w8 (w8.alloc (.cells #[.slice (some ⟨gm, 0, none⟩) M.length c4] 24)) := (Below.refl _ _).alloc (Nat.le_refl _) _
                        have HO8A := Lib.hid (HO8.out.belows hb8a)
                        have HP10 := Lib.hid ((HP8.out.belows hb8a).beside HO8A.out HG10.out)
                        have PT10 := Lib.hid (And.intro ((PT8.out.1.below hb8a PT8.out.1.lt).besidePo HO8A.out HG10.out) ((PT8.out.2.below hb8a PT8.out.2.lt).besidePo HO8A.out HG10.out))
                        have HB10 := Lib.hid ((HB8.out.trans (hb8a.mono HB8.out.size)).grown HG10.out (Nat.le_trans HB8.out.size hb8a.size) (fun q hq => (HO8A.out.base q hq).1))
                        clear hb8a
                        go_roundw
                        case rel => exact ⟨x + 1, true, rfl, by go_num, ⟨((x : Int), (y : Int)), HTRUE.out, HP10.out, by rw [HMM.out]; exact HO10.out⟩, (fun e => by cases e), PT10.out.1, PT10.out.2, HB10.out⟩
                        case measure => simp [intOf]; omega
                · go_wp2_with fail
                  go_roundw
                  case rel =>
                    refine ⟨y + 1, false, rfl, by go_num, HSTF.out, fun _ => ⟨by omega, fun u h1 h2 h3 h4 h5 => ?_, hb3⟩, HPT.out.1, HPT.out.2, hbw⟩
                    by_cases he : u.2 < y
                    · exact HROW.out u h1 h2 h3 h4 he
                    · exact HCOL.out u h1 h2 (by omega) (by omega)
                  case measure => simp [intOf]; omega
              · have HSTF := Lib.hid hst
                clear hfa hst
                by_cases hlx : (x : Int) ≤ W - (hx - lx)
                all_goals
                  go_wp2_with fail
                  go_roundw
                  case rel => exact ⟨y + 1, true, rfl, by go_num, HSTF.out, (fun e => by cases e), HPT.out.1, HPT.out.2, hbw⟩
                  case measure => simp [intOf]; omega
          · have HN : Hid (nestTo W H L (k + 1) = st) := Lib.hid (by
              rw [HST.out, HNV.out none (fun u h1 h2 h3 h4 => HROW.out u h1 h2 h3 h4 (by omega))]; rfl)
            go_wp2_with fail
            go_roundw
            case rel => exact ⟨k + 1, by omega, by go_num, by rw [HN.out]; exact HSTF.out.1, by rw [HN.out]; exact HSTF.out.2, hbw⟩
            case measure => simp [intOf]; omega
        · obtain ⟨v, hf, hpl, hol⟩ := hst
          have HN : Hid (nestTo W H L (k + 1) = ⟨st.out ++ [(k, v)], st.laid ++ [movedL s v]⟩) := Lib.hid (by rw [HST.out, HNV.out _ hf]; unfold nestPut; rw [HSEQ.out])
          have HPL := Lib.hid hpl
          have HOL := Lib.hid hol
          clear hf hpl hol hfa
          by_cases hly : (y : Int) ≤ H - (hy - ly)
          all_goals
            go_wp2_with fail
            go_roundw
            case rel => exact ⟨k + 1, by omega, by go_num, by rw [HN.out]; exact HPL.out, by rw [HN.out]; exact HOL.out, hbw⟩
            case measure => simp [intOf]; omega
    · obtain rfl : k = m := by omega
      have HF : Hid (nestTo W H L k = nestTo W H L L.length) := Lib.hid (by rw [HM.out])
      have HBW := Lib.hid hbw
      rw [HF.out] at HP
      go_wp2_with fail
      go_ret
      exact ⟨_, rfl, HP.out, HBW.out⟩
end Go.Proofs.Ythbekbfhpedghaa

/- The law's placed: two lists of placed shapes that are the same. -/
namespace Go.Proofs.Ythbekbfhpedghaa
open Go.RowKit Go.Sort
attribute [local go_sem ↓] run_min_mn run_max_mx Go.wp_at_zero Go.wp_at_succ

/-- Placed shapes, one after the other. -/
def PlIn (w : World) (b : Nat) (l : List (Nat × Pt)) : Prop := ∀ (i : Nat) (x : Nat × Pt), l[i]? = some x → w.cell? ⟨b, i * 3, none⟩ = some (.int .i64 (x.1 : Nat)) ∧ w.cell? ⟨b, i * 3 + 1, none⟩ = some (.int .i64 x.2.1) ∧ w.cell? ⟨b, i * 3 + 2, none⟩ = some (.int .i64 x.2.2)
def PlAt (w : World) (A : Option Addr) (l : List (Nat × Pt)) : Prop := l ≠ [] → ∃ b, A = some ⟨b, 0, none⟩ ∧ b < w.heap.size ∧ PlIn w b l
theorem PlIn.below {w w' : World} {b : Nat} {l : List (Nat × Pt)} (h : PlIn w b l) (hb : Below w.heap.size w w') (hB : b < w.heap.size) : PlIn w' b l := fun i x hx => by
  obtain ⟨h1, h2, h3⟩ := h i x hx
  exact ⟨(hb.cell (p := ⟨b, _, none⟩) hB).trans h1, (hb.cell (p := ⟨b, _, none⟩) hB).trans h2, (hb.cell (p := ⟨b, _, none⟩) hB).trans h3⟩
theorem PlAt.below {w w' : World} {A : Option Addr} {l : List (Nat × Pt)} (h : PlAt w A l) (hb : Below w.heap.size w w') : PlAt w' A l := fun hne => by
  obtain ⟨b, e, h1, h2⟩ := h hne
  exact ⟨b, e, Nat.lt_of_lt_of_le h1 hb.size, h2.below hb h1⟩
theorem plV_get : ∀ (l : List (Nat × Pt)) (i : Nat) (x : Nat × Pt), l[i]? = some x → (plV l)[i * 3]? = some (.int .i64 (x.1 : Nat)) ∧ (plV l)[i * 3 + 1]? = some (.int .i64 x.2.1) ∧ (plV l)[i * 3 + 2]? = some (.int .i64 x.2.2)
  | [], _, _, h => by simp at h
  | q :: l, 0, x, h => by
    obtain rfl : q = x := by simpa using h
    exact ⟨rfl, rfl, rfl⟩
  | q :: l, i + 1, x, h => by
    have := plV_get l i x (by simpa using h)
    rw [show (i + 1) * 3 = i * 3 + 1 + 1 + 1 by omega]
    simpa only [plV, List.getElem?_cons_succ] using this
theorem PlOwn.slice {w : World} {base : Nat} {v : Value} {l : List (Nat × Pt)} (h : PlOwn w base v l) : ∃ A c, v = .slice A l.length c ∧ PlAt w A l := by
  rcases h.2 with ⟨rfl, hn⟩ | ⟨g, cap, cur, rfl, hb, hg, hnc, _, hsz, ht⟩
  · exact ⟨none, 0, by rw [hn], fun hne => absurd (List.eq_nil_of_length_eq_zero hn) hne⟩
  · refine ⟨_, cap, rfl, fun _ => ⟨g, rfl, (Array.getElem?_eq_some_iff.1 hg).1, fun i x hx => ?_⟩⟩
    obtain ⟨h1, h2, h3⟩ := plV_get l i x hx
    have key : ∀ j u, (plV l)[j]? = some u → w.cell? ⟨g, j, none⟩ = some u := fun j u hu => by
      rw [cell_of_row w g _ cur _ (0, 0) hg]
      rw [← ht, List.getElem?_take] at hu
      split at hu
      · simpa using hu
      · cases hu
    exact ⟨key _ _ h1, key _ _ h2, key _ _ h3⟩

set_option maxRecDepth 100000 in
set_option maxHeartbeats 2000000 in
theorem placed_same (A : Option Addr) (c : Nat) (B : Option Addr) (d n : Nat) (l : List (Nat × Pt)) (w : World) (hl : l.length = n) (hn' : n ≤ 100) (hx : PlAt w A l) (hy : PlAt w B l) :
    Calls Try.prog 9 #[.slice A n c, .slice B n d] w fun e w' => e = .returned (.bool true) ∧ Below w.heap.size w w' := by
  have HL := Lib.hid hl
  have HX := Lib.hid hx
  have HY := Lib.hid hy
  clear hl hx hy
  go_enter Try.func9, Try.ntmps9
  go_wp2
  go_loopw [5] (fun i wr => ∃ k : Nat, k ≤ n ∧ i = .int .i64 k ∧ Below w.heap.size w wr) (fun i _ => n - (intOf i).toNat)
  case atStart => exact ⟨0, Nat.zero_le _, rfl, Below.refl _ _⟩
  case round =>
    obtain ⟨k, hk, rfl, hbw⟩ := hrel
    by_cases hlt : k < n
    · have hkl : k < l.length := by rw [HL.out]; exact hlt
      have hne : l ≠ [] := by intro e; rw [e] at hkl; simp at hkl
      obtain ⟨b, rfl, hb, hp⟩ := HX.out hne
      obtain ⟨b', rfl, hb', hp'⟩ := HY.out hne
      obtain ⟨h1, h2, h3⟩ := (hp.below hbw hb) k _ (List.getElem?_eq_getElem hkl)
      obtain ⟨g1, g2, g3⟩ := (hp'.below hbw hb') k _ (List.getElem?_eq_getElem hkl)
      clear hp hp' hne
      generalize l[k] = x at *
      obtain ⟨i, x, y⟩ := x
      simp only at h1 h2 h3 g1 g2 g3
      have t1 := cell_regrown h1
      have t2 := cell_regrown h2
      have t3 := cell_regrown h3
      have t4 := cell_regrown g1
      have t5 := cell_regrown g2
      have t6 := cell_regrown g3
      clear h1 h2 h3 g1 g2 g3
      go_wp2_with fail
      refine wp_region_quiet_below (by kernel_rfl) (by kernel_rfl) ?_
      repeat (go_big_quiet_step (fail))
      refine wpQuiet_nil ?_
      intro _ hw'
      obtain ⟨⟨dq, osq⟩, hw''⟩ := hw'
      subst hw''
      have HBE := Lib.hid (hbw.trans ((below_regrown wr dq osq).mono hbw.size))
      clear t1 t2 t3 t4 t5 t6
      go_wp2_with fail
      go_roundw
      case rel => exact ⟨k + 1, by omega, by go_num, HBE.out⟩
      case measure => simp [intOf]; omega
    · go_wp2
      go_ret
      exact ⟨rfl, hbw⟩
end Go.Proofs.Ythbekbfhpedghaa
