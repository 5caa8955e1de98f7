/- Parts of the proof, one after the other: Spiral, ConvOf, NestTop, Slab, Slab2, Slab3, PlacedMath, PtsFold, Lives4, HulledLaw, PtsLim, MinkKit, NoFitLaw, PlacedEnd, IntRow, PlacedLoop. -/
import Derived.Test.YtffjonpajjioaaaTp5
import Derived.Test.YtffjonpajjioaaaTp4
import Derived.Test.YtffjonpajjioaaaTp1
import Derived.Test.YtffjonpajjioaaaTp2
import Derived.Test.YtffjonpajjioaaaEngD
import Derived.Test.YtffjonpajjioaaaChecked
import Derived.KernelRfl
import Derived.Laws.MakeOwn
import Derived.Test.YtffjonpajjioaaaTp3
/- Shape: a simple polygon that turns to the left at all corners goes up once and down once. -/
namespace Go.Proofs.Ytffjonpajjioaaa

/-- Two chains that rise and do not meet: which one is to the left does not change. -/
theorem two_chains {C E : Nat → Pt} {p q : Nat} (hC : ∀ i, i < p → ltP (C i) (C (i + 1))) (hE : ∀ j, j < q → ltP (E j) (E (j + 1))) :
    ∀ m i j, (p - i) + (q - j) = m → (∀ i' j', i ≤ i' → j ≤ j' → i' < p → j' < q → (i' + 1 < p ∨ j' + 1 < q) → meetP (C i') (C (i' + 1)) (E j') (E (j' + 1)) = false) →
      i < p → j < q → ltP (C i) (E (j + 1)) → ltP (E j) (C (i + 1)) → LftB (C i) (C (i + 1)) (E j) (E (j + 1)) →
      ∃ i' j', i ≤ i' ∧ i' < p ∧ j ≤ j' ∧ j' < q ∧ LftB (C i') (C (i' + 1)) (E j') (E (j' + 1)) ∧ ltP (C i') (E (j' + 1)) ∧ ltP (E j') (C (i' + 1)) ∧
        ((i' + 1 = p ∧ leP (C p) (E (j' + 1))) ∨ (j' + 1 = q ∧ leP (E q) (C (i' + 1))))
  | 0, i, j, hm, _, hi, _, _, _, _ => by omega
  | m + 1, i, j, hm, nm, hi, hj, o1, o2, hl => by
    rcases leP_total (C (i + 1)) (E (j + 1)) with g | g
    · by_cases hp : i + 1 = p
      · exact ⟨i, j, Nat.le_refl _, hi, Nat.le_refl _, hj, hl, o1, o2, .inl ⟨hp, by rw [← hp]; exact g⟩⟩
      · have up := lft_up (hC i hi) (hE j hj) o1 o2 hl (nm i j (Nat.le_refl _) (Nat.le_refl _) hi hj (.inl (by omega)))
        have k := up.1 g
        have g' : ltP (C (i + 1)) (E (j + 1)) := by
          rcases g with e | g
          · rw [e] at k
            exfalso
            have : crossP (E j) (E (j + 1)) (E (j + 1)) = 0 := by unfold crossP cross; grind
            omega
          · exact g
        obtain ⟨i', j', a1, a2⟩ := two_chains hC hE m (i + 1) j (by omega) (fun i' j' h1 h2 => nm i' j' (by omega) h2) (by omega) hj g' (ltP_trans o2 (hC (i + 1) (by omega)))
          ⟨fun _ => k, fun h => absurd (leP_ltP h o2) (ltP_irrefl _)⟩
        exact ⟨i', j', by omega, a2⟩
    · by_cases hq : j + 1 = q
      · exact ⟨i, j, Nat.le_refl _, hi, Nat.le_refl _, hj, hl, o1, o2, .inr ⟨hq, by rw [← hq]; exact .inr g⟩⟩
      · have up := lft_up (hC i hi) (hE j hj) o1 o2 hl (nm i j (Nat.le_refl _) (Nat.le_refl _) hi hj (.inr (by omega)))
        have k := up.2 (.inr g)
        obtain ⟨i', j', a1, a2, a3, a4⟩ := two_chains hC hE m i (j + 1) (by omega) (fun i' j' h1 h2 => nm i' j' h1 (by omega)) hi (by omega) (ltP_trans o1 (hE (j + 1) (by omega))) g
          ⟨fun h => absurd (leP_ltP h o1) (ltP_irrefl _), fun _ => k⟩
        exact ⟨i', j', a1, a2, by omega, a4⟩

theorem chain_le {C : Nat → Pt} {p : Nat} (hC : ∀ i, i < p → ltP (C i) (C (i + 1))) {i : Nat} : ∀ {j}, i ≤ j → j ≤ p → leP (C i) (C j)
  | 0, h, _ => by have : i = 0 := by omega
                  rw [this]; exact leP_refl _
  | j + 1, h, hp => by
    by_cases e : i = j + 1
    · rw [e]; exact leP_refl _
    · exact leP_trans (chain_le hC (j := j) (by omega) (by omega)) (.inr (hC j (by omega)))
theorem chain_lt {C : Nat → Pt} {p : Nat} (hC : ∀ i, i < p → ltP (C i) (C (i + 1))) {i j : Nat} (h : i < j) (hp : j ≤ p) : ltP (C i) (C j) :=
  ltP_leP (hC i (by omega)) (chain_le hC (i := i + 1) (by omega) hp)
/-- The edge that crosses a point's height. -/
theorem chain_at {C : Nat → Pt} {x : Pt} (h0 : leP (C 0) x) : ∀ p, ltP x (C p) → ∃ j, j < p ∧ leP (C j) x ∧ ltP x (C (j + 1))
  | 0, h => absurd (leP_ltP h0 h) (ltP_irrefl _)
  | p + 1, h => by
    rcases leP_total (C p) x with g | g
    · exact ⟨p, by omega, g, h⟩
    · obtain ⟨j, h1, h2⟩ := chain_at h0 p g
      exact ⟨j, by omega, h2⟩

theorem meet_of_on {a b c d : Pt} (h : onP a b c = true) : meetP a b c d = true := by
  cases e : meetP a b c d
  · rw [(meet_cross e).1] at h; cases h
  · rfl
theorem cross_cyc (a b c : Pt) : crossP b c a = crossP a b c := by unfold crossP cross; grind
theorem cross_end (a b : Pt) : crossP a b b = 0 := by unfold crossP cross; grind

/-- Up, down to above where it began, and up again: not as high as before. -/
theorem lower_top {v : Nat → Pt} {a b c d : Nat} (hab : a < b) (hbc : b < c) (hcd : c < d)
    (r1 : ∀ i, a ≤ i → i < b → ltP (v i) (v (i + 1))) (f1 : ∀ i, b ≤ i → i < c → ltP (v (i + 1)) (v i)) (r2 : ∀ i, c ≤ i → i < d → ltP (v i) (v (i + 1)))
    (tb : 0 < crossP (v (b - 1)) (v b) (v (b + 1))) (tc : 0 < crossP (v (c - 1)) (v c) (v (c + 1)))
    (nm : ∀ i k, a ≤ i → i + 2 ≤ k → k < d → meetP (v i) (v (i + 1)) (v k) (v (k + 1)) = false) (hac : ltP (v a) (v c)) : ltP (v d) (v b) := by
  apply Classical.byContradiction
  intro hno
  have hbd0 : leP (v b) (v d) := (leP_total (v b) (v d)).resolve_right hno
  have hbd : ltP (v b) (v d) := by
    rcases hbd0 with e | h
    · exfalso
      have m := nm (b - 1) (d - 1) (by omega) (by omega) (by omega)
      rw [show b - 1 + 1 = b by omega, show d - 1 + 1 = d by omega] at m
      have o := (meet_cross m).2.1
      rw [← e, onP_turn, onP_start] at o
      cases o
    · exact h
  -- the three chains
  have hC : ∀ i, i < b - a → ltP (v (a + i)) (v (a + i + 1)) := fun i hi => r1 (a + i) (by omega) (by omega)
  have hE : ∀ j, j < c - b → ltP (v (c - j)) (v (c - (j + 1))) := fun j hj => by
    have := f1 (c - (j + 1)) (by omega) (by omega)
    rwa [show c - (j + 1) + 1 = c - j by omega] at this
  have hG : ∀ i, i < d - c → ltP (v (c + i)) (v (c + i + 1)) := fun i hi => r2 (c + i) (by omega) (by omega)
  have hcb : ltP (v c) (v b) := by
    have := chain_lt (C := fun j => v (c - j)) (p := c - b) hE (i := 0) (j := c - b) (by omega) (Nat.le_refl _)
    simp only [Nat.sub_zero] at this
    rwa [show c - (c - b) = b by omega] at this
  -- where the first chain crosses the height of the lower corner
  obtain ⟨j, hj, j1, j2⟩ := chain_at (C := fun i => v (a + i)) (x := v c) (.inr (by simpa using hac)) (b - a) (by
    show ltP (v c) (v (a + (b - a)))
    rw [show a + (b - a) = b by omega]; exact hcb)
  have j1 : leP (v (a + j)) (v c) := j1
  have j2 : ltP (v c) (v (a + j + 1)) := j2
  -- the lower corner is to its left
  have hleft : 0 < crossP (v (a + j)) (v (a + j + 1)) (v c) := by
    rcases Int.lt_trichotomy (crossP (v (a + j)) (v (a + j + 1)) (v c)) 0 with g | g | g
    · exfalso
      have hne : v (a + j) ≠ v c := fun e => by
        rw [← e] at g
        have : crossP (v (a + j)) (v (a + j + 1)) (v (a + j)) = 0 := by unfold crossP cross; grind
        omega
      have jlt : ltP (v (a + j)) (v c) := j1.resolve_left hne
      have c1 := hE 0 (by omega)
      simp only [Nat.sub_zero] at c1
      obtain ⟨i', j', x1, x2, x3, x4, x5, x6, x7, x8⟩ := two_chains (C := fun i => v (a + i)) (E := fun j => v (c - j)) (p := b - a) (q := c - b) hC hE _ j 0 rfl
        (fun i' j' h1 h2 h3 h4 h5 => by
          show meetP (v (a + i')) (v (a + i' + 1)) (v (c - j')) (v (c - (j' + 1))) = false
          have m := nm (a + i') (c - (j' + 1)) (by omega) (by omega) (by omega)
          rw [show c - (j' + 1) + 1 = c - j' by omega] at m
          rw [meetP_comm, meetP_turn1, ← meetP_comm]; exact m)
        hj (by omega) (leP_ltP j1 (by simpa using c1)) j2
        ⟨fun h => absurd (leP_ltP (by simpa using h) jlt) (ltP_irrefl _), fun _ => g⟩
      have x5 : LftB (v (a + i')) (v (a + i' + 1)) (v (c - j')) (v (c - (j' + 1))) := x5
      have both : i' + 1 = b - a ∧ j' + 1 = c - b := by
        rcases x8 with ⟨e, h⟩ | ⟨e, h⟩
        · refine ⟨e, ?_⟩
          by_cases q : j' + 1 = c - b
          · exact q
          · exfalso
            have := chain_lt (C := fun j => v (c - j)) (p := c - b) hE (i := j' + 1) (j := c - b) (by omega) (Nat.le_refl _)
            have this : ltP (v (c - (j' + 1))) (v (c - (c - b))) := this
            have h : leP (v (a + (b - a))) (v (c - (j' + 1))) := h
            rw [show c - (c - b) = b by omega] at this
            rw [show a + (b - a) = b by omega] at h
            exact ltP_irrefl _ (leP_ltP h this)
        · refine ⟨?_, e⟩
          by_cases q : i' + 1 = b - a
          · exact q
          · exfalso
            have := chain_lt (C := fun i => v (a + i)) (p := b - a) hC (i := i' + 1) (j := b - a) (by omega) (Nat.le_refl _)
            have this : ltP (v (a + (i' + 1))) (v (a + (b - a))) := this
            have h : leP (v (c - (c - b))) (v (a + (i' + 1))) := h
            rw [show a + (b - a) = b by omega] at this
            rw [show c - (c - b) = b by omega] at h
            exact ltP_irrefl _ (leP_ltP h this)
      have e1 : a + i' = b - 1 := by omega
      have e2 : c - j' = b + 1 := by omega
      have e3 : c - (j' + 1) = b := by omega
      rw [e1, show b - 1 + 1 = b by omega, e2, e3] at x5
      rcases leP_total (v (b + 1)) (v (b - 1)) with q | q
      · have k := x5.1 q
        have := crossP_rot (v b) (v (b + 1)) (v (b - 1))
        have := cross_cyc (v (b - 1)) (v b) (v (b + 1))
        omega
      · have k := x5.2 (.inr q)
        omega
    · exfalso
      have m := nm (a + j) c (by omega) (by omega) hcd
      rw [meet_of_on (on_of_between g j1 (.inr j2))] at m
      cases m
    · exact g
  -- the second rise stays to its left
  have right : ∃ i, i < d - c ∧ ltP (v (c + i)) (v b) ∧ leP (v b) (v (c + i + 1)) ∧ crossP (v (c + i)) (v (c + i + 1)) (v b) < 0 := by
    have g0 := hG 0 (by omega)
    simp only [Nat.add_zero] at g0
    obtain ⟨i', j', x1, x2, x3, x4, x5, x6, x7, x8⟩ := two_chains (C := fun i => v (c + i)) (E := fun i => v (a + i)) (p := d - c) (q := b - a) hG hC _ 0 j rfl
      (fun i' j' h1 h2 h3 h4 h5 => by
        show meetP (v (c + i')) (v (c + i' + 1)) (v (a + j')) (v (a + j' + 1)) = false
        rw [meetP_comm]
        exact nm (a + j') (c + i') (by omega) (by omega) (by omega))
      (by omega) hj j2 (leP_ltP j1 (by simpa using g0))
      ⟨fun _ => hleft, fun h => by
        exfalso
        have e := leP_anti (by simpa using h) j1
        have : crossP (v (a + j)) (v (a + j + 1)) (v c) = 0 := by rw [e]; unfold crossP cross; grind
        omega⟩
    have x5 : LftB (v (c + i')) (v (c + i' + 1)) (v (a + j')) (v (a + j' + 1)) := x5
    have x6 : ltP (v (c + i')) (v (a + j' + 1)) := x6
    have x7 : ltP (v (a + j')) (v (c + i' + 1)) := x7
    rcases x8 with ⟨e, h⟩ | ⟨e, h⟩
    · exfalso
      have h : leP (v (c + (d - c))) (v (a + (j' + 1))) := h
      rw [show c + (d - c) = d by omega] at h
      have := chain_le (C := fun i => v (a + i)) (p := b - a) hC (i := j' + 1) (j := b - a) (by omega) (Nat.le_refl _)
      have this : leP (v (a + (j' + 1))) (v (a + (b - a))) := this
      rw [show a + (b - a) = b by omega] at this
      exact ltP_irrefl _ (leP_ltP (leP_trans h this) hbd)
    · have h : leP (v (a + (b - a))) (v (c + (i' + 1))) := h
      rw [show a + (b - a) = b by omega] at h
      have eb : a + j' + 1 = b := by omega
      have m := nm (a + j') (c + i') (by omega) (by omega) (by omega)
      rw [meetP_comm] at m
      have up := lft_up (hG i' x2) (hC j' x4) x6 x7 x5 m
      rw [eb] at up x6
      exact ⟨i', x2, x6, h, up.2 h⟩
  -- and to the right of the fall
  have left : ∃ i, i < d - c ∧ ltP (v (c + i)) (v b) ∧ leP (v b) (v (c + i + 1)) ∧ 0 < crossP (v (c + i)) (v (c + i + 1)) (v b) := by
    have e0 := hE 0 (by omega)
    have g0 := hG 0 (by omega)
    simp only [Nat.sub_zero, Nat.add_zero, Nat.zero_add] at e0 g0
    have t1 : 0 < crossP (v c) (v (c + 1)) (v (c - 1)) := by rw [cross_cyc]; exact tc
    have t2 : crossP (v c) (v (c - 1)) (v (c + 1)) < 0 := by
      have := crossP_rot (v (c - 1)) (v c) (v (c + 1))
      omega
    -- from a state behind the first pair on
    have go : ∀ i j, (0 < i ∨ 0 < j) → i < c - b → j < d - c → ltP (v (c - i)) (v (c + (j + 1))) → ltP (v (c + j)) (v (c - (i + 1))) → LftB (v (c - i)) (v (c - (i + 1))) (v (c + j)) (v (c + (j + 1))) →
        ∃ i, i < d - c ∧ ltP (v (c + i)) (v b) ∧ leP (v b) (v (c + i + 1)) ∧ 0 < crossP (v (c + i)) (v (c + i + 1)) (v b) := by
      intro i j hij hi hj' o1 o2 hl
      have nm2 : ∀ i' j', i ≤ i' → j ≤ j' → i' < c - b → j' < d - c → meetP (v (c - i')) (v (c - (i' + 1))) (v (c + j')) (v (c + (j' + 1))) = false := fun i' j' h1 h2 h3 h4 => by
        have m := nm (c - (i' + 1)) (c + j') (by omega) (by omega) (by omega)
        rw [show c - (i' + 1) + 1 = c - i' by omega] at m
        rw [meetP_turn1]; exact m
      obtain ⟨i', j', x1, x2, x3, x4, x5, x6, x7, x8⟩ := two_chains (C := fun i => v (c - i)) (E := fun j => v (c + j)) (p := c - b) (q := d - c) hE hG _ i j rfl
        (fun i' j' h1 h2 h3 h4 _ => nm2 i' j' h1 h2 h3 h4) hi hj' o1 o2 hl
      have x5 : LftB (v (c - i')) (v (c - (i' + 1))) (v (c + j')) (v (c + (j' + 1))) := x5
      have x6 : ltP (v (c - i')) (v (c + (j' + 1))) := x6
      have x7 : ltP (v (c + j')) (v (c - (i' + 1))) := x7
      rcases x8 with ⟨e, h⟩ | ⟨e, h⟩
      · have h : leP (v (c - (c - b))) (v (c + (j' + 1))) := h
        rw [show c - (c - b) = b by omega] at h
        have eb : c - (i' + 1) = b := by omega
        have up := lft_up (hE i' x2) (hG j' x4) x6 x7 x5 (nm2 i' j' x1 x3 x2 x4)
        rw [eb] at up x7
        exact ⟨j', x4, x7, h, up.1 h⟩
      · exfalso
        have h : leP (v (c + (d - c))) (v (c - (i' + 1))) := h
        rw [show c + (d - c) = d by omega] at h
        have := chain_le (C := fun j => v (c - j)) (p := c - b) hE (i := i' + 1) (j := c - b) (by omega) (Nat.le_refl _)
        have this : leP (v (c - (i' + 1))) (v (c - (c - b))) := this
        rw [show c - (c - b) = b by omega] at this
        exact ltP_irrefl _ (leP_ltP (leP_trans h this) hbd)
    rcases leP_total (v (c - 1)) (v (c + 1)) with g | g
    · by_cases q : c - b = 1
      · have eb : c - 1 = b := by omega
        rw [eb] at t1 g
        exact ⟨0, by omega, by simpa using hcb, by simpa using g, by simpa using t1⟩
      · have g' : ltP (v (c - 1)) (v (c + 1)) := by
          rcases g with e | g
          · rw [e, cross_end] at t1; omega
          · exact g
        have e1 := hE 1 (by omega)
        refine go 1 0 (.inl (by omega)) (by omega) (by omega) (by simpa using g') (by simpa using ltP_trans e0 e1) ⟨fun _ => by simpa using t1, fun h => ?_⟩
        exact absurd (leP_ltP (by simpa using h) e0) (ltP_irrefl _)
    · by_cases q : d - c = 1
      · exfalso
        have ed : c + 1 = d := by omega
        rw [ed] at g
        have := chain_le (C := fun j => v (c - j)) (p := c - b) hE (i := 1) (j := c - b) (by omega) (Nat.le_refl _)
        have this : leP (v (c - 1)) (v (c - (c - b))) := this
        rw [show c - (c - b) = b by omega] at this
        exact ltP_irrefl _ (ltP_trans (ltP_leP g this) hbd)
      · have g1 := hG 1 (by omega)
        refine go 0 1 (.inr (by omega)) (by omega) (by omega) (by simpa using ltP_trans g0 g1) (by simpa using g) ⟨fun h => ?_, fun _ => by simpa using t2⟩
        exact absurd (leP_ltP (by simpa using h) g0) (ltP_irrefl _)
  obtain ⟨i, hi, a1, a2, a3⟩ := right
  obtain ⟨k, hk, b1, b2, b3⟩ := left
  have eik : i = k := by
    rcases Nat.lt_trichotomy i k with q | q | q
    · exfalso
      have := chain_le (C := fun i => v (c + i)) (p := d - c) hG (i := i + 1) (j := k) (by omega) (by omega)
      exact ltP_irrefl _ (leP_ltP (leP_trans a2 this) b1)
    · exact q
    · exfalso
      have := chain_le (C := fun i => v (c + i)) (p := d - c) hG (i := k + 1) (j := i) (by omega) (by omega)
      exact ltP_irrefl _ (leP_ltP (leP_trans b2 this) a1)
  subst eik
  omega

end Go.Proofs.Ytffjonpajjioaaa

/- Shape: what both programs call convex in normal form is a convex polygon. -/
namespace Go.Proofs.Ytffjonpajjioaaa

theorem onP_neg3 (a b p : Pt) : onP (negP a) (negP b) (negP p) = onP a b p := onP_neg a b p
theorem meetP_neg (a b c d : Pt) : meetP (negP a) (negP b) (negP c) (negP d) = meetP a b c d := by
  have o : ∀ a b c : Pt, onB (negP a).1 (negP a).2 (negP b).1 (negP b).2 (negP c).1 (negP c).2 = onB a.1 a.2 b.1 b.2 c.1 c.2 := fun a b c => onP_neg a b c
  have k : ∀ a b c : Pt, cross (negP a).1 (negP a).2 (negP b).1 (negP b).2 (negP c).1 (negP c).2 = cross a.1 a.2 b.1 b.2 c.1 c.2 := fun a b c => crossP_neg a b c
  unfold meetP meetB
  rw [o, o, o, o, k, k, k, k]

/-- The end of a run. -/
theorem run_end (R : Nat → Prop) (n : Nat) (hn : ¬ R n) : ∀ m i, n - i = m → i ≤ n → ∃ j, i ≤ j ∧ j ≤ n ∧ (∀ k, i ≤ k → k < j → R k) ∧ ¬ R j
  | 0, i, hm, hi => ⟨i, Nat.le_refl _, hi, fun k h1 h2 => by omega, by rw [show i = n by omega]; exact hn⟩
  | m + 1, i, hm, hi => by
    by_cases h : R i
    · obtain ⟨j, j1, j2, j3, j4⟩ := run_end R n hn m (i + 1) (by omega) (by omega)
      refine ⟨j, by omega, j2, fun k h1 h2 => ?_, j4⟩
      by_cases e : k = i
      · rw [e]; exact h
      · exact j3 k (by omega) h2
    · exact ⟨i, Nat.le_refl _, hi, fun k h1 h2 => by omega, h⟩

/-- A polygon by its corners: what the two programs ask of it. -/
structure TurnV (l : List Pt) : Prop where
  three : 3 ≤ l.length
  simp_ : SimpleV l
  turn : ∀ i, 0 < crossP (vtx l i) (vtx l (i + 1)) (vtx l (i + 1 + 1))
  low : ∀ i, i < l.length → 0 < i → ltP (vtx l 0) (vtx l i)

theorem turnV {l : List Pt} (h3 : 3 ≤ l.length) (h : convexB l = true) : TurnV l := by
  have hs := convexB_simple h
  unfold convexB at h
  rw [Bool.and_eq_true, List.all_eq_true] at h
  have at_ : ∀ i, i < l.length → convexAt l i = true := fun i hi => h.2 i (List.mem_range.2 hi)
  refine ⟨h3, (simpleV l).1 hs, fun i => ?_, fun i hi h0 => ?_⟩
  · have hm : i % l.length < l.length := Nat.mod_lt _ (by omega)
    have k := at_ (i % l.length) hm
    unfold convexAt at k
    rw [Bool.and_eq_true] at k
    have k1 := k.1
    rw [Bool.not_eq_true', decide_eq_false_iff_not] at k1
    rw [← vtx_lt hm, vtx_nx, vtx_nx, vtx_mod, vtx_mod1] at k1
    have e : vtx l (i % l.length + 1 + 1) = vtx l (i + 1 + 1) := by
      unfold vtx
      rw [Nat.add_assoc, Nat.mod_add_mod]
    rw [e] at k1
    omega
  · have k := at_ i hi
    unfold convexAt at k
    rw [Bool.and_eq_true, Bool.or_eq_true] at k
    rcases k.2 with q | q
    · simp at q; omega
    · rw [vtx_lt hi, vtx_lt (show 0 < l.length by omega)]
      exact firstP_iff.1 q

theorem TurnV.ends {l : List Pt} (h : TurnV l) : vtx l l.length = vtx l 0 := by have := vtx_add l 0; rwa [Nat.zero_add] at this
theorem TurnV.edge {l : List Pt} (h : TurnV l) {i : Nat} (hi : i < l.length) : ltP (vtx l i) (vtx l (i + 1)) ∨ ltP (vtx l (i + 1)) (vtx l i) := by
  rcases leP_total (vtx l i) (vtx l (i + 1)) with q | q
  · rcases q with e | q
    · exact absurd e (h.simp_.ne i hi)
    · exact .inl q
  · exact .inr q
theorem TurnV.first {l : List Pt} (h : TurnV l) : ltP (vtx l 0) (vtx l 1) := h.low 1 (by have := h.three; omega) (by omega)
theorem TurnV.last {l : List Pt} (h : TurnV l) : ltP (vtx l l.length) (vtx l (l.length - 1)) := by
  rw [h.ends]; exact h.low _ (by have := h.three; omega) (by have := h.three; omega)
theorem TurnV.apart {l : List Pt} (h : TurnV l) {i k : Nat} (h2 : i + 2 ≤ k) (hk : k < l.length) (h0 : 0 < i ∨ k + 1 < l.length) : meetP (vtx l i) (vtx l (i + 1)) (vtx l k) (vtx l (k + 1)) = false := by
  refine h.simp_.hit i k h2 hk ?_
  by_cases e : k + 1 = l.length
  · rw [e, Nat.mod_self]; omega
  · rw [Nat.mod_eq_of_lt (by omega)]; omega
theorem TurnV.at_ {l : List Pt} (h : TurnV l) {b : Nat} (hb : 0 < b) : 0 < crossP (vtx l (b - 1)) (vtx l b) (vtx l (b + 1)) := by
  have := h.turn (b - 1)
  rwa [show b - 1 + 1 = b by omega] at this

/-- No spiral comes back to the lowest corner. -/
theorem no_spiral {l : List Pt} (h : TurnV l) : ∀ m a b c, l.length - c ≤ m → a < b → b < c → c < l.length → (∀ i, a ≤ i → i < b → ltP (vtx l i) (vtx l (i + 1))) → (∀ i, b ≤ i → i < c → ltP (vtx l (i + 1)) (vtx l i)) →
    ltP (vtx l c) (vtx l (c + 1)) → ltP (vtx l a) (vtx l c) → False
  | 0, a, b, c, hm, _, _, hc, _, _, _, _ => by omega
  | m + 1, a, b, c, hm, hab, hbc, hc, r1, f1, up, hac => by
    have three := h.three
    have hl := h.last
    -- up to the next top
    obtain ⟨d, d1, d2, d3, d4⟩ := run_end (fun i => ltP (vtx l i) (vtx l (i + 1))) (l.length - 1) (by
      rw [show l.length - 1 + 1 = l.length by omega]
      exact fun q => ltP_asymm q hl) _ c rfl (by omega)
    have hcd : c < d := by
      rcases Nat.lt_or_eq_of_le d1 with q | q
      · exact q
      · rw [← q] at d4; exact absurd up d4
    have down : ltP (vtx l (d + 1)) (vtx l d) := (h.edge (show d < l.length by omega)).resolve_left d4
    have top := lower_top (v := vtx l) hab hbc hcd r1 f1 d3 (h.at_ (by omega)) (h.at_ (by omega)) (fun i k h1 h2 h3 => h.apart h2 (by omega) (.inr (by omega))) hac
    -- down to the next low one
    obtain ⟨e, e1, e2, e3, e4⟩ := run_end (fun i => i < l.length ∧ ltP (vtx l (i + 1)) (vtx l i)) l.length (fun q => by omega) _ d rfl (by omega)
    have hde : d < e := by
      rcases Nat.lt_or_eq_of_le e1 with q | q
      · exact q
      · rw [← q] at e4; exact absurd ⟨by omega, down⟩ e4
    have low := lower_top (v := fun i => negP (vtx l i)) (a := b) (b := c) (c := d) (d := e) hbc hcd hde
      (fun i h1 h2 => ltP_neg.2 (f1 i h1 h2)) (fun i h1 h2 => ltP_neg.2 (d3 i h1 h2)) (fun i h1 h2 => ltP_neg.2 (e3 i h1 h2).2)
      (by rw [crossP_neg]; exact h.at_ (by omega)) (by rw [crossP_neg]; exact h.at_ (by omega))
      (fun i k h1 h2 h3 => by rw [meetP_neg]; exact h.apart h2 (by omega) (.inl (by omega))) (ltP_neg.2 top)
    have low : ltP (vtx l c) (vtx l e) := ltP_neg.1 low
    rcases Nat.lt_or_eq_of_le e2 with q | q
    · have up2 : ltP (vtx l e) (vtx l (e + 1)) := by
        rcases h.edge q with k | k
        · exact k
        · exact absurd ⟨q, k⟩ e4
      exact no_spiral h m c d e (by omega) hcd hde q d3 (fun i h1 h2 => (e3 i h1 h2).2) up2 low
    · rw [q, h.ends] at low
      exact ltP_asymm low (h.low c hc (by omega))

/-- Up once, and down once. -/
theorem TurnV.once {l : List Pt} (h : TurnV l) : ∃ b, 0 < b ∧ b < l.length ∧ (∀ i, i < b → ltP (vtx l i) (vtx l (i + 1))) ∧ ∀ i, b ≤ i → i < l.length → ltP (vtx l (i + 1)) (vtx l i) := by
  have three := h.three
  have hl := h.last
  obtain ⟨b, b1, b2, b3, b4⟩ := run_end (fun i => ltP (vtx l i) (vtx l (i + 1))) (l.length - 1) (by
    rw [show l.length - 1 + 1 = l.length by omega]
    exact fun q => ltP_asymm q hl) _ 0 rfl (by omega)
  have hb : 0 < b := by
    rcases Nat.lt_or_eq_of_le b1 with q | q
    · exact q
    · rw [← q] at b4; exact absurd h.first b4
  have down : ltP (vtx l (b + 1)) (vtx l b) := (h.edge (show b < l.length by omega)).resolve_left b4
  obtain ⟨c, c1, c2, c3, c4⟩ := run_end (fun i => i < l.length ∧ ltP (vtx l (i + 1)) (vtx l i)) l.length (fun q => by omega) _ b rfl (by omega)
  have hbc : b < c := by
    rcases Nat.lt_or_eq_of_le c1 with q | q
    · exact q
    · rw [← q] at c4; exact absurd ⟨by omega, down⟩ c4
  rcases Nat.lt_or_eq_of_le c2 with q | q
  · exfalso
    have up2 : ltP (vtx l c) (vtx l (c + 1)) := by
      rcases h.edge q with k | k
      · exact k
      · exact absurd ⟨q, k⟩ c4
    exact no_spiral h _ 0 b c (Nat.le_refl _) hb hbc q (fun i _ h2 => b3 i (by omega) h2) (fun i h1 h2 => (c3 i h1 h2).2) up2 (h.low c q (by omega))
  · exact ⟨b, hb, by omega, fun i hi => b3 i (by omega) hi, fun i h1 h2 => (c3 i h1 (by omega)).2⟩

def ngP (p : Pt) : Pt := negP p
theorem xr_neg2 (u v : Pt) : xr (negP u) (negP v) = xr u v := by unfold xr negP; grind
theorem xr_negR (u v : Pt) : xr u (negP v) = - xr u v := by unfold xr negP; grind
theorem xr_negL (u v : Pt) : xr (negP u) v = - xr u v := by unfold xr negP; grind

/-- Vectors that turn to the left all the way, in one half plane: each later one is to the left of each earlier one. -/
theorem up_chain {U : Nat → Pt} {s t : Nat} (hu : ∀ k, s ≤ k → k ≤ t → Up (U k)) (hx : ∀ k, s ≤ k → k < t → 0 < xr (U k) (U (k + 1))) : ∀ k, s < k → k ≤ t → 0 < xr (U s) (U k)
  | 0, h, _ => by omega
  | k + 1, h, hk => by
    by_cases e : s = k
    · rw [← e]; exact hx s (Nat.le_refl _) (by omega)
    · have ih := up_chain hu hx k (by omega) (by omega)
      exact xr_trans1 (hu s (Nat.le_refl _) (by omega)) (hu k (by omega) (by omega)) (hu (k + 1) (by omega) hk) ih (by have := hx k (by omega) (by omega); omega)

/-- One round of vectors, each to the left of the one before: what is to the right of the first one stays so. -/
theorem round_once {U : Nat → Pt} {s t n : Nat} (h0 : 0 < s) (hst : s ≤ t) (htn : t ≤ n) (hn : U n = U 0) (hx : ∀ k, k < n → 0 < xr (U k) (U (k + 1)))
    (u1 : ∀ k, k < s → Up (U k)) (u2 : ∀ k, s ≤ k → k < t → Up (negP (U k))) (u3 : ∀ k, t ≤ k → k < n → Up (U k)) {k : Nat} (hk0 : 0 < k) (hk : k + 1 < n) (hle : xr (U 0) (U k) ≤ 0) : xr (U 0) (U (k + 1)) ≤ 0 := by
  have U0 : Up (U 0) := u1 0 h0
  have u3' : ∀ k, t ≤ k → k ≤ n → Up (U k) := fun k h1 h2 => by
    by_cases e : k = n
    · rw [e, hn]; exact U0
    · exact u3 k h1 (by omega)
  have last : ∀ j, t ≤ j → j < n → xr (U 0) (U j) < 0 := fun j h1 h2 => by
    have := up_chain (U := U) (s := j) (t := n) (fun k a b => u3' k (by omega) b) (fun k a b => hx k b) n h2 (Nat.le_refl _)
    rw [hn, xr_swap] at this
    omega
  rcases Nat.lt_or_ge k s with g | g
  · exfalso
    have := up_chain (U := U) (s := 0) (t := k) (fun j _ b => u1 j (by omega)) (fun j _ b => hx j (by omega)) k hk0 (Nat.le_refl _)
    omega
  · rcases Nat.lt_or_ge (k + 1) t with g2 | g2
    · have := xr_trans2 U0 (u2 k g (by omega)) (u2 (k + 1) (by omega) g2) (by rw [xr_negR]; omega) (by rw [xr_neg2]; exact hx k (by omega))
      rw [xr_negR] at this
      omega
    · have := last (k + 1) g2 hk
      omega

/-- What rises and then falls back to where it began is never below. -/
theorem hill {g S : Nat → Int} {N : Nat} (hS0 : S 0 = 0) (hS : ∀ k, k < N → S (k + 1) = S k + g k) (hN : S N = 0) (h0 : 0 < g 0) (hl : g (N - 1) < 0) (hst : ∀ k, 0 < k → k + 1 < N → g k ≤ 0 → g (k + 1) ≤ 0) {k : Nat} (hk0 : 0 < k) (hk : k < N) : 0 < S k := by
  have last : 0 < S (N - 1) := by
    have := hS (N - 1) (by omega)
    rw [show N - 1 + 1 = N by omega] at this
    omega
  apply Classical.byContradiction
  intro hno
  -- from there on it only falls
  have key : ∀ j, k ≤ j → j < N → S j ≤ 0 ∧ (j < N - 1 → g j ≤ 0) ∨ S j ≤ 0 := fun _ _ _ => by
    rename_i j h1 h2
    exact .inr (by
      -- the step into the first such place went down
      have first : ∃ m, 0 < m ∧ m ≤ k ∧ S m ≤ 0 ∧ g (m - 1) ≤ 0 := by
        have : ∀ m, 0 < m → S m ≤ 0 → m < N → ∃ m', 0 < m' ∧ m' ≤ m ∧ S m' ≤ 0 ∧ g (m' - 1) ≤ 0 := by
          intro m
          induction m with
          | zero => intro h; omega
          | succ m ih =>
            intro _ hm hN'
            have e := hS m (by omega)
            by_cases z : m = 0
            · subst z; rw [hS0] at e; omega
            · by_cases p : S m ≤ 0
              · obtain ⟨m', a, b, c⟩ := ih (by omega) p (by omega)
                exact ⟨m', a, by omega, c⟩
              · exact ⟨m + 1, by omega, Nat.le_refl _, hm, by rw [Nat.add_sub_cancel]; omega⟩
        exact this k hk0 (by omega) hk
      obtain ⟨m, m1, m2, m3, m4⟩ := first
      have m0 : m ≠ 1 := fun e => by rw [e] at m4; simp at m4; omega
      have fall : ∀ j, m ≤ j → j < N → g (j - 1) ≤ 0 ∧ S j ≤ 0 := by
        intro j
        induction j with
        | zero => intro h; omega
        | succ j ih =>
          intro h1 h2
          by_cases e : m = j + 1
          · subst e; exact ⟨m4, m3⟩
          · obtain ⟨a, b⟩ := ih (by omega) (by omega)
            have c := hst (j - 1) (by omega) (by omega) a
            rw [show j - 1 + 1 = j by omega] at c
            have e2 := hS j (by omega)
            rw [Nat.add_sub_cancel]
            exact ⟨c, by omega⟩
      exact (fall j (by omega) h2).2)
  have := key (N - 1) (by omega) (by omega)
  omega

/-- CONVEX IN NORMAL FORM. -/
theorem conv_of_convexB {l : List Pt} (h3 : 3 ≤ l.length) (hc : convexB l = true) : Conv l (gt l 0) := by
  have h := turnV h3 hc
  obtain ⟨b, hb, hbn, hr, hf⟩ := h.once
  have per : ∀ i, vtx l (i + l.length) = vtx l i := fun i => vtx_add l i
  have evp : ∀ i, ev l (i + l.length) = ev l i := fun i => by
    unfold ev
    rw [vtx_add, show i + l.length + 1 = i + 1 + l.length by omega, vtx_add]
  have evx : ∀ i, 0 < xr (ev l i) (ev l (i + 1)) := fun i => by
    have := h.turn i
    rw [crossP_xr2] at this
    exact this
  have upr : ∀ i, i < b → Up (ev l i) := fun i hi => up_sub.2 (hr i hi)
  have upf : ∀ i, b ≤ i → i < l.length → Up (negP (ev l i)) := fun i h1 h2 => by
    have := up_sub.2 (hf i h1 h2)
    have e : subP (vtx l i) (vtx l (i + 1)) = negP (ev l i) := by unfold ev subP negP; simp only [Prod.mk.injEq]; omega
    rwa [e] at this
  -- each edge has all corners to its left, or on it
  have left : ∀ i, i < l.length → ∀ k, 0 < k → k < l.length - 1 → 0 < crossP (vtx l i) (vtx l (i + 1)) (vtx l (i + 1 + k)) := fun i hi k hk0 hk => by
    have hst : ∀ k, 0 < k → k + 1 < l.length → xr (ev l i) (ev l (i + k)) ≤ 0 → xr (ev l i) (ev l (i + (k + 1))) ≤ 0 := by
      by_cases g : i < b
      · intro k h1 h2 h3
        exact round_once (U := fun k => ev l (i + k)) (s := b - i) (t := l.length - i) (n := l.length) (by omega) (by omega) (by omega) (by simpa using evp i) (fun k _ => evx (i + k))
          (fun k hk => upr (i + k) (by omega)) (fun k h1 h2 => upf (i + k) (by omega) (by omega))
          (fun k h1 h2 => by
            show Up (ev l (i + k))
            rw [show i + k = (i + k - l.length) + l.length by omega, evp]
            exact upr _ (by omega)) h1 h2 h3
      · intro k h1 h2 h3
        have r := round_once (U := fun k => negP (ev l (i + k))) (s := l.length - i) (t := l.length - i + b) (n := l.length) (by omega) (by omega) (by omega) (by
            show negP (ev l (i + l.length)) = negP (ev l (i + 0))
            rw [evp, Nat.add_zero]) (fun k _ => by
            show 0 < xr (negP (ev l (i + k))) (negP (ev l (i + (k + 1))))
            rw [xr_neg2]; exact evx (i + k))
          (fun k hk => upf (i + k) (by omega) (by omega)) (fun k h1 h2 => by
            show Up (negP (negP (ev l (i + k))))
            rw [negP_negP, show i + k = (i + k - l.length) + l.length by omega, evp]
            exact upr _ (by omega))
          (fun k h1 h2 => by
            show Up (negP (ev l (i + k)))
            rw [show i + k = (i + k - l.length) + l.length by omega, evp]
            exact upf _ (by omega) (by omega)) h1 h2 (by
            show xr (negP (ev l (i + 0))) (negP (ev l (i + k))) ≤ 0
            rw [xr_neg2]; exact h3)
        have r : xr (negP (ev l (i + 0))) (negP (ev l (i + (k + 1)))) ≤ 0 := r
        rw [xr_neg2] at r
        exact r
    have e : crossP (vtx l i) (vtx l (i + 1)) (vtx l (i + 1 + k)) = xr (ev l i) (subP (vtx l (i + 1 + k)) (vtx l (i + 1))) := crossP_xr2 _ _ _
    rw [e]
    refine hill (S := fun k => xr (ev l i) (subP (vtx l (i + 1 + k)) (vtx l (i + 1)))) (g := fun k => xr (ev l i) (ev l (i + 1 + k))) (N := l.length - 1) ?_ (fun k _ => ?_) ?_ ?_ ?_ (fun k h1 h2 h3 => ?_) hk0 hk
    · show xr (ev l i) (subP (vtx l (i + 1)) (vtx l (i + 1))) = 0
      unfold xr subP; grind
    · show xr (ev l i) (subP (vtx l (i + 1 + k + 1)) (vtx l (i + 1))) = xr (ev l i) (subP (vtx l (i + 1 + k)) (vtx l (i + 1))) + xr (ev l i) (subP (vtx l (i + 1 + k + 1)) (vtx l (i + 1 + k)))
      rw [subP_add, subP_add, subP_add]; omega
    · show xr (ev l i) (subP (vtx l (i + 1 + (l.length - 1))) (vtx l (i + 1))) = 0
      rw [show i + 1 + (l.length - 1) = i + l.length by omega, vtx_add]
      unfold ev xr subP; grind
    · exact evx i
    · show xr (ev l i) (ev l (i + 1 + (l.length - 1 - 1))) < 0
      have := evx (i + (l.length - 1))
      rw [show i + (l.length - 1) + 1 = i + l.length by omega, evp, xr_swap] at this
      rw [show i + 1 + (l.length - 1 - 1) = i + (l.length - 1) by omega]
      omega
    · have := hst (k + 1) (by omega) (by omega) (by rw [show i + (k + 1) = i + 1 + k by omega]; exact h3)
      rw [show i + (k + 1 + 1) = i + 1 + (k + 1) by omega] at this
      exact this
  have hedge : ∀ i, i < l.length → Hedge l (vtx l i) (vtx l (i + 1)) := fun i hi => by
    refine ⟨h.simp_.ne i hi, fun p hp => ?_, vtx_mem (by omega) i, vtx_mem (by omega) (i + 1)⟩
    obtain ⟨m, hm, rfl⟩ := List.getElem_of_mem hp
    have em : l[m] = vtx l m := by rw [vtx_lt hm, gt_of (List.getElem?_eq_getElem hm)]
    -- its place behind the edge
    obtain ⟨k, hk, ek⟩ : ∃ k, k < l.length ∧ vtx l m = vtx l (i + 1 + k) := by
      by_cases g : i + 1 ≤ m
      · exact ⟨m - (i + 1), by omega, by rw [show i + 1 + (m - (i + 1)) = m by omega]⟩
      · exact ⟨m + l.length - (i + 1), by omega, by rw [show i + 1 + (m + l.length - (i + 1)) = m + l.length by omega, vtx_add]⟩
    rw [em, ek]
    by_cases k0 : k = 0
    · subst k0
      right
      rw [Nat.add_zero, ← onP_turn, onP_start]
    · by_cases k1 : k = l.length - 1
      · right
        rw [show i + 1 + k = i + l.length by omega, vtx_add, onP_start]
      · exact .inl (left i hi k (by omega) (by omega))
  refine ⟨⟨rfl, by omega, fun i hi => ?_, fun i h0 hi e => ?_⟩, h3, fun p hp => ?_⟩
  · have := hedge i hi
    rwa [vtx_lt hi, ← vtx_nx] at this
  · have := h.low i hi h0
    rw [vtx_lt hi, vtx_lt (show 0 < l.length by omega), e] at this
    exact ltP_irrefl _ this
  · obtain ⟨m, hm, rfl⟩ := List.getElem_of_mem hp
    by_cases e : m = 0
    · subst e; rw [gt_of (List.getElem?_eq_getElem hm)]; exact leP_refl _
    · have := h.low m hm (by omega)
      rw [vtx_lt hm, vtx_lt (show 0 < l.length by omega), gt_of (List.getElem?_eq_getElem hm)] at this
      exact .inr this

end Go.Proofs.Ytffjonpajjioaaa

/- Package shape's Nest. -/
namespace Go.Proofs.Ytffjonpajjioaaa
open Go.RowKit Go.Sort
attribute [local go_sem ↓] run_min_mn run_max_mx Go.wp_at_zero Go.wp_at_succ

theorem conv_shape {l : List Pt} (h : conE l = 0) : ShapeOk l := by
  obtain ⟨h1, h2⟩ := conE_zero h
  unfold polyB at h1
  rw [Bool.and_eq_true, inB_true] at h1
  exact ⟨⟨_, conv_of_convexB (by omega) h2⟩, by omega, h1.1⟩
theorem convsE_all : ∀ {L : List (List Pt)}, convsE L = 0 → ∀ l ∈ L, conE l = 0
  | [], _, l, h => by cases h
  | a :: L, h, l, hl => by
    have h : (if conE a = 0 then convsE L else conE a) = 0 := h
    by_cases e : conE a = 0
    · rw [if_pos e] at h
      rcases List.mem_cons.1 hl with rfl | hl
      · exact e
      · exact convsE_all h l hl
    · rw [if_neg e] at h; exact absurd h e

theorem checkConvexA_any (A : Option Addr) (n c : Nat) (L : List (List Pt)) (w : World) (hl : L.length = n) (hn' : n ≤ 1000) (hx : PolysAt w A L) :
    Calls Try.prog 13 #[.slice A n c] w fun e w' => e = .returned (.int .i64 (convsE L)) ∧ Below w.heap.size w w' := by
  by_cases h : L = []
  · subst h
    obtain rfl : 0 = n := hl
    show Calls _ _ _ w fun e w' => e = .returned (.int .i64 0) ∧ _
    clear hx
    go_enter Try.func13, Try.ntmps13
    go_wp2
    refine wp_loop_rounds 1 ?_
    rw [rounds_succ]
    go_wp2
    go_ret
    exact ⟨rfl, Below.refl _ _⟩
  · obtain ⟨b, off, rfl, h1, h2⟩ := hx h
    exact checkConvex_any b off n c L w hl hn' h2 h1

/-- What Nest says. -/
def nestE (W H : Int) (L : List (List Pt)) : Int := if (1 ≤ W ∧ W ≤ 100) ∧ (1 ≤ H ∧ H ≤ 100) ∧ L.length ≤ 16 then convsE L else 1
theorem nestE_cases (W H : Int) (L : List (List Pt)) : nestE W H L = 1 ∨ nestE W H L = 2 ∨ nestE W H L = 0 := by
  unfold nestE
  split
  · rename_i hh; clear hh
    induction L with
    | nil => exact .inr (.inr rfl)
    | cons l L ih =>
      have e : convsE (l :: L) = if conE l = 0 then convsE L else conE l := rfl
      rw [e]
      rcases conE_cases l with h | h | h
      · rw [if_neg (by omega)]; exact .inl h.1
      · rw [if_neg (by omega)]; exact .inr (.inl h.1)
      · rw [if_pos h.1]; exact ih
  · exact .inl rfl
def NestXTo (W H : Int) (L : List (List Pt)) (w : World) (e : Ending) (w' : World) : Prop :=
  Below w.heap.size w w' ∧ ((nestE W H L ≠ 0 ∧ e = .returned (.tuple #[.slice none 0 0, .int .i64 (nestE W H L)])) ∨
    (nestE W H L = 0 ∧ ∃ v, e = .returned (.tuple #[v, .int .i64 0]) ∧ PlOwn w' w.heap.size v (nestTo W H L L.length).out))

set_option maxRecDepth 100000 in
set_option maxHeartbeats 4000000 in
theorem nestX_any (hS : SortsPts) (hR : ReversesPts) (A : Option Addr) (m d : Nat) (L : List (List Pt)) (W H : Int) (w : World) (hm : L.length = m) (hm' : m ≤ 1000) (hx : PolysAt w A L) :
    Calls Try.prog 5 #[.int .i64 W, .int .i64 H, .slice A m d] w (NestXTo W H L w) := by
  have bad : ¬ ((1 ≤ W ∧ W ≤ 100) ∧ (1 ≤ H ∧ H ≤ 100) ∧ m ≤ 16) → nestE W H L = 1 := fun h => by unfold nestE; rw [hm, if_neg h]
  have good : ((1 ≤ W ∧ W ≤ 100) ∧ (1 ≤ H ∧ H ≤ 100) ∧ m ≤ 16) → nestE W H L = convsE L := fun h => by unfold nestE; rw [hm, if_pos h]
  by_cases g1 : W < 1
  · have E := Lib.hid (bad (by omega))
    clear bad good hx hm
    go_enter Try.func5, Try.ntmps5
    go_wp2
    go_ret2
    exact ⟨Below.refl _ _, .inl ⟨by rw [E.out]; decide, by rw [E.out]; rfl⟩⟩
  by_cases g2 : 100 < W
  · have E := Lib.hid (bad (by omega))
    clear bad good hx hm
    go_enter Try.func5, Try.ntmps5
    go_wp2
    go_ret2
    exact ⟨Below.refl _ _, .inl ⟨by rw [E.out]; decide, by rw [E.out]; rfl⟩⟩
  by_cases g3 : H < 1
  · have E := Lib.hid (bad (by omega))
    clear bad good hx hm
    go_enter Try.func5, Try.ntmps5
    go_wp2
    go_ret2
    exact ⟨Below.refl _ _, .inl ⟨by rw [E.out]; decide, by rw [E.out]; rfl⟩⟩
  by_cases g4 : 100 < H
  · have E := Lib.hid (bad (by omega))
    clear bad good hx hm
    go_enter Try.func5, Try.ntmps5
    go_wp2
    go_ret2
    exact ⟨Below.refl _ _, .inl ⟨by rw [E.out]; decide, by rw [E.out]; rfl⟩⟩
  by_cases g5 : 16 < m
  · have E := Lib.hid (bad (by omega))
    clear bad good hx hm
    go_enter Try.func5, Try.ntmps5
    go_wp2
    go_ret2
    exact ⟨Below.refl _ _, .inl ⟨by rw [E.out]; decide, by rw [E.out]; rfl⟩⟩
  have E := Lib.hid (good (by omega))
  have CK := Lib.hid (checkConvexA_any A m d L w hm (by omega) hx)
  have cs := nestE_cases W H L
  rw [E.out] at cs
  have NS := fun (V : World) (hV : Below w.heap.size w V) (h0 : convsE L = 0) => Lib.hid (nest_any hS hR A m d L W H V hm (by omega) (hx.below hV) (fun l hl => conv_shape (convsE_all h0 l hl)) (by omega) (by omega))
  clear bad good hx hm
  generalize convsE L = z at *
  rcases cs with rfl | rfl | rfl
  · go_enter Try.func5, Try.ntmps5
    go_wp2_with fail
    refine (CK.out).mono ?_
    rintro e w1 ⟨rfl, hb1⟩
    go_wp2_with fail
    go_ret2
    exact ⟨hb1, .inl ⟨by rw [E.out]; decide, by rw [E.out]; rfl⟩⟩
  · go_enter Try.func5, Try.ntmps5
    go_wp2_with fail
    refine (CK.out).mono ?_
    rintro e w1 ⟨rfl, hb1⟩
    go_wp2_with fail
    go_ret2
    exact ⟨hb1, .inl ⟨by rw [E.out]; decide, by rw [E.out]; rfl⟩⟩
  · go_enter Try.func5, Try.ntmps5
    go_wp2_with fail
    refine (CK.out).mono ?_
    rintro e w1 ⟨rfl, hb1⟩
    go_wp2_with fail
    refine ((NS _ hb1 trivial).out).mono ?_
    rintro e w2 ⟨v, rfl, ho, hb2⟩
    have HB := Lib.hid (hb1.trans (hb2.mono hb1.size))
    have HO := Lib.hid (ho.low hb1.size)
    clear hb2 ho
    go_wp2_with fail
    go_ret2
    exact ⟨HB.out, .inr ⟨E.out, v, rfl, HO.out⟩⟩
end Go.Proofs.Ytffjonpajjioaaa

/- Areas of convex polygons that lie apart in a sheet: they add up to at most twice its sides' product, by slabs of height one. -/
namespace Go.Proofs.Ytffjonpajjioaaa

/-- The sum of f over the first k numbers. -/
def sumN (f : Nat → Int) : Nat → Int
  | 0 => 0
  | k + 1 => sumN f k + f k
theorem sumN_congr {f g : Nat → Int} : ∀ n, (∀ i, i < n → f i = g i) → sumN f n = sumN g n
  | 0, _ => rfl
  | n + 1, h => by
    unfold sumN
    rw [sumN_congr n fun i hi => h i (by omega), h n (by omega)]
theorem sumN_add (f g : Nat → Int) : ∀ n, sumN (fun i => f i + g i) n = sumN f n + sumN g n
  | 0 => rfl
  | n + 1 => by
    unfold sumN
    rw [sumN_add f g n]
    omega
theorem sumN_zero : ∀ n, sumN (fun _ => 0) n = 0
  | 0 => rfl
  | n + 1 => by unfold sumN; rw [sumN_zero n]; rfl
theorem sumN_mul (c : Int) (f : Nat → Int) : ∀ n, sumN (fun i => c * f i) n = c * sumN f n
  | 0 => by simp [sumN]
  | n + 1 => by
    unfold sumN
    rw [sumN_mul c f n, Int.mul_add]
theorem sumN_swap (f : Nat → Nat → Int) (m : Nat) : ∀ n, sumN (fun i => sumN (f i) m) n = sumN (fun j => sumN (fun i => f i j) n) m
  | 0 => by
    show 0 = sumN (fun _ => 0) m
    rw [sumN_zero]
  | n + 1 => by
    show sumN (fun i => sumN (f i) m) n + sumN (f n) m = sumN (fun j => sumN (fun i => f i j) n + f n j) m
    rw [sumN_swap f m n, sumN_add]
theorem sumN_le {f : Nat → Int} {M : Int} : ∀ n, (∀ i, i < n → f i ≤ M) → sumN f n ≤ n * M
  | 0, _ => by simp [sumN]
  | n + 1, h => by
    unfold sumN
    have a := sumN_le n fun i hi => h i (by omega)
    have b := h n (by omega)
    have e : ((n + 1 : Nat) : Int) * M = n * M + M := by push_cast; grind
    omega
/-- One or two numbers that are not 0. -/
theorem sumN_two {f : Nat → Int} {m m' : Nat} {A B : Int} (hne : m ≠ m') (hm : f m = A) (hm' : f m' = B) (h : ∀ i, i ≠ m → i ≠ m' → f i = 0) : ∀ n, sumN f n = (if m < n then A else 0) + (if m' < n then B else 0)
  | 0 => by simp [sumN]
  | n + 1 => by
    unfold sumN
    rw [sumN_two hne hm hm' h n]
    by_cases e : n = m
    · subst e
      rw [hm]
      repeat' split
      all_goals omega
    · by_cases e' : n = m'
      · subst e'
        rw [hm']
        repeat' split
        all_goals omega
      · rw [h n e e']
        repeat' split
        all_goals omega

/-- The middle of the edge from p up to q in the slab above height y, D times. -/
def mid (D : Int) (p q : Pt) (y : Int) : Int := D * p.1 + (q.1 - p.1) * (2 * (y - p.2) + 1) * (D / (2 * (q.2 - p.2)))
def sl (D : Int) (p q : Pt) (y : Int) : Int := if p.2 ≤ y ∧ y < q.2 then mid D p q y else if q.2 ≤ y ∧ y < p.2 then - mid D q p y else 0

theorem up_sum {D : Int} {p q : Pt} (h0 : 0 ≤ p.2) (h : p.2 < q.2) : ∀ k : Nat, sumN (fun y => if p.2 ≤ (y : Int) ∧ (y : Int) < q.2 then mid D p q y else 0) k =
    if (k : Int) ≤ p.2 then 0 else if (k : Int) ≤ q.2 then D * p.1 * ((k : Int) - p.2) + (q.1 - p.1) * (((k : Int) - p.2) * ((k : Int) - p.2)) * (D / (2 * (q.2 - p.2))) else D * p.1 * (q.2 - p.2) + (q.1 - p.1) * ((q.2 - p.2) * (q.2 - p.2)) * (D / (2 * (q.2 - p.2)))
  | 0 => by simp [sumN]; intro; omega
  | k + 1 => by
    unfold sumN
    rw [up_sum h0 h k]
    push_cast
    generalize hE : D / (2 * (q.2 - p.2)) = E
    unfold mid
    rw [hE]
    clear hE
    generalize (k : Int) = y
    repeat' split
    all_goals first
      | omega
      | (have e : y = p.2 := by omega
         subst e
         grind)
      | (have e : y = q.2 := by omega
         subst e
         omega)
      | grind
theorem dvd_E {D d : Int} (hd : 0 < d) (h : 2 * d ∣ D) : 2 * d * (D / (2 * d)) = D := Int.mul_ediv_cancel' h
theorem sl_sum {D : Int} {p q : Pt} {h : Nat} (hp : 0 ≤ p.2 ∧ p.2 ≤ h) (hq : 0 ≤ q.2 ∧ q.2 ≤ h) (d1 : p.2 < q.2 → 2 * (q.2 - p.2) ∣ D) (d2 : q.2 < p.2 → 2 * (p.2 - q.2) ∣ D) :
    2 * sumN (fun y => sl D p q y) h = D * ((p.1 + q.1) * (q.2 - p.2)) := by
  rcases Int.lt_trichotomy p.2 q.2 with g | g | g
  · have e : sumN (fun y => sl D p q y) h = sumN (fun y => if p.2 ≤ (y : Int) ∧ (y : Int) < q.2 then mid D p q y else 0) h := sumN_congr h fun i hi => by
      unfold sl
      by_cases c : p.2 ≤ (i : Int) ∧ (i : Int) < q.2
      · rw [if_pos c, if_pos c]
      · rw [if_neg c, if_neg c, if_neg (by omega)]
    rw [e, up_sum hp.1 g, if_neg (by omega)]
    have k := dvd_E (d := q.2 - p.2) (by omega) (d1 g)
    generalize D / (2 * (q.2 - p.2)) = E at *
    have z : (if (h : Int) ≤ q.2 then D * p.1 * ((h : Int) - p.2) + (q.1 - p.1) * (((h : Int) - p.2) * ((h : Int) - p.2)) * E else D * p.1 * (q.2 - p.2) + (q.1 - p.1) * ((q.2 - p.2) * (q.2 - p.2)) * E) = D * p.1 * (q.2 - p.2) + (q.1 - p.1) * ((q.2 - p.2) * (q.2 - p.2)) * E := by
      by_cases c : (h : Int) ≤ q.2
      · rw [if_pos c, show (h : Int) = q.2 by omega]
      · rw [if_neg c]
    rw [z]
    grind
  · have e : sumN (fun y => sl D p q y) h = sumN (fun _ => 0) h := sumN_congr h fun i hi => by
      unfold sl
      rw [if_neg (by omega), if_neg (by omega)]
    rw [e, sumN_zero, g]
    simp
  · have e : sumN (fun y => sl D p q y) h = sumN (fun y => (-1) * (if q.2 ≤ (y : Int) ∧ (y : Int) < p.2 then mid D q p y else 0)) h := sumN_congr h fun i hi => by
      unfold sl
      rw [if_neg (by omega)]
      by_cases c : q.2 ≤ (i : Int) ∧ (i : Int) < p.2
      · rw [if_pos c, if_pos c]; omega
      · rw [if_neg c, if_neg c]; omega
    rw [e, sumN_mul, up_sum hq.1 g, if_neg (by omega)]
    have k := dvd_E (d := p.2 - q.2) (by omega) (d2 g)
    generalize D / (2 * (p.2 - q.2)) = E at *
    have z : (if (h : Int) ≤ p.2 then D * q.1 * ((h : Int) - q.2) + (p.1 - q.1) * (((h : Int) - q.2) * ((h : Int) - q.2)) * E else D * q.1 * (p.2 - q.2) + (p.1 - q.1) * ((p.2 - q.2) * (p.2 - q.2)) * E) = D * q.1 * (p.2 - q.2) + (p.1 - q.1) * ((p.2 - q.2) * (p.2 - q.2)) * E := by
      by_cases c : (h : Int) ≤ p.2
      · rw [if_pos c, show (h : Int) = p.2 by omega]
      · rw [if_neg c]
    rw [z]
    grind
end Go.Proofs.Ytffjonpajjioaaa

/- Areas by slabs: each slab of a convex polygon is one interval. -/
namespace Go.Proofs.Ytffjonpajjioaaa

theorem area_edges (a : List Pt) : ∀ k, k < a.length → sumN (fun i => ((gt a i).1 + (nx a i).1) * ((nx a i).2 - (gt a i).2)) k = area2To a k + ((gt a k).1 * (gt a k).2 - (gt a 0).1 * (gt a 0).2)
  | 0, _ => by simp [sumN, area2To]
  | k + 1, h => by
    have e : nx a k = gt a (k + 1) := by rw [nx_gt, Nat.mod_eq_of_lt h]
    have e2 : area2To a (k + 1) = area2To a k + ((gt a k).1 * (nx a k).2 - (nx a k).1 * (gt a k).2) := rfl
    unfold sumN
    rw [area_edges a k (by omega), e2, e]
    grind
theorem area_sum {a : List Pt} (h : 0 < a.length) : sumN (fun i => ((gt a i).1 + (nx a i).1) * ((nx a i).2 - (gt a i).2)) a.length = area2 a := by
  obtain ⟨n, hn⟩ : ∃ n, a.length = n + 1 := ⟨a.length - 1, by omega⟩
  have e : nx a n = gt a 0 := by rw [nx_gt, hn, Nat.mod_self]
  have e2 : area2To a (n + 1) = area2To a n + ((gt a n).1 * (nx a n).2 - (nx a n).1 * (gt a n).2) := rfl
  unfold area2
  rw [hn]
  unfold sumN
  rw [area_edges a n (by omega), e2, e]
  grind

def slabW (D : Int) (a : List Pt) (y : Int) : Int := sumN (fun i => sl D (gt a i) (nx a i) y) a.length
/-- The numbers fit: all heights' differences divide D. -/
def FitsD (D : Int) (a : List Pt) : Prop := ∀ p ∈ a, ∀ q ∈ a, p.2 < q.2 → 2 * (q.2 - p.2) ∣ D
theorem gtS_mem {a : List Pt} {i : Nat} (h : i < a.length) : gt a i ∈ a := by
  rw [gt_of (List.getElem?_eq_getElem h)]; exact List.getElem_mem _
theorem nx_mem {a : List Pt} (h : 0 < a.length) (i : Nat) : nx a i ∈ a := by
  rw [nx_gt]; exact gtS_mem (Nat.mod_lt _ h)
theorem area_slab {D : Int} {a : List Pt} {h : Nat} (hn : 0 < a.length) (hb : ∀ p ∈ a, 0 ≤ p.2 ∧ p.2 ≤ h) (hf : FitsD D a) : D * area2 a = 2 * sumN (fun y => slabW D a y) h := by
  rw [← area_sum hn, ← sumN_mul]
  have e : sumN (fun i => D * (((gt a i).1 + (nx a i).1) * ((nx a i).2 - (gt a i).2))) a.length = sumN (fun i => 2 * sumN (fun y => sl D (gt a i) (nx a i) y) h) a.length := sumN_congr _ fun i hi =>
    (sl_sum (hb _ (gtS_mem hi)) (hb _ (nx_mem hn i)) (hf _ (gtS_mem hi) _ (nx_mem hn i)) (hf _ (nx_mem hn i) _ (gtS_mem hi))).symm
  rw [e, sumN_mul, sumN_swap]
  rfl

/-- On which side of the line from u to v is the point at X in the slab's middle? -/
def cx (D : Int) (u v : Pt) (X y : Int) : Int := (v.1 - u.1) * (D * (2 * y + 1) - 2 * D * u.2) - 2 * (X - D * u.1) * (v.2 - u.2)
theorem mid_cx {D : Int} {p q : Pt} (h : p.2 < q.2) (hd : 2 * (q.2 - p.2) ∣ D) (u v : Pt) (y : Int) :
    cx D u v (mid D p q y) y = 2 * (D / (2 * (q.2 - p.2))) * ((2 * (q.2 - p.2) - (2 * (y - p.2) + 1)) * crossP u v p + (2 * (y - p.2) + 1) * crossP u v q) := by
  have k := dvd_E (d := q.2 - p.2) (by omega) hd
  unfold cx mid crossP cross
  generalize D / (2 * (q.2 - p.2)) = E at *
  subst k
  grind
theorem E_pos {D d : Int} (hD : 0 < D) (hd : 0 < d) (h : 2 * d ∣ D) : 0 < D / (2 * d) := by
  have k := dvd_E hd h
  apply Classical.byContradiction
  intro hc
  have : 2 * d * (D / (2 * d)) ≤ 0 := Int.mul_nonpos_of_nonneg_of_nonpos (by omega) (by omega)
  omega
theorem mid_side {D : Int} {p q : Pt} {y : Int} (hD : 0 < D) (h1 : p.2 ≤ y) (h2 : y < q.2) (hd : 2 * (q.2 - p.2) ∣ D) {u v : Pt} (hp : 0 ≤ crossP u v p) (hq : 0 ≤ crossP u v q) : 0 ≤ cx D u v (mid D p q y) y := by
  rw [mid_cx (by omega) hd]
  have e := E_pos hD (by omega) hd
  have a : 0 ≤ (2 * (q.2 - p.2) - (2 * (y - p.2) + 1)) * crossP u v p := Int.mul_nonneg (by omega) hp
  have b : 0 ≤ (2 * (y - p.2) + 1) * crossP u v q := Int.mul_nonneg (by omega) hq
  exact Int.mul_nonneg (by omega) (by omega)
theorem mid_own {D : Int} {p q : Pt} {y : Int} (h : p.2 < q.2) (hd : 2 * (q.2 - p.2) ∣ D) : cx D p q (mid D p q y) y = 0 := by
  rw [mid_cx h hd]
  have a : crossP p q p = 0 := by unfold crossP cross; grind
  have b : crossP p q q = 0 := by unfold crossP cross; grind
  rw [a, b]
  grind
theorem mid_bd {D w : Int} {p q : Pt} {y : Int} (hD : 0 < D) (h1 : p.2 ≤ y) (h2 : y < q.2) (hd : 2 * (q.2 - p.2) ∣ D) (hp : 0 ≤ p.1 ∧ p.1 ≤ w) (hq : 0 ≤ q.1 ∧ q.1 ≤ w) : 0 ≤ mid D p q y ∧ mid D p q y ≤ D * w := by
  have k := dvd_E (d := q.2 - p.2) (by omega) hd
  have e := E_pos hD (d := q.2 - p.2) (by omega) hd
  unfold mid
  generalize D / (2 * (q.2 - p.2)) = E at *
  subst k
  have a : 0 ≤ (2 * (q.2 - p.2) - (2 * (y - p.2) + 1)) * p.1 := Int.mul_nonneg (by omega) hp.1
  have b : 0 ≤ (2 * (y - p.2) + 1) * q.1 := Int.mul_nonneg (by omega) hq.1
  have c : 0 ≤ (2 * (q.2 - p.2) - (2 * (y - p.2) + 1)) * (w - p.1) := Int.mul_nonneg (by omega) (by omega)
  have d : 0 ≤ (2 * (y - p.2) + 1) * (w - q.1) := Int.mul_nonneg (by omega) (by omega)
  have f := Int.mul_nonneg (show 0 ≤ E by omega) (show 0 ≤ (2 * (q.2 - p.2) - (2 * (y - p.2) + 1)) * p.1 + (2 * (y - p.2) + 1) * q.1 by omega)
  have g := Int.mul_nonneg (show 0 ≤ E by omega) (show 0 ≤ (2 * (q.2 - p.2) - (2 * (y - p.2) + 1)) * (w - p.1) + (2 * (y - p.2) + 1) * (w - q.1) by omega)
  constructor
  · have i : 2 * (q.2 - p.2) * E * p.1 + (q.1 - p.1) * (2 * (y - p.2) + 1) * E = E * ((2 * (q.2 - p.2) - (2 * (y - p.2) + 1)) * p.1 + (2 * (y - p.2) + 1) * q.1) := by grind
    omega
  · have i : 2 * (q.2 - p.2) * E * w - (2 * (q.2 - p.2) * E * p.1 + (q.1 - p.1) * (2 * (y - p.2) + 1) * E) = E * ((2 * (q.2 - p.2) - (2 * (y - p.2) + 1)) * (w - p.1) + (2 * (y - p.2) + 1) * (w - q.1)) := by grind
    omega

theorem two_dn {a b c d : Pt} {y : Int} (h1 : b.2 ≤ y) (h2 : y < a.2) (h3 : d.2 ≤ y) (h4 : y < c.2) (k1 : 0 ≤ crossP a b c) (k2 : 0 ≤ crossP a b d) (k3 : 0 ≤ crossP c d a) (k4 : 0 ≤ crossP c d b) : crossP a b d = 0 := by
  have n1 : 0 ≤ (y - d.2) * crossP a b c := Int.mul_nonneg (by omega) k1
  have n2 : 0 ≤ (c.2 - y) * crossP a b d := Int.mul_nonneg (by omega) k2
  have n3 : 0 ≤ (y - b.2) * crossP c d a := Int.mul_nonneg (by omega) k3
  have n4 : 0 ≤ (a.2 - y) * crossP c d b := Int.mul_nonneg (by omega) k4
  have id : (y - d.2) * crossP a b c + (c.2 - y) * crossP a b d + ((y - b.2) * crossP c d a + (a.2 - y) * crossP c d b) = 0 := by unfold crossP cross; grind
  have z : (c.2 - y) * crossP a b d = 0 := by omega
  exact (Int.mul_eq_zero.1 z).resolve_left (by omega)

/-- Between a place where it does not hold and a later one where it does it begins to hold. -/
theorem climb_to (P : Nat → Prop) : ∀ d x, ¬ P x → P (x + d) → ∃ m, x ≤ m ∧ m < x + d ∧ ¬ P m ∧ P (m + 1)
  | 0, x, h, k => absurd k h
  | d + 1, x, h, k => by
    by_cases g : P (x + 1)
    · exact ⟨x, by omega, by omega, h, g⟩
    · obtain ⟨m, m1, m2, m3, m4⟩ := climb_to P d (x + 1) g (by rwa [show x + 1 + d = x + (d + 1) by omega])
      exact ⟨m, by omega, by omega, m3, m4⟩

def upAt (a : List Pt) (y : Int) (i : Nat) : Prop := (gt a i).2 ≤ y ∧ y < (nx a i).2
def dnAt (a : List Pt) (y : Int) (i : Nat) : Prop := (nx a i).2 ≤ y ∧ y < (gt a i).2
theorem vtx_modS {a : List Pt} (h : 0 < a.length) (x : Nat) : gt a (x % a.length) = vtx a x ∧ nx a (x % a.length) = vtx a (x + 1) := by
  refine ⟨rfl, ?_⟩
  show gt a ((x % a.length + 1) % a.length) = _
  rw [Nat.mod_add_mod]; rfl
theorem up_dn {a : List Pt} {y : Int} (h : 0 < a.length) {i : Nat} (hi : i < a.length) (hu : upAt a y i) : ∃ j, j < a.length ∧ dnAt a y j := by
  have e1 : gt a i = vtx a i := (vtx_lt hi).symm
  have e2 : nx a i = vtx a (i + 1) := vtx_nx a i
  unfold upAt at hu
  rw [e1, e2] at hu
  obtain ⟨m, -, -, m3, m4⟩ := climb_to (fun x => (vtx a x).2 ≤ y) (a.length - 1) (i + 1) (by show ¬ _ ≤ _; omega) (by
    show (vtx a (i + 1 + (a.length - 1))).2 ≤ y
    rw [show i + 1 + (a.length - 1) = i + a.length by omega, vtx_add]; omega)
  have k := vtx_modS h m
  exact ⟨m % a.length, Nat.mod_lt _ h, by unfold dnAt; rw [k.1, k.2]; exact ⟨m4, by omega⟩⟩
theorem dn_up {a : List Pt} {y : Int} (h : 0 < a.length) {i : Nat} (hi : i < a.length) (hu : dnAt a y i) : ∃ j, j < a.length ∧ upAt a y j := by
  have e1 : gt a i = vtx a i := (vtx_lt hi).symm
  have e2 : nx a i = vtx a (i + 1) := vtx_nx a i
  unfold dnAt at hu
  rw [e1, e2] at hu
  obtain ⟨m, -, -, m3, m4⟩ := climb_to (fun x => y < (vtx a x).2) (a.length - 1) (i + 1) (by show ¬ _ < _; omega) (by
    show y < (vtx a (i + 1 + (a.length - 1))).2
    rw [show i + 1 + (a.length - 1) = i + a.length by omega, vtx_add]; omega)
  have k := vtx_modS h m
  exact ⟨m % a.length, Nat.mod_lt _ h, by unfold upAt; rw [k.1, k.2]; exact ⟨by omega, m4⟩⟩
theorem up_one {a : List Pt} {a0 : Pt} (h : Conv a a0) {y : Int} {i j : Nat} (hi : i < a.length) (hj : j < a.length) (ei : upAt a y i) (ej : upAt a y j) : i = j := by
  obtain ⟨a1, a2⟩ := ei
  obtain ⟨b1, b2⟩ := ej
  have Ei := h.hull.edge i hi
  have Ej := h.hull.edge j hj
  have z := two_up a1 a2 b1 b2 (Ei.ok _ Ej.fst).nonneg (Ei.ok _ Ej.snd).nonneg (Ej.ok _ Ei.fst).nonneg (Ej.ok _ Ei.snd).nonneg
  have on : onP (gt a i) (nx a i) (gt a j) = true := (Ei.ok _ Ej.fst).resolve_left (by omega)
  rcases hedge_between Ei Ej on with q | q
  · exact (hull_inj h.hull hj hi q).symm
  · rw [q] at b1; omega
theorem dn_one {a : List Pt} {a0 : Pt} (h : Conv a a0) {y : Int} {i j : Nat} (hi : i < a.length) (hj : j < a.length) (ei : dnAt a y i) (ej : dnAt a y j) : i = j := by
  obtain ⟨a1, a2⟩ := ei
  obtain ⟨b1, b2⟩ := ej
  have h3 := h.three
  have Ei := h.hull.edge i hi
  have Ej := h.hull.edge j hj
  have z := two_dn a1 a2 b1 b2 (Ei.ok _ Ej.fst).nonneg (Ei.ok _ Ej.snd).nonneg (Ej.ok _ Ei.fst).nonneg (Ej.ok _ Ei.snd).nonneg
  have on : onP (gt a i) (nx a i) (nx a j) = true := (Ei.ok _ Ej.snd).resolve_left (by omega)
  have Ek : Hedge a (nx a j) (vtx a (j + 2)) := by
    have := h.hull.edgeV (j + 1)
    rwa [← vtx_nx] at this
  rcases hedge_between Ei Ek on with q | q
  · rw [q] at b1; omega
  · rw [nx_gt, nx_gt] at q
    have e := hull_inj h.hull (Nat.mod_lt _ (by omega)) (Nat.mod_lt _ (by omega)) q
    rcases Nat.lt_or_ge (i + 1) a.length with g | g
    · rcases Nat.lt_or_ge (j + 1) a.length with g' | g'
      · rw [Nat.mod_eq_of_lt g, Nat.mod_eq_of_lt g'] at e; omega
      · rw [Nat.mod_eq_of_lt g, show j + 1 = a.length by omega, Nat.mod_self] at e; omega
    · rcases Nat.lt_or_ge (j + 1) a.length with g' | g'
      · rw [Nat.mod_eq_of_lt g', show i + 1 = a.length by omega, Nat.mod_self] at e; omega
      · omega

structure SlabI (D w : Int) (a : List Pt) (y : Int) (I : Int × Int) : Prop where
  sum : slabW D a y = I.2 - I.1
  lo : 0 ≤ I.1
  le : I.1 ≤ I.2
  hi : I.2 ≤ D * w
  sep : I.1 < I.2 → ∀ u v : Pt, (∀ p ∈ a, 0 ≤ crossP u v p) → 0 ≤ cx D u v I.1 y ∧ 0 ≤ cx D u v I.2 y

theorem conv_slab {D w : Int} {a : List Pt} {a0 : Pt} (h : Conv a a0) (hD : 0 < D) (hw : 0 ≤ w) (hb : ∀ p ∈ a, 0 ≤ p.1 ∧ p.1 ≤ w) (hf : FitsD D a) (y : Int) : ∃ I, SlabI D w a y I := by
  have h3 := h.three
  by_cases hu : ∃ m, m < a.length ∧ upAt a y m
  · obtain ⟨m, hm, um⟩ := hu
    obtain ⟨m', hm', dm⟩ := up_dn (by omega) hm um
    have hne : m ≠ m' := fun e => by
      subst e
      unfold upAt at um
      unfold dnAt at dm
      omega
    have Em := h.hull.edge m hm
    have d1 := hf _ Em.fst _ Em.snd (by have := um.1; have := um.2; omega)
    have Ed := h.hull.edge m' hm'
    have d2 := hf _ Ed.snd _ Ed.fst (by have := dm.1; have := dm.2; omega)
    have b1 := mid_bd (w := w) hD um.1 um.2 d1 (hb _ Em.fst) (hb _ Em.snd)
    have b2 := mid_bd (w := w) hD dm.1 dm.2 d2 (hb _ Ed.snd) (hb _ Ed.fst)
    have hle : mid D (nx a m') (gt a m') y ≤ mid D (gt a m) (nx a m) y := by
      have s1 := mid_side hD dm.1 dm.2 d2 (u := gt a m) (v := nx a m) (Em.ok _ Ed.snd).nonneg (Em.ok _ Ed.fst).nonneg
      have s2 := mid_own (D := D) (y := y) (show (gt a m).2 < (nx a m).2 by have := um.1; have := um.2; omega) d1
      generalize mid D (nx a m') (gt a m') y = L at *
      generalize mid D (gt a m) (nx a m) y = R at *
      unfold cx at s1 s2
      apply Classical.byContradiction
      intro hc
      have t : 0 < (L - R) * ((nx a m).2 - (gt a m).2) := Int.mul_pos (by omega) (by have := um.1; have := um.2; omega)
      have e : 2 * (L - D * (gt a m).1) * ((nx a m).2 - (gt a m).2) = 2 * (R - D * (gt a m).1) * ((nx a m).2 - (gt a m).2) + 2 * ((L - R) * ((nx a m).2 - (gt a m).2)) := by grind
      omega
    refine ⟨(mid D (nx a m') (gt a m') y, mid D (gt a m) (nx a m) y), ?_, b2.1, hle, b1.2, fun _ u v huv => ⟨mid_side hD dm.1 dm.2 d2 (huv _ Ed.snd) (huv _ Ed.fst), mid_side hD um.1 um.2 d1 (huv _ Em.fst) (huv _ Em.snd)⟩⟩
    unfold slabW
    have e : sumN (fun i => sl D (gt a i) (nx a i) y) a.length = sumN (fun i => if i = m then mid D (gt a m) (nx a m) y else if i = m' then - mid D (nx a m') (gt a m') y else 0) a.length := sumN_congr _ fun i hi => by
      show sl D (gt a i) (nx a i) y = _
      by_cases e1 : i = m
      · subst e1
        rw [if_pos rfl]
        unfold sl
        rw [if_pos (show (gt a i).2 ≤ y ∧ y < (nx a i).2 from um)]
      · rw [if_neg e1]
        have nu : ¬ ((gt a i).2 ≤ y ∧ y < (nx a i).2) := fun q => e1 (up_one h hi hm q um)
        by_cases e2 : i = m'
        · subst e2
          rw [if_pos rfl]
          unfold sl
          rw [if_neg nu, if_pos (show (nx a i).2 ≤ y ∧ y < (gt a i).2 from dm)]
        · rw [if_neg e2]
          have nd : ¬ ((nx a i).2 ≤ y ∧ y < (gt a i).2) := fun q => e2 (dn_one h hi hm' q dm)
          unfold sl
          rw [if_neg nu, if_neg nd]
    rw [e, sumN_two hne (A := mid D (gt a m) (nx a m) y) (B := - mid D (nx a m') (gt a m') y) (by simp) (by rw [if_neg (Ne.symm hne), if_pos rfl]) (fun i h1 h2 => by rw [if_neg h1, if_neg h2]), if_pos hm, if_pos hm']
    show _ = mid D (gt a m) (nx a m) y - mid D (nx a m') (gt a m') y
    omega
  · refine ⟨(0, 0), ?_, Int.le_refl _, Int.le_refl _, Int.mul_nonneg (by omega) hw, fun q => absurd q (by show ¬ (0 : Int) < 0; omega)⟩
    unfold slabW
    have e : sumN (fun i => sl D (gt a i) (nx a i) y) a.length = sumN (fun _ => 0) a.length := sumN_congr _ fun i hi => by
      show sl D (gt a i) (nx a i) y = 0
      have nu : ¬ ((gt a i).2 ≤ y ∧ y < (nx a i).2) := fun q => hu ⟨i, hi, q⟩
      have nd : ¬ ((nx a i).2 ≤ y ∧ y < (gt a i).2) := fun q => hu (dn_up (by omega) hi q)
      unfold sl
      rw [if_neg nu, if_neg nd]
    rw [e, sumN_zero]
    rfl
end Go.Proofs.Ytffjonpajjioaaa

/- Areas by slabs: convex polygons that lie apart in a sheet have at most its area together. -/
namespace Go.Proofs.Ytffjonpajjioaaa

def inI (I : Int × Int) (t : Int) : Int := if I.1 ≤ t ∧ t < I.2 then 1 else 0
theorem inI_sum {I : Int × Int} (h0 : 0 ≤ I.1) (h1 : I.1 ≤ I.2) : ∀ k : Nat, sumN (fun t => inI I t) k = if (k : Int) ≤ I.1 then 0 else if (k : Int) ≤ I.2 then k - I.1 else I.2 - I.1
  | 0 => by
    unfold sumN
    rw [if_pos (by omega)]
  | k + 1 => by
    unfold sumN
    rw [inI_sum h0 h1 k]
    unfold inI
    push_cast
    repeat' split
    all_goals omega
def sumI : List (Int × Int) → Int
  | [] => 0
  | I :: l => (I.2 - I.1) + sumI l
def cntI : List (Int × Int) → Int → Int
  | [], _ => 0
  | I :: l, t => inI I t + cntI l t
theorem sumI_cnt {M : Nat} : ∀ {l : List (Int × Int)}, (∀ I ∈ l, 0 ≤ I.1 ∧ I.1 ≤ I.2 ∧ I.2 ≤ M) → sumI l = sumN (fun t => cntI l t) M
  | [], _ => by
    show 0 = sumN (fun _ => 0) M
    rw [sumN_zero]
  | I :: l, h => by
    show (I.2 - I.1) + sumI l = sumN (fun t => inI I t + cntI l t) M
    obtain ⟨a, b, c⟩ := h I (List.mem_cons_self ..)
    rw [sumN_add, ← sumI_cnt fun J hJ => h J (List.mem_cons_of_mem _ hJ), inI_sum a b]
    repeat' split
    all_goals omega
def Disj (I J : Int × Int) : Prop := ∀ t, ¬ ((I.1 ≤ t ∧ t < I.2) ∧ J.1 ≤ t ∧ t < J.2)
theorem cntI_zero {t : Int} : ∀ {l : List (Int × Int)}, (∀ J ∈ l, ¬ (J.1 ≤ t ∧ t < J.2)) → cntI l t = 0
  | [], _ => rfl
  | J :: l, h => by
    show inI J t + cntI l t = 0
    rw [cntI_zero fun K hK => h K (List.mem_cons_of_mem _ hK)]
    unfold inI
    rw [if_neg (h J (List.mem_cons_self ..))]; rfl
theorem cntI_le {t : Int} : ∀ {l : List (Int × Int)}, l.Pairwise Disj → cntI l t ≤ 1
  | [], _ => by show (0 : Int) ≤ 1; omega
  | I :: l, h => by
    obtain ⟨h1, h2⟩ := List.pairwise_cons.1 h
    show inI I t + cntI l t ≤ 1
    have ih := cntI_le (t := t) h2
    unfold inI
    by_cases c : I.1 ≤ t ∧ t < I.2
    · rw [if_pos c, cntI_zero fun J hJ k => h1 J hJ t ⟨c, k⟩]; omega
    · rw [if_neg c]; omega
theorem sumI_le {M : Nat} {l : List (Int × Int)} (h : ∀ I ∈ l, 0 ≤ I.1 ∧ I.1 ≤ I.2 ∧ I.2 ≤ M) (hp : l.Pairwise Disj) : sumI l ≤ M := by
  rw [sumI_cnt h]
  have := sumN_le (f := fun t => cntI l t) (M := 1) M fun i _ => cntI_le hp
  omega

theorem cx_rot (D : Int) (u v : Pt) (X y : Int) : cx D v u X y = - cx D u v X y := by unfold cx; grind
theorem line_disj {D y : Int} {u v : Pt} {I J : Int × Int} (hD : 0 < D) (hne : u ≠ v) (a1 : 0 ≤ cx D u v I.1 y) (a2 : 0 ≤ cx D u v I.2 y) (b1 : cx D u v J.1 y ≤ 0) (b2 : cx D u v J.2 y ≤ 0) : Disj I J := fun t ⟨⟨t1, t2⟩, t3, t4⟩ => by
  rcases Int.lt_trichotomy u.2 v.2 with g | g | g
  · have p := Int.mul_pos (show 0 < I.2 - J.1 by omega) (show 0 < v.2 - u.2 by omega)
    have e : cx D u v I.2 y = cx D u v J.1 y - 2 * ((I.2 - J.1) * (v.2 - u.2)) := by unfold cx; grind
    omega
  · have e : cx D u v I.1 y = (v.1 - u.1) * (D * (2 * (y - u.2) + 1)) := by
      unfold cx
      rw [← g]
      grind
    have e' : cx D u v J.1 y = (v.1 - u.1) * (D * (2 * (y - u.2) + 1)) := by
      unfold cx
      rw [← g]
      grind
    have z : (v.1 - u.1) * (D * (2 * (y - u.2) + 1)) = 0 := by omega
    rcases Int.mul_eq_zero.1 z with z | z
    · exact hne (Prod.ext (by omega) g)
    · rcases Int.mul_eq_zero.1 z with z | z <;> omega
  · have p := Int.mul_pos (show 0 < J.2 - I.1 by omega) (show 0 < u.2 - v.2 by omega)
    have e : cx D u v J.2 y = cx D u v I.1 y + 2 * ((J.2 - I.1) * (u.2 - v.2)) := by unfold cx; grind
    omega
theorem Disj.symm {I J : Int × Int} (h : Disj I J) : Disj J I := fun t ⟨a, b⟩ => h t ⟨b, a⟩
theorem beyond_disj {D w y : Int} {a b : List Pt} {a0 : Pt} {I J : Int × Int} (hD : 0 < D) (ha : SlabI D w a y I) (hb : SlabI D w b y J) (ca : Conv a a0) (h : beyondB a b = true) : Disj I J := fun t ht => by
  unfold beyondB at h
  obtain ⟨i, hi, hq⟩ := List.any_eq_true.1 h
  have hi := List.mem_range.1 hi
  have E := ca.hull.edge i hi
  have all : ∀ q ∈ b, 0 ≤ crossP (nx a i) (gt a i) q := fun q hq' => by
    unfold beyondAt anyLeft at hq
    rw [Bool.not_eq_true', List.any_eq_false] at hq
    have := hq q hq'
    unfold leftQ at this
    rw [crossP_rot]
    simp at this
    omega
  obtain ⟨a1, a2⟩ := ha.sep (by omega) (gt a i) (nx a i) fun p hp => (E.ok p hp).nonneg
  obtain ⟨b1, b2⟩ := hb.sep (by omega) (nx a i) (gt a i) all
  rw [cx_rot] at b1 b2
  exact line_disj hD E.ne a1 a2 (by omega) (by omega) t ht
theorem apart_disj {D w y : Int} {a b : List Pt} {a0 b0 : Pt} {I J : Int × Int} (hD : 0 < D) (ha : SlabI D w a y I) (hb : SlabI D w b y J) (ca : Conv a a0) (cb : Conv b b0) (h : apartB a b = true) : Disj I J := by
  unfold apartB at h
  rcases Bool.or_eq_true_iff.1 h with h | h
  · exact beyond_disj hD ha hb ca h
  · exact (beyond_disj hD hb ha cb h).symm

def sumA : List (List Pt) → Int
  | [] => 0
  | a :: L => area2 a + sumA L
def sumW (D : Int) : List (List Pt) → Int → Int
  | [], _ => 0
  | a :: L, y => slabW D a y + sumW D L y
theorem sumA_append : ∀ L M, sumA (L ++ M) = sumA L + sumA M
  | [], M => by show sumA M = 0 + sumA M; omega
  | a :: L, M => by
    show area2 a + sumA (L ++ M) = area2 a + sumA L + sumA M
    rw [sumA_append L M]; omega
theorem sumA_slab {D : Int} {h : Nat} : ∀ {L : List (List Pt)}, (∀ a ∈ L, 0 < a.length) → (∀ a ∈ L, ∀ p ∈ a, 0 ≤ p.2 ∧ p.2 ≤ h) → (∀ a ∈ L, FitsD D a) → D * sumA L = 2 * sumN (fun y => sumW D L y) h
  | [], _, _, _ => by
    show D * 0 = 2 * sumN (fun _ => 0) h
    rw [sumN_zero]; simp
  | a :: L, h1, h2, h3 => by
    show D * (area2 a + sumA L) = 2 * sumN (fun y => slabW D a y + sumW D L y) h
    rw [sumN_add, Int.mul_add, Int.mul_add, area_slab (h1 a (List.mem_cons_self ..)) (h2 a (List.mem_cons_self ..)) (h3 a (List.mem_cons_self ..)),
      sumA_slab (fun b hb => h1 b (List.mem_cons_of_mem _ hb)) (fun b hb => h2 b (List.mem_cons_of_mem _ hb)) (fun b hb => h3 b (List.mem_cons_of_mem _ hb))]
open Classical in
noncomputable def iv (D w y : Int) (a : List Pt) : Int × Int := if h : ∃ I, SlabI D w a y I then h.choose else (0, 0)
theorem iv_is {D w y : Int} {a : List Pt} (h : ∃ I, SlabI D w a y I) : SlabI D w a y (iv D w y a) := by
  unfold iv
  rw [dif_pos h]
  exact h.choose_spec
theorem sumW_iv {D w y : Int} : ∀ {L : List (List Pt)}, (∀ a ∈ L, ∃ I, SlabI D w a y I) → sumW D L y = sumI (L.map (iv D w y))
  | [], _ => rfl
  | a :: L, h => by
    show slabW D a y + sumW D L y = ((iv D w y a).2 - (iv D w y a).1) + sumI (L.map (iv D w y))
    rw [(iv_is (h a (List.mem_cons_self ..))).sum, sumW_iv fun b hb => h b (List.mem_cons_of_mem _ hb)]
theorem areas_le {D : Int} {w h : Nat} {L : List (List Pt)} (hD : 0 < D) (hc : ∀ a ∈ L, ∃ a0, Conv a a0) (hb : ∀ a ∈ L, ∀ p ∈ a, (0 ≤ p.1 ∧ p.1 ≤ w) ∧ (0 ≤ p.2 ∧ p.2 ≤ h)) (hf : ∀ a ∈ L, FitsD D a)
    (hp : L.Pairwise fun a b => apartB a b = true) : sumA L ≤ 2 * w * h := by
  have key : ∀ y : Int, sumW D L y ≤ D * w := fun y => by
    have hs : ∀ a ∈ L, ∃ I, SlabI D w a y I := fun a ha => by
      obtain ⟨a0, ca⟩ := hc a ha
      exact conv_slab ca hD (by omega) (fun p hp => (hb a ha p hp).1) (hf a ha) y
    rw [sumW_iv hs]
    have e : ((D * w).toNat : Int) = D * w := Int.toNat_of_nonneg (Int.mul_nonneg (by omega) (by omega))
    rw [← e]
    refine sumI_le (fun I hI => ?_) ?_
    · obtain ⟨a, ha, rfl⟩ := List.mem_map.1 hI
      have k := iv_is (hs a ha)
      exact ⟨k.lo, k.le, by rw [e]; exact k.hi⟩
    · rw [List.pairwise_map]
      refine List.Pairwise.imp_of_mem (fun {a b} ha hb' hab => ?_) hp
      obtain ⟨a0, ca⟩ := hc a ha
      obtain ⟨b0, cb⟩ := hc b hb'
      exact apart_disj hD (iv_is (hs a ha)) (iv_is (hs b hb')) ca cb hab
  have e := sumA_slab (D := D) (h := h) (L := L) (fun a ha => by obtain ⟨a0, ca⟩ := hc a ha; have := ca.three; omega) (fun a ha p hp => (hb a ha p hp).2) hf
  have l := sumN_le (f := fun y => sumW D L y) (M := D * w) h fun i _ => key i
  apply Classical.byContradiction
  intro hn
  have g : D * (2 * w * h + 1) ≤ D * sumA L := Int.mul_le_mul_of_nonneg_left (by omega) (by omega)
  have i : D * (2 * w * h + 1) = 2 * (h * (D * w)) + D := by grind
  omega
end Go.Proofs.Ytffjonpajjioaaa

/- TopPlaced: plain facts. What is placed lies apart; no point is in the interior of two. -/
namespace Go.Proofs.Ytffjonpajjioaaa

theorem inner_right {K : List Pt} {k0 : Pt} (c : Conv K k0) {x : Pt} (hx : Inner K x) (g : Pt) : ∃ z ∈ K, 0 ≤ xr g (subP z x) := by
  obtain ⟨z, hz, hmax⟩ := c.support c.hull (negP g)
  refine ⟨z, hz, Classical.byContradiction fun hn => ?_⟩
  have h3 := c.three
  obtain ⟨i, hi, rfl⟩ := List.getElem_of_mem hz
  have ez : K[i] = vtx K (i + K.length - 1 + 1) := by
    rw [show i + K.length - 1 + 1 = i + K.length by omega, vtx_add, vtx_lt hi, gt_of (List.getElem?_eq_getElem hi)]
  rw [ez] at hn hmax
  generalize i + K.length - 1 = m at *
  have t := c.turn m
  have p1 := hx m
  have p2 := hx (m + 1)
  have f1 := hmax _ (c.vmem m)
  have f2 := hmax _ (c.vmem (m + 1 + 1))
  rw [crossP_xr] at p1 p2
  unfold ev at t
  generalize vtx K m = A at *
  generalize vtx K (m + 1) = B at *
  generalize vtx K (m + 1 + 1) = C at *
  unfold xr subP negP at *
  simp only at *
  have gp : 0 < g.1 * g.1 + g.2 * g.2 := by
    have a1 : 0 ≤ g.1 * g.1 := by rcases Int.le_total 0 g.1 with q | q; exact Int.mul_nonneg q q; exact Int.mul_nonneg_of_nonpos_of_nonpos q q
    have a2 : 0 ≤ g.2 * g.2 := by rcases Int.le_total 0 g.2 with q | q; exact Int.mul_nonneg q q; exact Int.mul_nonneg_of_nonpos_of_nonpos q q
    rcases Int.lt_or_le 0 (g.1 * g.1 + g.2 * g.2) with q | q
    · exact q
    · have z1 : g.1 * g.1 = 0 := by omega
      have z2 : g.2 * g.2 = 0 := by omega
      have z3 : g.1 = 0 := by rcases Int.mul_eq_zero.1 z1 with q | q <;> exact q
      have z4 : g.2 = 0 := by rcases Int.mul_eq_zero.1 z2 with q | q <;> exact q
      rw [z3, z4] at hn
      simp at hn
  have m1 := Int.mul_pos gp p1
  have m2 := Int.mul_pos gp p2
  have m3 := Int.mul_pos gp t
  refine no_top (a1 := g.1 * (B.1 - A.1) + g.2 * (B.2 - A.2)) (a2 := g.1 * (B.2 - A.2) - (B.1 - A.1) * g.2) (b1 := g.1 * (C.1 - B.1) + g.2 * (C.2 - B.2)) (b2 := g.1 * (C.2 - B.2) - (C.1 - B.1) * g.2)
    (q1 := g.1 * (x.1 - B.1) + g.2 * (x.2 - B.2)) (q2 := g.1 * (x.2 - B.2) - (x.1 - B.1) * g.2) ?_ ?_ ?_ ?_ ?_ ?_
  · have e : -g.1 * (A.2 - B.2) - (A.1 - B.1) * -g.2 = g.1 * (B.2 - A.2) - (B.1 - A.1) * g.2 := by grind
    omega
  · have e : -g.1 * (C.2 - B.2) - (C.1 - B.1) * -g.2 = -(g.1 * (C.2 - B.2) - (C.1 - B.1) * g.2) := by grind
    omega
  · have e : g.1 * (B.2 - x.2) - (B.1 - x.1) * g.2 = -(g.1 * (x.2 - B.2) - (x.1 - B.1) * g.2) := by grind
    omega
  · grind
  · grind
  · grind
theorem inner_not_beyond {p q : List Pt} {p0 q0 x : Pt} (cp : Conv p p0) (cq : Conv q q0) (hp : Inner p x) (hq : Inner q x) : beyondB p q = false := by
  rw [beyond_not (by have := cp.three; omega)]
  intro i
  obtain ⟨z, hz, h⟩ := inner_right cq hq (ev p i)
  refine ⟨z, hz, ?_⟩
  have k := hp i
  rw [crossP_xr] at *
  unfold ev at h
  unfold xr subP at *
  simp only at *
  grind
theorem inner_apart {p q : List Pt} {p0 q0 x : Pt} (cp : Conv p p0) (cq : Conv q q0) (h : apartB p q = true) (hp : Inner p x) (hq : Inner q x) : False := by
  unfold apartB at h
  rw [inner_not_beyond cp cq hp hq, inner_not_beyond cq cp hq hp] at h
  cases h

theorem nestTo_apart {W H : Int} {L : List (List Pt)} : ∀ k, (nestTo W H L k).laid.Pairwise fun a b => apartB a b = true
  | 0 => List.Pairwise.nil
  | k + 1 => by
    have ih := nestTo_apart (W := W) (H := H) (L := L) k
    have e : nestTo W H L (k + 1) = nestPut (nestTo W H L k) k (L.getD k []) (nestV W H (nestTo W H L k).laid (L.getD k [])) := rfl
    rw [e]
    cases g : nestV W H (nestTo W H L k).laid (L.getD k []) with
    | none => exact ih
    | some v =>
      obtain ⟨-, -, hf, -⟩ := firstOf_in g
      show ((nestTo W H L k).laid ++ [movedL (atZero (L.getD k [])) v]).Pairwise _
      rw [List.pairwise_append]
      refine ⟨ih, List.pairwise_singleton _ _, fun p hp q hq => ?_⟩
      obtain rfl := List.mem_singleton.1 hq
      exact List.all_eq_true.1 hf p hp
theorem nestTo_zip {W H : Int} {L : List (List Pt)} : ∀ k, k ≤ L.length → (nestTo W H L k).out.length = (nestTo W H L k).laid.length ∧
    ∀ (j : Nat) (x : Nat × Pt), (nestTo W H L k).out[j]? = some x → ∃ l, L[x.1]? = some l ∧ (nestTo W H L k).laid[j]? = some (movedL (atZero l) x.2)
  | 0, _ => ⟨rfl, fun j x h => by
    have : ([] : List (Nat × Pt))[j]? = some x := h
    simp at this⟩
  | k + 1, hk => by
    obtain ⟨h1, h2⟩ := nestTo_zip (W := W) (H := H) (L := L) k (by omega)
    have e : nestTo W H L (k + 1) = nestPut (nestTo W H L k) k (L.getD k []) (nestV W H (nestTo W H L k).laid (L.getD k [])) := rfl
    have el : L[k]? = some (L.getD k []) := by rw [List.getD_eq_getElem?_getD, List.getElem?_eq_getElem (by omega)]; rfl
    rw [e]
    generalize nestV W H (nestTo W H L k).laid (L.getD k []) = r
    cases r with
    | none => exact ⟨h1, h2⟩
    | some v =>
      show ((nestTo W H L k).out ++ [(k, v)]).length = ((nestTo W H L k).laid ++ [movedL (atZero (L.getD k [])) v]).length ∧ ∀ (j : Nat) (x : Nat × Pt), ((nestTo W H L k).out ++ [(k, v)])[j]? = some x → ∃ l, L[x.1]? = some l ∧ ((nestTo W H L k).laid ++ [movedL (atZero (L.getD k [])) v])[j]? = some (movedL (atZero l) x.2)
      refine ⟨by rw [List.length_append, List.length_append, h1]; rfl, fun j x hx => ?_⟩
      rcases Nat.lt_or_ge j (nestTo W H L k).out.length with g | g
      · rw [List.getElem?_append_left g] at hx
        rw [List.getElem?_append_left (by omega)]
        exact h2 j x hx
      · rw [List.getElem?_append_right g] at hx
        rw [List.getElem?_append_right (by omega), ← h1]
        obtain ⟨d, hd⟩ : ∃ d, j - (nestTo W H L k).out.length = d := ⟨_, rfl⟩
        rw [hd] at hx ⊢
        match d, hx with
        | 0, hx =>
          obtain rfl : (k, v) = x := by simpa using hx
          exact ⟨_, el, rfl⟩
        | d + 1, hx => simp at hx

/-- Is the lattice point of a cell in the interior of a polygon? -/
def inP (p : List Pt) (c : Nat) : Int := if 0 < whereD p (((c % 32 : Nat) : Int), ((c / 32 : Nat) : Int)) then 1 else 0
def inAll (L : List (List Pt)) (c : Nat) : Int := L.foldr (fun p s => inP p c + s) 0
theorem inAll_append (L M : List (List Pt)) (c : Nat) : inAll (L ++ M) c = inAll L c + inAll M c := by
  induction L with
  | nil => show inAll M c = 0 + inAll M c; omega
  | cons p L ih =>
    show inP p c + inAll (L ++ M) c = inP p c + inAll L c + inAll M c
    rw [ih]; omega
/-- How many of them have it, in the sheet. -/
def cntC (W H : Int) (L : List (List Pt)) (c : Nat) : Int := if ((c % 32 : Nat) : Int) ≤ W ∧ ((c / 32 : Nat) : Int) ≤ H then inAll L c else 0
theorem whereD_val (l : List Pt) (p : Pt) : whereD l p = 0 ∨ whereD l p = 1 ∨ whereD l p = -1 := by
  unfold whereD
  split
  · exact .inl rfl
  · exact .inr (sideTo_bd l p _)
theorem inP_inner {p : List Pt} {p0 : Pt} {c : Nat} (cp : Conv p p0) (h : 0 < whereD p (((c % 32 : Nat) : Int), ((c / 32 : Nat) : Int))) : Inner p (((c % 32 : Nat) : Int), ((c / 32 : Nat) : Int)) := by
  refine where_inner cp ?_
  rcases whereD_val p (((c % 32 : Nat) : Int), ((c / 32 : Nat) : Int)) with e | e | e
  · rw [e] at h; cases h
  · exact e
  · rw [e] at h; cases h
theorem inAll_zero {L : List (List Pt)} {c : Nat} (h : ∀ p ∈ L, inP p c = 0) : inAll L c = 0 := by
  induction L with
  | nil => rfl
  | cons p L ih =>
    show inP p c + inAll L c = 0
    rw [h p (List.mem_cons_self ..), ih fun q hq => h q (List.mem_cons_of_mem _ hq)]; rfl
/-- No point is in the interior of two. -/
theorem inAll_new {L : List (List Pt)} {m : List Pt} {m0 : Pt} {c : Nat} (hc : ∀ p ∈ L, ∃ p0, Conv p p0) (cm : Conv m m0) (ha : ∀ p ∈ L, apartB p m = true) (h : 0 < whereD m (((c % 32 : Nat) : Int), ((c / 32 : Nat) : Int))) : inAll L c = 0 :=
  inAll_zero fun p hp => by
    obtain ⟨p0, cp⟩ := hc p hp
    unfold inP
    rw [if_neg fun k => inner_apart cp cm (ha p hp) (inP_inner cp k) (inP_inner cm h)]
theorem inAll_le {c : Nat} : ∀ {L : List (List Pt)}, (∀ p ∈ L, ∃ p0, Conv p p0) → (L.Pairwise fun a b => apartB a b = true) → 0 ≤ inAll L c ∧ inAll L c ≤ 1
  | [], _, _ => by show (0 : Int) ≤ 0 ∧ (0 : Int) ≤ 1; omega
  | p :: L, hc, hp => by
    obtain ⟨h1, h2⟩ := List.pairwise_cons.1 hp
    have ih := inAll_le (c := c) (fun q hq => hc q (List.mem_cons_of_mem _ hq)) h2
    show 0 ≤ inP p c + inAll L c ∧ inP p c + inAll L c ≤ 1
    unfold inP
    by_cases k : 0 < whereD p (((c % 32 : Nat) : Int), ((c / 32 : Nat) : Int))
    · obtain ⟨p0, cp⟩ := hc p (List.mem_cons_self ..)
      have z : inAll L c = 0 := inAll_zero fun q hq => by
        obtain ⟨q0, cq⟩ := hc q (List.mem_cons_of_mem _ hq)
        unfold inP
        rw [if_neg fun k' => inner_apart cp cq (h1 q hq) (inP_inner cp k) (inP_inner cq k')]
      rw [if_pos k, z]; omega
    · rw [if_neg k]; omega

/-- A round of the law over what is placed. -/
structure PRound (W H : Int) (L : List (List Pt)) (O : List (Nat × Pt)) (D : List (List Pt)) (j i : Nat) (v : Pt) (l m : List Pt) : Prop where
  xo : O[j]? = some (i, v)
  ll : L[i]? = some l
  mm : D[j]? = some m
  meq : m = movedL (atZero l) v
  conv : ∃ m0, Conv m m0
  len : m.length = l.length
  bd : ∀ p ∈ m, (0 ≤ p.1 ∧ p.1 ≤ W) ∧ (0 ≤ p.2 ∧ p.2 ≤ H)
  apart : ∀ p ∈ D.take j, apartB p m = true
  next : D.take (j + 1) = D.take j ++ [m]
theorem pround {W H : Int} {L : List (List Pt)} {M j : Nat} (hM : M ≤ L.length) (hL : ∀ l ∈ L, (∃ l0, Conv l l0) ∧ l.length ≤ 32) (hj : j < (nestTo W H L M).out.length) :
    ∃ i v l m, PRound W H L (nestTo W H L M).out (nestTo W H L M).laid j i v l m := by
  obtain ⟨h1, h2⟩ := nestTo_zip (W := W) (H := H) (L := L) M hM
  obtain ⟨l, k1, k2⟩ := h2 j _ (List.getElem?_eq_getElem hj)
  obtain ⟨q1, -, -, -⟩ := nestTo_laid (w := W) (h := H) (m := 32) (L := L) hL M hM
  have hjl : j < (nestTo W H L M).laid.length := by omega
  have hm : movedL (atZero l) ((nestTo W H L M).out[j]).2 ∈ (nestTo W H L M).laid := List.mem_of_getElem? k2
  have ok := q1 _ hm
  refine ⟨_, _, l, _, ⟨by rw [List.getElem?_eq_getElem hj], k1, k2, rfl, ok.conv, by unfold atZero; rw [movedL_length, movedL_length], ok.bd, fun p hp => ?_, ?_⟩⟩
  · obtain ⟨t, ht, rfl⟩ := List.getElem_of_mem hp
    rw [List.length_take] at ht
    have hpw := List.pairwise_iff_getElem.1 (nestTo_apart (W := W) (H := H) (L := L) M) t j (by omega) hjl (by omega)
    rw [List.getElem_take]
    have e : (nestTo W H L M).laid[j] = movedL (atZero l) ((nestTo W H L M).out[j]).2 := by
      rw [List.getElem?_eq_getElem hjl] at k2
      exact Option.some.inj k2
    rw [e] at hpw
    exact hpw
  · rw [List.take_succ_eq_append_getElem hjl]
    rw [List.getElem?_eq_getElem hjl] at k2
    rw [Option.some.inj k2]

theorem sumN_nonneg {f : Nat → Int} : ∀ n, (∀ i, i < n → 0 ≤ f i) → 0 ≤ sumN f n
  | 0, _ => Int.le_refl _
  | n + 1, h => by
    unfold sumN
    have a := sumN_nonneg n fun i hi => h i (by omega)
    have b := h n (by omega)
    omega
/-- D that fits all heights up to 30. -/
def bigD : Int := 2 * 2329089562800
theorem bigD_dvd : ∀ d : Nat, 1 ≤ d → d ≤ 30 → 2 * (d : Int) ∣ bigD := by
  intro d h1 h2
  have : ∀ d : Fin 31, 1 ≤ d.val → 2 * (d.val : Int) ∣ bigD := by decide
  exact this ⟨d, by omega⟩ h1
theorem fits_30 {a : List Pt} {H : Int} (hH : H ≤ 30) (hb : ∀ p ∈ a, 0 ≤ p.2 ∧ p.2 ≤ H) : FitsD bigD a := fun p hp q hq h => by
  have h1 := hb p hp
  have h2 := hb q hq
  have k := bigD_dvd (q.2 - p.2).toNat (by omega) (by omega)
  rwa [Int.toNat_of_nonneg (by omega)] at k
theorem area_nonneg {a : List Pt} {a0 : Pt} {W H : Int} (c : Conv a a0) (hW : 0 ≤ W) (hH : 0 ≤ H ∧ H ≤ 30) (hb : ∀ p ∈ a, (0 ≤ p.1 ∧ p.1 ≤ W) ∧ (0 ≤ p.2 ∧ p.2 ≤ H)) : 0 ≤ area2 a := by
  have h3 := c.three
  have hf := fits_30 hH.2 fun p hp => (hb p hp).2
  have e := area_slab (D := bigD) (a := a) (h := H.toNat) (by omega) (fun p hp => by have := (hb p hp).2; rw [Int.toNat_of_nonneg hH.1]; exact this) hf
  have n := sumN_nonneg (f := fun y => slabW bigD a y) H.toNat fun i _ => by
    obtain ⟨I, hI⟩ := conv_slab c (show 0 < bigD by decide) hW (fun p hp => (hb p hp).1) hf i
    have := hI.sum
    have := hI.le
    show 0 ≤ slabW bigD a i
    omega
  apply Classical.byContradiction
  intro hn
  have g : bigD * area2 a ≤ bigD * (-1) := Int.mul_le_mul_of_nonneg_left (by omega) (by decide)
  have : bigD * (-1) = -4658179125600 := by decide
  omega
theorem sumA_bd {L : List (List Pt)} {W H : Int} (hW : 0 ≤ W ∧ W ≤ 30) (hH : 0 ≤ H ∧ H ≤ 30) (hc : ∀ a ∈ L, ∃ a0, Conv a a0) (hb : ∀ a ∈ L, ∀ p ∈ a, (0 ≤ p.1 ∧ p.1 ≤ W) ∧ (0 ≤ p.2 ∧ p.2 ≤ H)) (hp : L.Pairwise fun a b => apartB a b = true) :
    0 ≤ sumA L ∧ sumA L ≤ 2 * W * H := by
  constructor
  · clear hp
    induction L with
    | nil => exact Int.le_refl _
    | cons a L ih =>
      obtain ⟨a0, ca⟩ := hc a (List.mem_cons_self ..)
      have h1 := area_nonneg ca hW.1 hH (hb a (List.mem_cons_self ..))
      have h2 := ih (fun b hb' => hc b (List.mem_cons_of_mem _ hb')) fun b hb' => hb b (List.mem_cons_of_mem _ hb')
      show 0 ≤ area2 a + sumA L
      omega
  · have k := areas_le (D := bigD) (w := W.toNat) (h := H.toNat) (by decide) hc (fun a ha p hp => by
      rw [Int.toNat_of_nonneg hW.1, Int.toNat_of_nonneg hH.1]; exact hb a ha p hp) (fun a ha => fits_30 hH.2 fun p hp => (hb a ha p hp).2) hp
    rwa [Int.toNat_of_nonneg hW.1, Int.toNat_of_nonneg hH.1] at k
theorem sheet_bd {W H : Int} (hW : 0 ≤ W ∧ W ≤ 30) (hH : 0 ≤ H ∧ H ≤ 30) : 0 ≤ 2 * W * H ∧ 2 * W * H ≤ 1800 := by
  have a := Int.mul_nonneg hW.1 hH.1
  have b := Int.mul_le_mul hW.2 hH.2 hH.1 (by omega)
  have e : 2 * W * H = 2 * (W * H) := by grind
  omega
end Go.Proofs.Ytffjonpajjioaaa

/- Shape: the law's points: any points, with coordinates up to a limit. -/
namespace Go.Proofs.Ytffjonpajjioaaa
open Go.RowKit Go.Sort
attribute [local go_sem ↓] run_min_mn run_max_mx

/-- A point's rest. -/
def tmP (p : Pt) : Pt := (p.1.tmod 10001, p.2.tmod 10001)
def foldL (xs : List Pt) : List Pt := xs.map tmP
theorem foldL_length (xs : List Pt) : (foldL xs).length = xs.length := by simp [foldL]
theorem tmod_bd (x : Int) : -10000 ≤ x.tmod 10001 ∧ x.tmod 10001 ≤ 10000 := by
  have a := Int.tmod_lt_of_pos x (b := 10001) (by omega)
  have b := Int.lt_tmod_of_pos x (b := 10001) (by omega)
  omega

def PointsTo (w : World) (l : List Pt) (e : Ending) (w' : World) : Prop := ∃ v, e = .returned v ∧ PtsOwn w' w.heap.size v l ∧ Below w.heap.size w w'

end Go.Proofs.Ytffjonpajjioaaa

/- The run of layer 4's lives: at every start it hands back true, and of what was there nothing turns. -/
namespace Go.Proofs.Ytffjonpajjioaaa
open Go.RowKit (Below)

theorem eng_names : Eng.namesB Try.prog = true := by kernel_rfl
theorem eng_none (f : FuncId) (e : Array Value → Sem Value) (h : (Try.prog.funcs[f]?).isNone = true) : Eng.Entry Try.prog f e := ⟨fun fn h' => by rw [h'] at h; cases h⟩
noncomputable def eng_prims : Eng.Base := Eng.bareOf 1000000 1000001 1000002
theorem eng_ok {ro : Eng.Lo} : Eng.ProgOk Try.prog ro eng_prims :=
  Eng.progOk Try.checked.mixed eng_names (eng_none _ _ (by kernel_rfl)) (eng_none _ _ (by kernel_rfl)) (eng_none _ _ (by kernel_rfl))

end Go.Proofs.Ytffjonpajjioaaa

/- ShapeHulled: the law's walk. -/
namespace Go.Proofs.Ytffjonpajjioaaa
open Go.RowKit Go.Sort

theorem PtsIn.drop {w : World} {b off : Nat} {l : List Pt} (h : PtsIn w b off l) (k : Nat) : PtsIn w b (off + k * 2) (l.drop k) := fun i p hp => by
  have := h (k + i) p (by rw [List.getElem?_drop] at hp; exact hp)
  rw [show off + k * 2 + i * 2 = off + (k + i) * 2 by omega]
  exact this
theorem hull_again {P K Q : List Pt} {k0 : Pt} (h : Hull P K k0) (hlow : ∀ p ∈ P, leP k0 p) (h3 : 3 ≤ K.length) (hQ : ∀ p, p ∈ Q ↔ p ∈ P) (hok : P.all okP = true) (hlen : Q.length ≤ 32) {w w' : World} {e : Ending} (hc : HullXTo Q w e w') :
    ∃ v, e = .returned (.tuple #[v, .int .i64 0]) ∧ PtsOwn w' w.heap.size v K ∧ Below w.heap.size w w' := by
  obtain ⟨hb, hc⟩ := hc
  have hk0 : k0 ∈ P := by
    have := (h.edge 0 (by omega)).fst
    rwa [h.first] at this
  have h1 : 1 ≤ Q.length := List.length_pos_of_mem ((hQ k0).2 hk0)
  have hp : ptsB Q 1 = true := ptsB_1.2 ⟨h1, hlen, List.all_eq_true.2 fun p hp => List.all_eq_true.1 hok p ((hQ p).1 hp)⟩
  rcases hc with ⟨q, _⟩ | ⟨_, t, ht, hs, q⟩
  · rw [hp] at q; cases q
  · have e := hull_other h hlow h3 hQ ht hs
    rw [e] at q
    rcases q with ⟨q, _⟩ | ⟨_, v, ev, ho⟩
    · omega
    · exact ⟨v, ev, ho, hb⟩
theorem rot_mem (l : List Pt) (r : Nat) (p : Pt) : p ∈ [] ++ l.drop r ++ l.take r ↔ p ∈ l := by
  rw [List.nil_append, List.mem_append]
  constructor
  · rintro (h | h)
    · exact List.mem_of_mem_drop h
    · exact List.mem_of_mem_take h
  · intro h
    rw [← List.take_append_drop r l, List.mem_append] at h
    exact h.symm
def memB (l : List Pt) (t : Nat) (p : Pt) : Bool := (l.take t).any fun z => eqP z p
theorem memB_succ {l : List Pt} {t : Nat} (h : t < l.length) (p : Pt) : memB l (t + 1) p = (memB l t p || eqP l[t] p) := by
  unfold memB
  rw [List.take_succ_eq_append_getElem h, List.any_append]
  simp
theorem memB_all {l : List Pt} {p : Pt} (h : p ∈ l) {t : Nat} (ht : l.length ≤ t) : memB l t p = true := by
  unfold memB
  rw [List.take_of_length_le ht, List.any_eq_true]
  exact ⟨p, h, by simp [eqP, eqI]⟩
def triL : List Pt := [(0, 0), (1, 0), (0, 1)]
theorem tri_at (w : World) : PtsAt (w.alloc (.cells #[.int .i64 0, .int .i64 0, .int .i64 1, .int .i64 0, .int .i64 0, .int .i64 1] 27)) (some ⟨w.heap.size, 0, none⟩) triL := fun _ =>
  ⟨w.heap.size, 0, rfl, by simp, PtBlk.pts (l := triL) (show PtBlk _ _ triL from heap_alloc_new _ _)⟩
theorem fold_ok (xs : List Pt) : (foldL xs).all okP = true := List.all_eq_true.2 fun p hp => by
  unfold foldL at hp
  obtain ⟨q, _, rfl⟩ := List.mem_map.1 hp
  have a := tmod_bd q.1
  have b := tmod_bd q.2
  unfold okP validB tmP
  simp only [inB]
  simp
  omega

end Go.Proofs.Ytffjonpajjioaaa

/- Shape: the law's points up to a limit, nine at most; the law's hull of them and three more. -/
namespace Go.Proofs.Ytffjonpajjioaaa
open Go.RowKit Go.Sort
attribute [local go_sem ↓] run_min_mn run_max_mx

def tmL (L : Int) (p : Pt) : Pt := (p.1.tmod (L + 1), p.2.tmod (L + 1))
def foldLim (L : Int) (xs : List Pt) : List Pt := xs.map (tmL L)
theorem foldLim_length (L : Int) (xs : List Pt) : (foldLim L xs).length = xs.length := by simp [foldLim]
theorem tmodL_bd {L : Int} (h : 0 ≤ L) (x : Int) : -L ≤ x.tmod (L + 1) ∧ x.tmod (L + 1) ≤ L := by
  have a := Int.tmod_lt_of_pos x (b := L + 1) (by omega)
  have b := Int.lt_tmod_of_pos x (b := L + 1) (by omega)
  omega

/-- A polygon that is convex in normal form, of at most twelve corners, with coordinates up to a limit. -/
structure Poly (L : Int) (m : Nat) (H : List Pt) (h0 : Pt) : Prop where
  conv : Conv H h0
  bd : ∀ p ∈ H, (-L ≤ p.1 ∧ p.1 ≤ L) ∧ (-L ≤ p.2 ∧ p.2 ≤ L)
  len : H.length ≤ m

def LawHullTo (L : Int) (w : World) (e : Ending) (w' : World) : Prop :=
  ∃ v H h0, e = .returned v ∧ PtsOwn w' w.heap.size v H ∧ Poly L 12 H h0 ∧ Below w.heap.size w w'

end Go.Proofs.Ytffjonpajjioaaa

/- What the laws of layer 4 that call Sum and Negative need: bounds of sums, areas. -/
namespace Go.Proofs.Ytffjonpajjioaaa
open Go.RowKit Go.Sort

theorem ok_of_bd {L : Int} (hL : L ≤ 10000) {H : List Pt} (h : ∀ p ∈ H, (-L ≤ p.1 ∧ p.1 ≤ L) ∧ (-L ≤ p.2 ∧ p.2 ≤ L)) : H.all okP = true := List.all_eq_true.2 fun p hp => by
  have := h p hp
  unfold okP validB
  simp only [inB]
  simp
  omega
theorem bd_sums {L M : Int} {a b K : List Pt} {k0 : Pt} (ha : ∀ p ∈ a, (-L ≤ p.1 ∧ p.1 ≤ L) ∧ (-L ≤ p.2 ∧ p.2 ≤ L)) (hb : ∀ p ∈ b, (-M ≤ p.1 ∧ p.1 ≤ M) ∧ (-M ≤ p.2 ∧ p.2 ≤ M)) (h : Hull (sums a b) K k0) :
    ∀ p ∈ K, (-(L + M) ≤ p.1 ∧ p.1 ≤ L + M) ∧ (-(L + M) ≤ p.2 ∧ p.2 ≤ L + M) := fun p hp => by
  obtain ⟨x, hx, y, hy, rfl⟩ := mem_sums.1 (hull_sub h hp)
  have h1 := ha x hx
  have h2 := hb y hy
  unfold sumP
  simp only
  omega
theorem conv_polyB {a : List Pt} {a0 : Pt} (ca : Conv a a0) (hok : a.all okP = true) (hlen : a.length ≤ 32) : polyB a = true := by
  unfold polyB
  rw [Bool.and_eq_true]
  have := ca.three
  exact ⟨hok, by rw [inB_true]; omega⟩
theorem area2_bd {a : List Pt} (hok : a.all okP = true) (hlen : a.length ≤ 12) : -2400000000 ≤ area2 a ∧ area2 a ≤ 2400000000 := by
  have h := area2To_bd hok a.length
  have e : area2To a a.length = area2 a := rfl
  rw [e] at h
  omega

end Go.Proofs.Ytffjonpajjioaaa

/- ShapeNoFit: the law's walk. -/
namespace Go.Proofs.Ytffjonpajjioaaa
open Go.RowKit Go.Sort

theorem PtsIn.set_far {w : World} {b off : Nat} {l : List Pt} {q : Addr} {u : Value} (h : PtsIn w b off l) (hq : q.block ≠ b) : PtsIn (w.setCell q u) b off l := fun i p hp => by
  obtain ⟨h1, h2⟩ := h i p hp
  exact ⟨(World.cell?_setCell_other _ _ _ _ (fun e => hq (by rw [e]))).trans h1, (World.cell?_setCell_other _ _ _ _ (fun e => hq (by rw [e]))).trans h2⟩
theorem whereD_cases (l : List Pt) (p : Pt) : whereD l p = 0 ∨ whereD l p = 1 ∨ whereD l p = -1 := by
  unfold whereD
  split
  · exact .inl rfl
  · exact .inr (sideTo_bd l p _)

theorem tmod9 (x : Int) : -9000 ≤ x.tmod 9001 ∧ x.tmod 9001 ≤ 9000 := tmodL_bd (L := 9000) (by omega) x

/-- What the law holds against each other. -/
theorem nofit_facts {a b n K : List Pt} {a0 b0 n0 v : Pt} (ca : Conv a a0) (cb : Conv b b0) (hn : Hull (b.map negP) n n0) (cn : Conv n n0) (h : Hull (sums a n) K (sumP a0 n0)) (cK : Conv K (sumP a0 n0)) :
    (apartB a (movedL b v) = false ∧ whereD K v = 1) ∨ (apartB a (movedL b v) = true ∧ whereD K v = 0) ∨ (apartB a (movedL b v) = true ∧ whereD K v = -1) := by
  have k := overlap_inner (v := v) ca cb hn cn h cK
  cases e : apartB a (movedL b v)
  · exact .inl ⟨rfl, inner_where cK (k.1 e)⟩
  · rcases whereD_cases K v with q | q | q
    · exact .inr (.inl ⟨rfl, q⟩)
    · have := k.2 (where_inner cK q)
      rw [e] at this; cases this
    · exact .inr (.inr ⟨rfl, q⟩)

theorem apE_ok {a b : List Pt} {a0 b0 v : Pt} (ca : Conv a a0) (cb : Conv b b0) (oa : a.all okP = true) (ob : b.all okP = true) (la : a.length ≤ 32) (lb : b.length ≤ 32) (hv : (-9000 ≤ v.1 ∧ v.1 ≤ 9000) ∧ (-9000 ≤ v.2 ∧ v.2 ≤ 9000)) :
    apE a b v = 0 ∧ apX a b v = apartB a (movedL b v) := by
  have e1 : validB v.1 v.2 20000 = true := by unfold validB; simp only [inB]; simp; omega
  have e : apE a b v = 0 := by unfold apE; rw [if_pos (conv_conE ca oa la), if_pos (conv_conE cb ob lb), e1]; rfl
  exact ⟨e, by unfold apX; rw [if_pos e]⟩
theorem whereX_ok {K : List Pt} {k0 v : Pt} (cK : Conv K k0) (oK : K.all okP = true) (lK : K.length ≤ 32) (hv : (-9000 ≤ v.1 ∧ v.1 ≤ 9000) ∧ (-9000 ≤ v.2 ∧ v.2 ≤ 9000)) : whereX K v = whereD K v ∧ whereE K v = 0 := by
  have e1 : validB v.1 v.2 10000 = true := by unfold validB; simp only [inB]; simp; omega
  have e0 := hull_simpE (conv_polyB cK oK lK) (hull_convex cK.hull cK.three cK.low)
  refine ⟨?_, ?_⟩
  · unfold whereX; rw [if_pos ⟨e0, e1⟩, ← where_same]
  · unfold whereE; rw [if_pos e0, if_pos e1]

end Go.Proofs.Ytffjonpajjioaaa

/- TopPlaced: plain facts for the law's inner loops and its end. -/
namespace Go.Proofs.Ytffjonpajjioaaa

/-- All that is placed. -/
structure PAll (W H : Int) (D : List (List Pt)) : Prop where
  conv : ∀ a ∈ D, ∃ a0, Conv a a0
  len : ∀ a ∈ D, a.length ≤ 11
  bd : ∀ a ∈ D, ∀ p ∈ a, (0 ≤ p.1 ∧ p.1 ≤ W) ∧ (0 ≤ p.2 ∧ p.2 ≤ H)
  apart : D.Pairwise fun a b => apartB a b = true
theorem pall {W H : Int} {L : List (List Pt)} {M : Nat} (hM : M ≤ L.length) (hL : ∀ l ∈ L, (∃ l0, Conv l l0) ∧ l.length ≤ 11) : PAll W H (nestTo W H L M).laid := by
  obtain ⟨q1, -, -, -⟩ := nestTo_laid (w := W) (h := H) (m := 11) (L := L) hL M hM
  exact ⟨fun a ha => (q1 a ha).conv, fun a ha => (q1 a ha).len, fun a ha => (q1 a ha).bd, nestTo_apart M⟩
theorem PAll.take {W H : Int} {D : List (List Pt)} (h : PAll W H D) (j : Nat) : PAll W H (D.take j) :=
  ⟨fun a ha => h.conv a (List.mem_of_mem_take ha), fun a ha => h.len a (List.mem_of_mem_take ha), fun a ha => h.bd a (List.mem_of_mem_take ha), h.apart.sublist (List.take_sublist _ _)⟩
theorem PAll.sum {W H : Int} {D : List (List Pt)} (h : PAll W H D) (hW : 0 ≤ W ∧ W ≤ 30) (hH : 0 ≤ H ∧ H ≤ 30) : 0 ≤ sumA D ∧ sumA D ≤ 2 * W * H := sumA_bd hW hH h.conv h.bd h.apart
theorem PAll.all {W H : Int} {D : List (List Pt)} (h : PAll W H D) (c : Nat) : 0 ≤ inAll D c ∧ inAll D c ≤ 1 := inAll_le h.conv h.apart
theorem okP_of_bd {W H : Int} (hW : W ≤ 30) (hH : H ≤ 30) {a : List Pt} (h : ∀ p ∈ a, (0 ≤ p.1 ∧ p.1 ≤ W) ∧ (0 ≤ p.2 ∧ p.2 ≤ H)) : a.all okP = true :=
  List.all_eq_true.2 fun p hp => by
    have := h p hp
    unfold okP validB
    rw [Bool.and_eq_true, inB_true, inB_true]
    omega
theorem area2X_ok {a : List Pt} (h : polyB a = true) : area2X a = area2 a ∧ errX a = 0 := by
  unfold area2X errX
  rw [h]
  exact ⟨rfl, rfl⟩
theorem movedL_zero (l : List Pt) : movedL l (0, 0) = l := by
  unfold movedL addP
  simp
/-- What the law asks of two that are placed. -/
theorem apart_facts {a b n K : List Pt} {a0 b0 n0 : Pt} (ca : Conv a a0) (cb : Conv b b0) (hn : Hull (b.map negP) n n0) (cn : Conv n n0) (h : Hull (sums a n) K (sumP a0 n0)) (cK : Conv K (sumP a0 n0)) (ha : apartB a b = true) :
    whereD K (0, 0) = 0 ∨ whereD K (0, 0) = -1 := by
  rcases nofit_facts (v := (0, 0)) ca cb hn cn h cK with ⟨e, _⟩ | ⟨_, e⟩ | ⟨_, e⟩
  · rw [movedL_zero, ha] at e; cases e
  · exact .inl e
  · exact .inr e

/-- The cells' counts when those before t are counted with m, too. -/
def cntM (W H : Int) (L : List (List Pt)) (m : List Pt) (t : Nat) (c : Nat) : Int := if c < t then cntC W H (L ++ [m]) c else cntC W H L c
theorem cntM_zero (W H : Int) (L : List (List Pt)) (m : List Pt) : cntM W H L m 0 = cntC W H L := by
  funext c; unfold cntM; rw [if_neg (by omega)]
theorem cntM_all (W H : Int) (L : List (List Pt)) (m : List Pt) {t c : Nat} (h : c < t) : cntM W H L m t c = cntC W H (L ++ [m]) c := by
  unfold cntM; rw [if_pos h]
theorem inAll_one (m : List Pt) (c : Nat) : inAll [m] c = inP m c := by
  show inP m c + 0 = inP m c
  omega
theorem cell_div {y v : Nat} (hv : v < 32) : (32 * y + v) % 32 = v ∧ (32 * y + v) / 32 = y := by omega
/-- One cell more. -/
theorem cntM_succ {W H : Int} {L : List (List Pt)} {m : List Pt} {y v : Nat} (hv : v < 32) (hW : (v : Int) ≤ W) (hH : (y : Int) ≤ H) :
    cntM W H L m (32 * y + v) (32 * y + v) = inAll L (32 * y + v) ∧
    ∀ c, cntM W H L m (32 * y + v + 1) c = if c = 32 * y + v then inAll L (32 * y + v) + inP m (32 * y + v) else cntM W H L m (32 * y + v) c := by
  obtain ⟨e1, e2⟩ := cell_div (y := y) hv
  have e3 : ∀ M : List (List Pt), cntC W H M (32 * y + v) = inAll M (32 * y + v) := fun M => by
    unfold cntC
    rw [e1, e2, if_pos ⟨hW, hH⟩]
  refine ⟨by unfold cntM; rw [if_neg (by omega), e3], fun c => ?_⟩
  by_cases hc : c = 32 * y + v
  · rw [if_pos hc, hc]
    unfold cntM
    rw [if_pos (by omega), e3, inAll_append, inAll_one]
  · rw [if_neg hc]
    unfold cntM
    by_cases h : c < 32 * y + v
    · rw [if_pos (by omega), if_pos h]
    · rw [if_neg (by omega), if_neg h]
/-- The row's end. -/
theorem cntM_line {W H : Int} {L : List (List Pt)} {m : List Pt} {y v : Nat} (hv : v ≤ 32) (hW : W < (v : Int)) (c : Nat) : cntM W H L m (32 * y + v) c = cntM W H L m (32 * (y + 1)) c := by
  unfold cntM
  by_cases h : c < 32 * y + v
  · rw [if_pos h, if_pos (by omega)]
  · rw [if_neg h]
    by_cases h2 : c < 32 * (y + 1)
    · rw [if_pos h2]
      unfold cntC
      rw [if_neg (by omega), if_neg (by omega)]
    · rw [if_neg h2]
/-- All rows. -/
theorem cntM_end {W H : Int} {L : List (List Pt)} {m : List Pt} {y : Nat} (hH : H < (y : Int)) (c : Nat) : cntM W H L m (32 * y) c = cntC W H (L ++ [m]) c := by
  unfold cntM
  by_cases h : c < 32 * y
  · rw [if_pos h]
  · rw [if_neg h]
    unfold cntC
    rw [if_neg (by omega), if_neg (by omega)]
theorem inP_pos {m : List Pt} {y v : Nat} (hv : v < 32) : inP m (32 * y + v) = if 0 < whereD m ((v : Int), (y : Int)) then 1 else 0 := by
  obtain ⟨e1, e2⟩ := cell_div (y := y) hv
  unfold inP
  rw [e1, e2]

/-- The sheet as a polygon. -/
def rectL (W H : Int) : List Pt := [(0, 0), (W, 0), (W, H), (0, H)]
def rectB (w h : Nat) : Bool := polyB (rectL w h) && simpleB (rectL w h) && decide (border (rectL w h) = 2 * ((w : Int) + h)) && decide (area2 (rectL w h) = 2 * w * h)
theorem rect_all : ((List.range 30).all fun w => (List.range 30).all fun h => rectB (w + 1) (h + 1)) = true := by decide +kernel
theorem rect_facts {W H : Int} (hW : 1 ≤ W ∧ W ≤ 30) (hH : 1 ≤ H ∧ H ≤ 30) : polyB (rectL W H) = true ∧ simpleB (rectL W H) = true ∧ border (rectL W H) = 2 * (W + H) ∧ area2 (rectL W H) = 2 * W * H := by
  have k := List.all_eq_true.1 (List.all_eq_true.1 rect_all (W.toNat - 1) (List.mem_range.2 (by omega))) (H.toNat - 1) (List.mem_range.2 (by omega))
  rw [show W.toNat - 1 + 1 = W.toNat by omega, show H.toNat - 1 + 1 = H.toNat by omega] at k
  unfold rectB at k
  rw [Int.toNat_of_nonneg (by omega), Int.toNat_of_nonneg (by omega)] at k
  simp only [Bool.and_eq_true, decide_eq_true_eq] at k
  exact ⟨k.1.1.1, k.1.1.2, k.1.2, k.2⟩
theorem rect_in {W H : Int} (hW : 1 ≤ W ∧ W ≤ 30) (hH : 1 ≤ H ∧ H ≤ 30) : ((area2 (rectL W H)).natAbs : Int) - border (rectL W H) + 2 = 2 * ((W - 1) * (H - 1)) := by
  obtain ⟨-, -, e1, e2⟩ := rect_facts hW hH
  have h0 := Int.mul_nonneg (a := W) (b := H) (by omega) (by omega)
  have e3 : 2 * W * H = 2 * (W * H) := by grind
  have e4 : (W - 1) * (H - 1) = W * H - W - H + 1 := by grind
  rw [e1, e2, e3, e4]
  omega
end Go.Proofs.Ytffjonpajjioaaa

/- A row of 1024 integers of the call's own: cells told by a function. -/
namespace Go.Proofs.Ytffjonpajjioaaa
open Go.RowKit Go.Sort

def rowV (F : Nat → Int) : Array Value := ((List.range 1024).map fun i => Value.int .i64 (F i)).toArray
def IntRow (w : World) (g : Nat) (F : Nat → Int) : Prop := w.heap[g]? = some (.cells (rowV F) 3 (0, 0))
def zeroRow : Obj := .cells (rowV fun _ => 0) 3
theorem rowV_size (F : Nat → Int) : (rowV F).size = 1024 := by simp [rowV]
theorem rowV_get (F : Nat → Int) {c : Nat} (h : c < 1024) : (rowV F)[c]? = some (.int .i64 (F c)) := by
  unfold rowV
  rw [List.getElem?_toArray, List.getElem?_map, List.getElem?_range h]
  rfl
theorem rowV_set (F : Nat → Int) (c : Nat) (v : Int) : (rowV F).setIfInBounds c (.int .i64 v) = rowV (fun i => if i = c then v else F i) := by
  apply Array.ext_getElem?
  intro i
  rw [Array.getElem?_setIfInBounds]
  by_cases hi : i < 1024
  · rw [rowV_get _ hi, rowV_size]
    by_cases e : c = i
    · subst e
      rw [if_pos rfl, if_pos (by first | exact hi | (rw [rowV_size]; exact hi)), rowV_get _ hi]
      simp
    · have e' : ¬ i = c := fun q => e q.symm
      rw [if_neg e, rowV_get _ hi]; simp [e']
  · have a : (rowV F)[i]? = none := by rw [Array.getElem?_eq_none]; rw [rowV_size]; omega
    have b : (rowV (fun i => if i = c then v else F i))[i]? = none := by rw [Array.getElem?_eq_none]; rw [rowV_size]; omega
    rw [a, b, rowV_size]
    by_cases e : c = i
    · subst e; simp [hi]
    · simp [e]
section
variable {w w' : World} {g : Nat} {F : Nat → Int}
theorem IntRow.lt (h : IntRow w g F) : g < w.heap.size := (Array.getElem?_eq_some_iff.1 h).1
theorem IntRow.same (h : IntRow w g F) (e : w'.heap[g]? = w.heap[g]?) : IntRow w' g F := e.trans h
theorem IntRow.cell (h : IntRow w g F) {c : Nat} (hc : c < 1024) : w.cell? ⟨g, c, none⟩ = some (.int .i64 (F c)) := by
  rw [cell_of_row w g c _ 3 (0, 0) h]
  exact rowV_get F hc
theorem IntRow.frozen (h : IntRow w g F) (c : Nat) : w.frozen? ⟨g, c, none⟩ = false := by simp [World.frozen?, show w.heap[g]? = _ from h]
theorem IntRow.below {B : Nat} (h : IntRow w g F) (hb : Below B w w') (hg : g < B) : IntRow w' g F := h.same (hb.block g hg)
theorem IntRow.set (h : IntRow w g F) (c : Nat) (v : Int) : IntRow (w.setCell ⟨g, c, none⟩ (.int .i64 v)) g (fun i => if i = c then v else F i) := by
  have e : w.heap[g]? = _ := h
  unfold IntRow
  rw [← rowV_set]
  simp [World.setCell, Array.getElem?_modify, e]
theorem IntRow.beside {row : Option Nat} (h : IntRow w g F) (hg : w.grownBy w' row) (hne : ∀ k, row = some k → ∃ cur T, w.heap[k]? = some (.cells cur T (0, 0)) ∧ T ≠ 3) : IntRow w' g F :=
  h.same (hg.block g h.lt (fun e => by
    obtain ⟨cur, T, hc, hT⟩ := hne g e.symm
    have h2 : w.heap[g]? = some (.cells (rowV F) 3 (0, 0)) := h
    rw [hc] at h2
    simp at h2
    exact hT h2.2))
/-- A store into it is a growth of the row alone. -/
theorem IntRow.grown (w : World) (g c : Nat) (v : Value) : w.grownBy (w.setCell ⟨g, c, none⟩ v) (some g) :=
  ⟨rfl, rfl, rfl, by simp, fun k _ e => Below.heap_setCell w ⟨g, c, none⟩ v k (fun e2 => e (by rw [e2]))⟩
end
theorem IntRow.congr {w : World} {g : Nat} {F G : Nat → Int} (h : IntRow w g F) (e : ∀ c, c < 1024 → F c = G c) : IntRow w g G := by
  have k : rowV F = rowV G := by
    have m : (List.range 1024).map (fun i => Value.int .i64 (F i)) = (List.range 1024).map (fun i => Value.int .i64 (G i)) := List.map_congr_left fun i hi => by rw [e i (List.mem_range.1 hi)]
    unfold rowV
    rw [m]
  unfold IntRow at *
  rwa [k] at h
theorem zeroRow_new (w : World) : IntRow (w.alloc zeroRow) w.heap.size (fun _ => 0) := heap_alloc_new _ _
theorem info_int : (Try.prog.info? 3).map (fun i => (i.zero, i.size, i.bytes)) = some (some (.int .i64 0), 1, 8) := by kernel_rfl
theorem make_row (W : World) : (Instr.makeSlice 32 (.int .i64 1024) (.int .i64 1024)).run Try.prog W = .ok (.slice (some ⟨W.heap.size, 0, none⟩) 1024 1024) (W.alloc zeroRow) := by
  obtain ⟨i0, hi0, hz0, hz1, hz2⟩ := info_pparts info_int
  have h := run_makeSlice (P := Try.prog) W 32 3 i0 _ Try.underlying32 hi0 hz0 .i64 .i64 1024 1024 (by omega) (Int.le_refl _) (by rw [hz1]; decide) (by rw [hz2]; decide) (by omega)
  rw [h, hz1]
  have e : madeCells (Value.int .i64 0).cells ((1024 : Int).toNat * 1) = rowV fun _ => 0 := by
    apply Array.ext_getElem?
    intro i
    by_cases hi : i < 1024
    · rw [rowV_get _ hi]
      simp [madeCells, Value.cells, hi, Nat.mod_one]
    · have a : (rowV fun _ => 0)[i]? = none := by rw [Array.getElem?_eq_none]; rw [rowV_size]; omega
      rw [a, Array.getElem?_eq_none]
      simp [madeCells]
      omega
  rw [e]
  rfl
end Go.Proofs.Ytffjonpajjioaaa

/- TopPlaced: what holds in the loops behind a placed shape. -/
namespace Go.Proofs.Ytffjonpajjioaaa
open Go.RowKit Go.Sort

theorem IntRow.other {w : World} {g : Nat} {F : Nat → Int} (h : IntRow w g F) (k : Nat) (cur : Array Value) (e : some g = some k) : w.heap[k]? ≠ some (.cells cur 27 (0, 0)) ∧ w.heap[k]? ≠ some (.cells cur 24 (0, 0)) := by
  obtain rfl := Option.some.inj e
  have h2 : w.heap[g]? = some (.cells (rowV F) 3 (0, 0)) := h
  rw [h2]
  constructor <;> (intro q; simp at q)

/-- The row of counts, what is moved so far, and the polygon of the round. -/
structure Lp (w3 wx : World) (F : Nat → Int) (v : Value) (D : List (List Pt)) (A : Option Addr) (m : List Pt) : Prop where
  row : IntRow wx w3.heap.size F
  own : PolysOwn wx (w3.heap.size + 1) v D
  ty : PtsTy wx A m
  bel : Below w3.heap.size w3 wx
  lt : w3.heap.size + 1 ≤ wx.heap.size
theorem Lp.below {w3 wx w' : World} {F : Nat → Int} {v : Value} {D : List (List Pt)} {A : Option Addr} {m : List Pt} (h : Lp w3 wx F v D A m) (hb : Below wx.heap.size wx w') : Lp w3 w' F v D A m :=
  ⟨h.row.below hb h.row.lt, h.own.belows hb, h.ty.below hb, h.bel.trans (hb.mono h.bel.size), Nat.le_trans h.lt hb.size⟩
theorem Lp.congr {w3 wx : World} {F G : Nat → Int} {v : Value} {D : List (List Pt)} {A : Option Addr} {m : List Pt} (h : Lp w3 wx F v D A m) (e : ∀ c, c < 1024 → F c = G c) : Lp w3 wx G v D A m :=
  ⟨h.row.congr e, h.own, h.ty, h.bel, h.lt⟩
theorem Lp.set {w3 wx : World} {F : Nat → Int} {v : Value} {D : List (List Pt)} {A : Option Addr} {m : List Pt} (h : Lp w3 wx F v D A m) (c : Nat) (x : Int) :
    Lp w3 (wx.setCell ⟨w3.heap.size, c, none⟩ (.int .i64 x)) (fun i => if i = c then x else F i) v D A m :=
  ⟨h.row.set c x, h.own.kept (IntRow.grown wx w3.heap.size c (.int .i64 x)) (fun k cur e => h.row.other k cur e),
    h.ty.kept (IntRow.grown wx w3.heap.size c (.int .i64 x)) (fun k cur e => (h.row.other k cur e).1), h.bel.setCell (Nat.le_refl _) _, by simpa using h.lt⟩
end Go.Proofs.Ytffjonpajjioaaa
