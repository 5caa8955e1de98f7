/- Parts of the proof, one after the other: Span, Spiral, ConvOf, PtsFold, Lives4, HulledLaw, PtsLim, SumDev, NegDev, MinkKit, SumsDev, AreasLaw. -/
import Derived.Test.YtlmdmgbhfoehgaaSu5
import Derived.Test.YtlmdmgbhfoehgaaSu4
import Derived.Test.YtlmdmgbhfoehgaaEngD
import Derived.Test.YtlmdmgbhfoehgaaChecked
import Derived.KernelRfl
import Derived.Test.YtlmdmgbhfoehgaaSu3
/- Shape: two edges that rise across the same heights: what is to the left below is to the left above, if they do not meet. -/
namespace Go.Proofs.Ytlmdmgbhfoehgaa

theorem leP_y {a b : Pt} (h : leP a b) : a.2 ≤ b.2 ∧ (a.2 = b.2 → a.1 ≤ b.1) := by
  rcases h with rfl | h
  · exact ⟨Int.le_refl _, fun _ => Int.le_refl _⟩
  · unfold ltP at h; omega
theorem ltP_y {a b : Pt} (h : ltP a b) : a.2 ≤ b.2 ∧ (a.2 = b.2 → a.1 < b.1) := by
  unfold ltP at h; omega
theorem zero3 {p q r : Int} (hp : 0 ≤ p) (hq : 0 ≤ q) (hr : 0 ≤ r) (h : p + q + r = 0) : p = 0 ∧ q = 0 ∧ r = 0 := by omega
theorem flat4 {a c d : Pt} (h1 : a.2 = c.2) (h2 : d.2 = c.2) : crossP c d a = 0 := by
  unfold crossP cross
  rw [h1, h2, Int.sub_self, Int.mul_zero, Int.mul_zero]; rfl
theorem mul_zero_left {p q : Int} (hp : 0 < p) (h : p * q = 0) : q = 0 := (Int.mul_eq_zero.1 h).resolve_left (by omega)

/-- One edge within the heights of the other: if it crosses the other's line, it crosses the other. -/
theorem span_in {a b c d : Pt} (ca : leP c a) (ab : ltP a b) (bd : leP b d) (hA : 0 < crossP c d a) (hB : crossP c d b < 0) : crossP a b c < 0 ∧ 0 < crossP a b d := by
  obtain ⟨y1, x1⟩ := leP_y ca
  obtain ⟨y2, x2⟩ := ltP_y ab
  obtain ⟨y3, x3⟩ := leP_y bd
  have flat : ∀ {z : Pt}, a.2 = c.2 → d.2 = c.2 → False := fun h1 h2 => by rw [flat4 h1 h2] at hA; omega
  constructor
  · apply Classical.byContradiction
    intro hC
    have n1 := Int.mul_nonneg (show 0 ≤ crossP a b c by omega) (show 0 ≤ d.2 - c.2 by omega)
    have n2 := Int.mul_nonneg (show 0 ≤ crossP c d a by omega) (show 0 ≤ b.2 - c.2 by omega)
    have n3 := Int.mul_nonneg (show 0 ≤ - crossP c d b by omega) (show 0 ≤ a.2 - c.2 by omega)
    have id : crossP a b c * (d.2 - c.2) + crossP c d a * (b.2 - c.2) + - crossP c d b * (a.2 - c.2) = 0 := by unfold crossP cross; grind
    have idx : crossP a b c * (d.1 - c.1) + crossP c d a * (b.1 - c.1) + - crossP c d b * (a.1 - c.1) = 0 := by unfold crossP cross; grind
    obtain ⟨z1, z2, z3⟩ := zero3 n1 n2 n3 id
    have e2 := mul_zero_left hA z2
    have e3 := mul_zero_left (show 0 < - crossP c d b by omega) z3
    by_cases g : d.2 = c.2
    · exact flat (z := a) (by omega) g
    · have eC : crossP a b c = 0 := (Int.mul_eq_zero.1 z1).resolve_right (by omega)
      rw [eC, Int.zero_mul, Int.zero_add] at idx
      have p2 := Int.mul_pos hA (show 0 < b.1 - c.1 by omega)
      have p3 := Int.mul_nonneg (show 0 ≤ - crossP c d b by omega) (show 0 ≤ a.1 - c.1 by omega)
      omega
  · apply Classical.byContradiction
    intro hD
    have n1 := Int.mul_nonneg (show 0 ≤ - crossP a b d by omega) (show 0 ≤ d.2 - c.2 by omega)
    have n2 := Int.mul_nonneg (show 0 ≤ crossP c d a by omega) (show 0 ≤ d.2 - b.2 by omega)
    have n3 := Int.mul_nonneg (show 0 ≤ - crossP c d b by omega) (show 0 ≤ d.2 - a.2 by omega)
    have id : - crossP a b d * (d.2 - c.2) + crossP c d a * (d.2 - b.2) + - crossP c d b * (d.2 - a.2) = 0 := by unfold crossP cross; grind
    have idx : - crossP a b d * (d.1 - c.1) + crossP c d a * (d.1 - b.1) + - crossP c d b * (d.1 - a.1) = 0 := by unfold crossP cross; grind
    obtain ⟨z1, z2, z3⟩ := zero3 n1 n2 n3 id
    have e2 := mul_zero_left hA z2
    have e3 := mul_zero_left (show 0 < - crossP c d b by omega) z3
    by_cases g : d.2 = c.2
    · exact flat (z := a) (by omega) g
    · have eC : - crossP a b d = 0 := (Int.mul_eq_zero.1 z1).resolve_right (by omega)
      rw [eC, Int.zero_mul, Int.zero_add] at idx
      have p2 := Int.mul_nonneg (show 0 ≤ crossP c d a by omega) (show 0 ≤ d.1 - b.1 by omega)
      have p3 := Int.mul_pos (show 0 < - crossP c d b by omega) (show 0 < d.1 - a.1 by omega)
      omega
/-- The same from the other side. -/
theorem span_in' {a b c d : Pt} (ca : leP c a) (ab : ltP a b) (bd : leP b d) (hA : crossP c d a < 0) (hB : 0 < crossP c d b) : 0 < crossP a b c ∧ crossP a b d < 0 := by
  obtain ⟨y1, x1⟩ := leP_y ca
  obtain ⟨y2, x2⟩ := ltP_y ab
  obtain ⟨y3, x3⟩ := leP_y bd
  have flat : ∀ {z : Pt}, a.2 = c.2 → d.2 = c.2 → False := fun h1 h2 => by rw [flat4 h1 h2] at hA; omega
  constructor
  · apply Classical.byContradiction
    intro hC
    have n1 := Int.mul_nonneg (show 0 ≤ - crossP a b c by omega) (show 0 ≤ d.2 - c.2 by omega)
    have n2 := Int.mul_nonneg (show 0 ≤ - crossP c d a by omega) (show 0 ≤ b.2 - c.2 by omega)
    have n3 := Int.mul_nonneg (show 0 ≤ crossP c d b by omega) (show 0 ≤ a.2 - c.2 by omega)
    have id : - crossP a b c * (d.2 - c.2) + - crossP c d a * (b.2 - c.2) + crossP c d b * (a.2 - c.2) = 0 := by unfold crossP cross; grind
    have idx : - crossP a b c * (d.1 - c.1) + - crossP c d a * (b.1 - c.1) + crossP c d b * (a.1 - c.1) = 0 := by unfold crossP cross; grind
    obtain ⟨z1, z2, z3⟩ := zero3 n1 n2 n3 id
    have e2 := mul_zero_left (show 0 < - crossP c d a by omega) z2
    have e3 := mul_zero_left hB z3
    by_cases g : d.2 = c.2
    · exact flat (z := a) (by omega) g
    · have eC : - crossP a b c = 0 := (Int.mul_eq_zero.1 z1).resolve_right (by omega)
      rw [eC, Int.zero_mul, Int.zero_add] at idx
      have p2 := Int.mul_pos (show 0 < - crossP c d a by omega) (show 0 < b.1 - c.1 by omega)
      have p3 := Int.mul_nonneg (show 0 ≤ crossP c d b by omega) (show 0 ≤ a.1 - c.1 by omega)
      omega
  · apply Classical.byContradiction
    intro hD
    have n1 := Int.mul_nonneg (show 0 ≤ crossP a b d by omega) (show 0 ≤ d.2 - c.2 by omega)
    have n2 := Int.mul_nonneg (show 0 ≤ - crossP c d a by omega) (show 0 ≤ d.2 - b.2 by omega)
    have n3 := Int.mul_nonneg (show 0 ≤ crossP c d b by omega) (show 0 ≤ d.2 - a.2 by omega)
    have id : crossP a b d * (d.2 - c.2) + - crossP c d a * (d.2 - b.2) + crossP c d b * (d.2 - a.2) = 0 := by unfold crossP cross; grind
    have idx : crossP a b d * (d.1 - c.1) + - crossP c d a * (d.1 - b.1) + crossP c d b * (d.1 - a.1) = 0 := by unfold crossP cross; grind
    obtain ⟨z1, z2, z3⟩ := zero3 n1 n2 n3 id
    have e2 := mul_zero_left (show 0 < - crossP c d a by omega) z2
    have e3 := mul_zero_left hB z3
    by_cases g : d.2 = c.2
    · exact flat (z := a) (by omega) g
    · have eC : crossP a b d = 0 := (Int.mul_eq_zero.1 z1).resolve_right (by omega)
      rw [eC, Int.zero_mul, Int.zero_add] at idx
      have p2 := Int.mul_nonneg (show 0 ≤ - crossP c d a by omega) (show 0 ≤ d.1 - b.1 by omega)
      have p3 := Int.mul_pos hB (show 0 < d.1 - a.1 by omega)
      omega

/-- One edge begins within the other's heights and ends above them. -/
theorem span_over {a b c d : Pt} (ca : leP c a) (ad : ltP a d) (db : leP d b) (hA : 0 < crossP c d a) (hD : 0 < crossP a b d) : crossP c d b < 0 ∧ crossP a b c < 0 := by
  obtain ⟨y1, x1⟩ := leP_y ca
  obtain ⟨y2, x2⟩ := ltP_y ad
  obtain ⟨y3, x3⟩ := leP_y db
  have flat : a.2 = c.2 → d.2 = c.2 → False := fun h1 h2 => by rw [flat4 h1 h2] at hA; omega
  have k1 : crossP c d b < 0 := by
    apply Classical.byContradiction
    intro hB
    have n1 := Int.mul_nonneg (show 0 ≤ crossP c d b by omega) (show 0 ≤ d.2 - a.2 by omega)
    have n2 := Int.mul_nonneg (show 0 ≤ crossP c d a by omega) (show 0 ≤ b.2 - d.2 by omega)
    have n3 := Int.mul_nonneg (show 0 ≤ crossP a b d by omega) (show 0 ≤ d.2 - c.2 by omega)
    have id : crossP c d b * (d.2 - a.2) + crossP c d a * (b.2 - d.2) + crossP a b d * (d.2 - c.2) = 0 := by unfold crossP cross; grind
    obtain ⟨z1, z2, z3⟩ := zero3 n1 n2 n3 id
    have e3 := mul_zero_left hD z3
    exact flat (by omega) (by omega)
  refine ⟨k1, ?_⟩
  apply Classical.byContradiction
  intro hC
  have n1 := Int.mul_nonneg (show 0 ≤ crossP a b c by omega) (show 0 ≤ d.2 - c.2 by omega)
  have n2 := Int.mul_nonneg (show 0 ≤ crossP c d a by omega) (show 0 ≤ b.2 - c.2 by omega)
  have n3 := Int.mul_nonneg (show 0 ≤ - crossP c d b by omega) (show 0 ≤ a.2 - c.2 by omega)
  have id : crossP a b c * (d.2 - c.2) + crossP c d a * (b.2 - c.2) + - crossP c d b * (a.2 - c.2) = 0 := by unfold crossP cross; grind
  obtain ⟨z1, z2, z3⟩ := zero3 n1 n2 n3 id
  have e2 := mul_zero_left hA z2
  exact flat (by omega) (by omega)
theorem span_over' {a b c d : Pt} (ca : leP c a) (ad : ltP a d) (db : leP d b) (hA : crossP c d a < 0) (hD : crossP a b d < 0) : 0 < crossP c d b ∧ 0 < crossP a b c := by
  obtain ⟨y1, x1⟩ := leP_y ca
  obtain ⟨y2, x2⟩ := ltP_y ad
  obtain ⟨y3, x3⟩ := leP_y db
  have flat : a.2 = c.2 → d.2 = c.2 → False := fun h1 h2 => by rw [flat4 h1 h2] at hA; omega
  have k1 : 0 < crossP c d b := by
    apply Classical.byContradiction
    intro hB
    have n1 := Int.mul_nonneg (show 0 ≤ - crossP c d b by omega) (show 0 ≤ d.2 - a.2 by omega)
    have n2 := Int.mul_nonneg (show 0 ≤ - crossP c d a by omega) (show 0 ≤ b.2 - d.2 by omega)
    have n3 := Int.mul_nonneg (show 0 ≤ - crossP a b d by omega) (show 0 ≤ d.2 - c.2 by omega)
    have id : - crossP c d b * (d.2 - a.2) + - crossP c d a * (b.2 - d.2) + - crossP a b d * (d.2 - c.2) = 0 := by unfold crossP cross; grind
    obtain ⟨z1, z2, z3⟩ := zero3 n1 n2 n3 id
    have e3 := mul_zero_left (show 0 < - crossP a b d by omega) z3
    exact flat (by omega) (by omega)
  refine ⟨k1, ?_⟩
  apply Classical.byContradiction
  intro hC
  have n1 := Int.mul_nonneg (show 0 ≤ - crossP a b c by omega) (show 0 ≤ d.2 - c.2 by omega)
  have n2 := Int.mul_nonneg (show 0 ≤ - crossP c d a by omega) (show 0 ≤ b.2 - c.2 by omega)
  have n3 := Int.mul_nonneg (show 0 ≤ crossP c d b by omega) (show 0 ≤ a.2 - c.2 by omega)
  have id : - crossP a b c * (d.2 - c.2) + - crossP c d a * (b.2 - c.2) + crossP c d b * (a.2 - c.2) = 0 := by unfold crossP cross; grind
  obtain ⟨z1, z2, z3⟩ := zero3 n1 n2 n3 id
  have e2 := mul_zero_left (show 0 < - crossP c d a by omega) z2
  exact flat (by omega) (by omega)

theorem meet_cross {a b c d : Pt} (h : meetP a b c d = false) : onP a b c = false ∧ onP a b d = false ∧ onP c d a = false ∧ onP c d b = false ∧
    ¬ (((0 < crossP a b c ∧ crossP a b d < 0) ∨ (crossP a b c < 0 ∧ 0 < crossP a b d)) ∧ ((0 < crossP c d a ∧ crossP c d b < 0) ∨ (crossP c d a < 0 ∧ 0 < crossP c d b))) := by
  unfold meetP meetB at h
  simp only [Bool.or_eq_false_iff, Bool.and_eq_false_iff, decide_eq_false_iff_not] at h
  obtain ⟨⟨⟨⟨o1, o2⟩, o3⟩, o4⟩, k⟩ := h
  refine ⟨o1, o2, o3, o4, fun ⟨k1, k2⟩ => ?_⟩
  have s : ∀ x y : Int, (0 < x ∧ y < 0) ∨ (x < 0 ∧ 0 < y) → sgn x * sgn y < 0 := fun x y h => by
    unfold sgn
    rcases h with ⟨p, q⟩ | ⟨p, q⟩
    · rw [if_pos p, if_neg (by omega), if_pos q]; omega
    · rw [if_neg (by omega), if_pos p, if_pos q]; omega
  rcases k with k | k
  · exact k (s _ _ k1)
  · exact k (s _ _ k2)

/-- The first edge is to the left of the second where the higher one of both begins. -/
def LftB (a b c d : Pt) : Prop := (leP c a → 0 < crossP c d a) ∧ (leP a c → crossP a b c < 0)
/-- And where the lower one of both ends. -/
def LftT (a b c d : Pt) : Prop := (leP b d → 0 < crossP c d b) ∧ (leP d b → crossP a b d < 0)

theorem lft_up {a b c d : Pt} (ab : ltP a b) (cd : ltP c d) (ad : ltP a d) (cb : ltP c b) (h : LftB a b c d) (hm : meetP a b c d = false) : LftT a b c d := by
  obtain ⟨o1, o2, o3, o4, k⟩ := meet_cross hm
  rcases leP_total c a with g | g
  · have hA := h.1 g
    refine ⟨fun bd => ?_, fun db => ?_⟩
    · rcases Int.lt_trichotomy (crossP c d b) 0 with q | q | q
      · exfalso
        have := span_in g ab bd hA q
        exact k ⟨.inr this, .inl ⟨hA, q⟩⟩
      · rw [on_of_between q (.inr cb) bd] at o4; cases o4
      · exact q
    · rcases Int.lt_trichotomy (crossP a b d) 0 with q | q | q
      · exact q
      · rw [on_of_between q (.inr ad) db] at o2; cases o2
      · exfalso
        have := span_over g ad db hA q
        exact k ⟨.inr ⟨this.2, q⟩, .inl ⟨hA, this.1⟩⟩
  · have hC := h.2 (.inr g)
    refine ⟨fun bd => ?_, fun db => ?_⟩
    · rcases Int.lt_trichotomy (crossP c d b) 0 with q | q | q
      · exfalso
        have := span_over' (a := c) (b := d) (c := a) (d := b) (.inr g) cb bd hC q
        exact k ⟨.inr ⟨hC, this.1⟩, .inl ⟨this.2, q⟩⟩
      · rw [on_of_between q (.inr cb) bd] at o4; cases o4
      · exact q
    · rcases Int.lt_trichotomy (crossP a b d) 0 with q | q | q
      · exact q
      · rw [on_of_between q (.inr ad) db] at o2; cases o2
      · exfalso
        have := span_in' (a := c) (b := d) (c := a) (d := b) (.inr g) cd db hC q
        exact k ⟨.inr ⟨hC, q⟩, .inl this⟩

end Go.Proofs.Ytlmdmgbhfoehgaa

/- Shape: a simple polygon that turns to the left at all corners goes up once and down once. -/
namespace Go.Proofs.Ytlmdmgbhfoehgaa

/-- Two chains that rise and do not meet: which one is to the left does not change. -/
theorem two_chains {C E : Nat → Pt} {p q : Nat} (hC : ∀ i, i < p → ltP (C i) (C (i + 1))) (hE : ∀ j, j < q → ltP (E j) (E (j + 1))) :
    ∀ m i j, (p - i) + (q - j) = m → (∀ i' j', i ≤ i' → j ≤ j' → i' < p → j' < q → (i' + 1 < p ∨ j' + 1 < q) → meetP (C i') (C (i' + 1)) (E j') (E (j' + 1)) = false) →
      i < p → j < q → ltP (C i) (E (j + 1)) → ltP (E j) (C (i + 1)) → LftB (C i) (C (i + 1)) (E j) (E (j + 1)) →
      ∃ i' j', i ≤ i' ∧ i' < p ∧ j ≤ j' ∧ j' < q ∧ LftB (C i') (C (i' + 1)) (E j') (E (j' + 1)) ∧ ltP (C i') (E (j' + 1)) ∧ ltP (E j') (C (i' + 1)) ∧
        ((i' + 1 = p ∧ leP (C p) (E (j' + 1))) ∨ (j' + 1 = q ∧ leP (E q) (C (i' + 1))))
  | 0, i, j, hm, _, hi, _, _, _, _ => by omega
  | m + 1, i, j, hm, nm, hi, hj, o1, o2, hl => by
    rcases leP_total (C (i + 1)) (E (j + 1)) with g | g
    · by_cases hp : i + 1 = p
      · exact ⟨i, j, Nat.le_refl _, hi, Nat.le_refl _, hj, hl, o1, o2, .inl ⟨hp, by rw [← hp]; exact g⟩⟩
      · have up := lft_up (hC i hi) (hE j hj) o1 o2 hl (nm i j (Nat.le_refl _) (Nat.le_refl _) hi hj (.inl (by omega)))
        have k := up.1 g
        have g' : ltP (C (i + 1)) (E (j + 1)) := by
          rcases g with e | g
          · rw [e] at k
            exfalso
            have : crossP (E j) (E (j + 1)) (E (j + 1)) = 0 := by unfold crossP cross; grind
            omega
          · exact g
        obtain ⟨i', j', a1, a2⟩ := two_chains hC hE m (i + 1) j (by omega) (fun i' j' h1 h2 => nm i' j' (by omega) h2) (by omega) hj g' (ltP_trans o2 (hC (i + 1) (by omega)))
          ⟨fun _ => k, fun h => absurd (leP_ltP h o2) (ltP_irrefl _)⟩
        exact ⟨i', j', by omega, a2⟩
    · by_cases hq : j + 1 = q
      · exact ⟨i, j, Nat.le_refl _, hi, Nat.le_refl _, hj, hl, o1, o2, .inr ⟨hq, by rw [← hq]; exact .inr g⟩⟩
      · have up := lft_up (hC i hi) (hE j hj) o1 o2 hl (nm i j (Nat.le_refl _) (Nat.le_refl _) hi hj (.inr (by omega)))
        have k := up.2 (.inr g)
        obtain ⟨i', j', a1, a2, a3, a4⟩ := two_chains hC hE m i (j + 1) (by omega) (fun i' j' h1 h2 => nm i' j' h1 (by omega)) hi (by omega) (ltP_trans o1 (hE (j + 1) (by omega))) g
          ⟨fun h => absurd (leP_ltP h o1) (ltP_irrefl _), fun _ => k⟩
        exact ⟨i', j', a1, a2, by omega, a4⟩

theorem chain_le {C : Nat → Pt} {p : Nat} (hC : ∀ i, i < p → ltP (C i) (C (i + 1))) {i : Nat} : ∀ {j}, i ≤ j → j ≤ p → leP (C i) (C j)
  | 0, h, _ => by have : i = 0 := by omega
                  rw [this]; exact leP_refl _
  | j + 1, h, hp => by
    by_cases e : i = j + 1
    · rw [e]; exact leP_refl _
    · exact leP_trans (chain_le hC (j := j) (by omega) (by omega)) (.inr (hC j (by omega)))
theorem chain_lt {C : Nat → Pt} {p : Nat} (hC : ∀ i, i < p → ltP (C i) (C (i + 1))) {i j : Nat} (h : i < j) (hp : j ≤ p) : ltP (C i) (C j) :=
  ltP_leP (hC i (by omega)) (chain_le hC (i := i + 1) (by omega) hp)
/-- The edge that crosses a point's height. -/
theorem chain_at {C : Nat → Pt} {x : Pt} (h0 : leP (C 0) x) : ∀ p, ltP x (C p) → ∃ j, j < p ∧ leP (C j) x ∧ ltP x (C (j + 1))
  | 0, h => absurd (leP_ltP h0 h) (ltP_irrefl _)
  | p + 1, h => by
    rcases leP_total (C p) x with g | g
    · exact ⟨p, by omega, g, h⟩
    · obtain ⟨j, h1, h2⟩ := chain_at h0 p g
      exact ⟨j, by omega, h2⟩

theorem meet_of_on {a b c d : Pt} (h : onP a b c = true) : meetP a b c d = true := by
  cases e : meetP a b c d
  · rw [(meet_cross e).1] at h; cases h
  · rfl
theorem cross_cyc (a b c : Pt) : crossP b c a = crossP a b c := by unfold crossP cross; grind
theorem cross_end (a b : Pt) : crossP a b b = 0 := by unfold crossP cross; grind

/-- Up, down to above where it began, and up again: not as high as before. -/
theorem lower_top {v : Nat → Pt} {a b c d : Nat} (hab : a < b) (hbc : b < c) (hcd : c < d)
    (r1 : ∀ i, a ≤ i → i < b → ltP (v i) (v (i + 1))) (f1 : ∀ i, b ≤ i → i < c → ltP (v (i + 1)) (v i)) (r2 : ∀ i, c ≤ i → i < d → ltP (v i) (v (i + 1)))
    (tb : 0 < crossP (v (b - 1)) (v b) (v (b + 1))) (tc : 0 < crossP (v (c - 1)) (v c) (v (c + 1)))
    (nm : ∀ i k, a ≤ i → i + 2 ≤ k → k < d → meetP (v i) (v (i + 1)) (v k) (v (k + 1)) = false) (hac : ltP (v a) (v c)) : ltP (v d) (v b) := by
  apply Classical.byContradiction
  intro hno
  have hbd0 : leP (v b) (v d) := (leP_total (v b) (v d)).resolve_right hno
  have hbd : ltP (v b) (v d) := by
    rcases hbd0 with e | h
    · exfalso
      have m := nm (b - 1) (d - 1) (by omega) (by omega) (by omega)
      rw [show b - 1 + 1 = b by omega, show d - 1 + 1 = d by omega] at m
      have o := (meet_cross m).2.1
      rw [← e, onP_turn, onP_start] at o
      cases o
    · exact h
  -- the three chains
  have hC : ∀ i, i < b - a → ltP (v (a + i)) (v (a + i + 1)) := fun i hi => r1 (a + i) (by omega) (by omega)
  have hE : ∀ j, j < c - b → ltP (v (c - j)) (v (c - (j + 1))) := fun j hj => by
    have := f1 (c - (j + 1)) (by omega) (by omega)
    rwa [show c - (j + 1) + 1 = c - j by omega] at this
  have hG : ∀ i, i < d - c → ltP (v (c + i)) (v (c + i + 1)) := fun i hi => r2 (c + i) (by omega) (by omega)
  have hcb : ltP (v c) (v b) := by
    have := chain_lt (C := fun j => v (c - j)) (p := c - b) hE (i := 0) (j := c - b) (by omega) (Nat.le_refl _)
    simp only [Nat.sub_zero] at this
    rwa [show c - (c - b) = b by omega] at this
  -- where the first chain crosses the height of the lower corner
  obtain ⟨j, hj, j1, j2⟩ := chain_at (C := fun i => v (a + i)) (x := v c) (.inr (by simpa using hac)) (b - a) (by
    show ltP (v c) (v (a + (b - a)))
    rw [show a + (b - a) = b by omega]; exact hcb)
  have j1 : leP (v (a + j)) (v c) := j1
  have j2 : ltP (v c) (v (a + j + 1)) := j2
  -- the lower corner is to its left
  have hleft : 0 < crossP (v (a + j)) (v (a + j + 1)) (v c) := by
    rcases Int.lt_trichotomy (crossP (v (a + j)) (v (a + j + 1)) (v c)) 0 with g | g | g
    · exfalso
      have hne : v (a + j) ≠ v c := fun e => by
        rw [← e] at g
        have : crossP (v (a + j)) (v (a + j + 1)) (v (a + j)) = 0 := by unfold crossP cross; grind
        omega
      have jlt : ltP (v (a + j)) (v c) := j1.resolve_left hne
      have c1 := hE 0 (by omega)
      simp only [Nat.sub_zero] at c1
      obtain ⟨i', j', x1, x2, x3, x4, x5, x6, x7, x8⟩ := two_chains (C := fun i => v (a + i)) (E := fun j => v (c - j)) (p := b - a) (q := c - b) hC hE _ j 0 rfl
        (fun i' j' h1 h2 h3 h4 h5 => by
          show meetP (v (a + i')) (v (a + i' + 1)) (v (c - j')) (v (c - (j' + 1))) = false
          have m := nm (a + i') (c - (j' + 1)) (by omega) (by omega) (by omega)
          rw [show c - (j' + 1) + 1 = c - j' by omega] at m
          rw [meetP_comm, meetP_turn1, ← meetP_comm]; exact m)
        hj (by omega) (leP_ltP j1 (by simpa using c1)) j2
        ⟨fun h => absurd (leP_ltP (by simpa using h) jlt) (ltP_irrefl _), fun _ => g⟩
      have x5 : LftB (v (a + i')) (v (a + i' + 1)) (v (c - j')) (v (c - (j' + 1))) := x5
      have both : i' + 1 = b - a ∧ j' + 1 = c - b := by
        rcases x8 with ⟨e, h⟩ | ⟨e, h⟩
        · refine ⟨e, ?_⟩
          by_cases q : j' + 1 = c - b
          · exact q
          · exfalso
            have := chain_lt (C := fun j => v (c - j)) (p := c - b) hE (i := j' + 1) (j := c - b) (by omega) (Nat.le_refl _)
            have this : ltP (v (c - (j' + 1))) (v (c - (c - b))) := this
            have h : leP (v (a + (b - a))) (v (c - (j' + 1))) := h
            rw [show c - (c - b) = b by omega] at this
            rw [show a + (b - a) = b by omega] at h
            exact ltP_irrefl _ (leP_ltP h this)
        · refine ⟨?_, e⟩
          by_cases q : i' + 1 = b - a
          · exact q
          · exfalso
            have := chain_lt (C := fun i => v (a + i)) (p := b - a) hC (i := i' + 1) (j := b - a) (by omega) (Nat.le_refl _)
            have this : ltP (v (a + (i' + 1))) (v (a + (b - a))) := this
            have h : leP (v (c - (c - b))) (v (a + (i' + 1))) := h
            rw [show a + (b - a) = b by omega] at this
            rw [show c - (c - b) = b by omega] at h
            exact ltP_irrefl _ (leP_ltP h this)
      have e1 : a + i' = b - 1 := by omega
      have e2 : c - j' = b + 1 := by omega
      have e3 : c - (j' + 1) = b := by omega
      rw [e1, show b - 1 + 1 = b by omega, e2, e3] at x5
      rcases leP_total (v (b + 1)) (v (b - 1)) with q | q
      · have k := x5.1 q
        have := crossP_rot (v b) (v (b + 1)) (v (b - 1))
        have := cross_cyc (v (b - 1)) (v b) (v (b + 1))
        omega
      · have k := x5.2 (.inr q)
        omega
    · exfalso
      have m := nm (a + j) c (by omega) (by omega) hcd
      rw [meet_of_on (on_of_between g j1 (.inr j2))] at m
      cases m
    · exact g
  -- the second rise stays to its left
  have right : ∃ i, i < d - c ∧ ltP (v (c + i)) (v b) ∧ leP (v b) (v (c + i + 1)) ∧ crossP (v (c + i)) (v (c + i + 1)) (v b) < 0 := by
    have g0 := hG 0 (by omega)
    simp only [Nat.add_zero] at g0
    obtain ⟨i', j', x1, x2, x3, x4, x5, x6, x7, x8⟩ := two_chains (C := fun i => v (c + i)) (E := fun i => v (a + i)) (p := d - c) (q := b - a) hG hC _ 0 j rfl
      (fun i' j' h1 h2 h3 h4 h5 => by
        show meetP (v (c + i')) (v (c + i' + 1)) (v (a + j')) (v (a + j' + 1)) = false
        rw [meetP_comm]
        exact nm (a + j') (c + i') (by omega) (by omega) (by omega))
      (by omega) hj j2 (leP_ltP j1 (by simpa using g0))
      ⟨fun _ => hleft, fun h => by
        exfalso
        have e := leP_anti (by simpa using h) j1
        have : crossP (v (a + j)) (v (a + j + 1)) (v c) = 0 := by rw [e]; unfold crossP cross; grind
        omega⟩
    have x5 : LftB (v (c + i')) (v (c + i' + 1)) (v (a + j')) (v (a + j' + 1)) := x5
    have x6 : ltP (v (c + i')) (v (a + j' + 1)) := x6
    have x7 : ltP (v (a + j')) (v (c + i' + 1)) := x7
    rcases x8 with ⟨e, h⟩ | ⟨e, h⟩
    · exfalso
      have h : leP (v (c + (d - c))) (v (a + (j' + 1))) := h
      rw [show c + (d - c) = d by omega] at h
      have := chain_le (C := fun i => v (a + i)) (p := b - a) hC (i := j' + 1) (j := b - a) (by omega) (Nat.le_refl _)
      have this : leP (v (a + (j' + 1))) (v (a + (b - a))) := this
      rw [show a + (b - a) = b by omega] at this
      exact ltP_irrefl _ (leP_ltP (leP_trans h this) hbd)
    · have h : leP (v (a + (b - a))) (v (c + (i' + 1))) := h
      rw [show a + (b - a) = b by omega] at h
      have eb : a + j' + 1 = b := by omega
      have m := nm (a + j') (c + i') (by omega) (by omega) (by omega)
      rw [meetP_comm] at m
      have up := lft_up (hG i' x2) (hC j' x4) x6 x7 x5 m
      rw [eb] at up x6
      exact ⟨i', x2, x6, h, up.2 h⟩
  -- and to the right of the fall
  have left : ∃ i, i < d - c ∧ ltP (v (c + i)) (v b) ∧ leP (v b) (v (c + i + 1)) ∧ 0 < crossP (v (c + i)) (v (c + i + 1)) (v b) := by
    have e0 := hE 0 (by omega)
    have g0 := hG 0 (by omega)
    simp only [Nat.sub_zero, Nat.add_zero, Nat.zero_add] at e0 g0
    have t1 : 0 < crossP (v c) (v (c + 1)) (v (c - 1)) := by rw [cross_cyc]; exact tc
    have t2 : crossP (v c) (v (c - 1)) (v (c + 1)) < 0 := by
      have := crossP_rot (v (c - 1)) (v c) (v (c + 1))
      omega
    -- from a state behind the first pair on
    have go : ∀ i j, (0 < i ∨ 0 < j) → i < c - b → j < d - c → ltP (v (c - i)) (v (c + (j + 1))) → ltP (v (c + j)) (v (c - (i + 1))) → LftB (v (c - i)) (v (c - (i + 1))) (v (c + j)) (v (c + (j + 1))) →
        ∃ i, i < d - c ∧ ltP (v (c + i)) (v b) ∧ leP (v b) (v (c + i + 1)) ∧ 0 < crossP (v (c + i)) (v (c + i + 1)) (v b) := by
      intro i j hij hi hj' o1 o2 hl
      have nm2 : ∀ i' j', i ≤ i' → j ≤ j' → i' < c - b → j' < d - c → meetP (v (c - i')) (v (c - (i' + 1))) (v (c + j')) (v (c + (j' + 1))) = false := fun i' j' h1 h2 h3 h4 => by
        have m := nm (c - (i' + 1)) (c + j') (by omega) (by omega) (by omega)
        rw [show c - (i' + 1) + 1 = c - i' by omega] at m
        rw [meetP_turn1]; exact m
      obtain ⟨i', j', x1, x2, x3, x4, x5, x6, x7, x8⟩ := two_chains (C := fun i => v (c - i)) (E := fun j => v (c + j)) (p := c - b) (q := d - c) hE hG _ i j rfl
        (fun i' j' h1 h2 h3 h4 _ => nm2 i' j' h1 h2 h3 h4) hi hj' o1 o2 hl
      have x5 : LftB (v (c - i')) (v (c - (i' + 1))) (v (c + j')) (v (c + (j' + 1))) := x5
      have x6 : ltP (v (c - i')) (v (c + (j' + 1))) := x6
      have x7 : ltP (v (c + j')) (v (c - (i' + 1))) := x7
      rcases x8 with ⟨e, h⟩ | ⟨e, h⟩
      · have h : leP (v (c - (c - b))) (v (c + (j' + 1))) := h
        rw [show c - (c - b) = b by omega] at h
        have eb : c - (i' + 1) = b := by omega
        have up := lft_up (hE i' x2) (hG j' x4) x6 x7 x5 (nm2 i' j' x1 x3 x2 x4)
        rw [eb] at up x7
        exact ⟨j', x4, x7, h, up.1 h⟩
      · exfalso
        have h : leP (v (c + (d - c))) (v (c - (i' + 1))) := h
        rw [show c + (d - c) = d by omega] at h
        have := chain_le (C := fun j => v (c - j)) (p := c - b) hE (i := i' + 1) (j := c - b) (by omega) (Nat.le_refl _)
        have this : leP (v (c - (i' + 1))) (v (c - (c - b))) := this
        rw [show c - (c - b) = b by omega] at this
        exact ltP_irrefl _ (leP_ltP (leP_trans h this) hbd)
    rcases leP_total (v (c - 1)) (v (c + 1)) with g | g
    · by_cases q : c - b = 1
      · have eb : c - 1 = b := by omega
        rw [eb] at t1 g
        exact ⟨0, by omega, by simpa using hcb, by simpa using g, by simpa using t1⟩
      · have g' : ltP (v (c - 1)) (v (c + 1)) := by
          rcases g with e | g
          · rw [e, cross_end] at t1; omega
          · exact g
        have e1 := hE 1 (by omega)
        refine go 1 0 (.inl (by omega)) (by omega) (by omega) (by simpa using g') (by simpa using ltP_trans e0 e1) ⟨fun _ => by simpa using t1, fun h => ?_⟩
        exact absurd (leP_ltP (by simpa using h) e0) (ltP_irrefl _)
    · by_cases q : d - c = 1
      · exfalso
        have ed : c + 1 = d := by omega
        rw [ed] at g
        have := chain_le (C := fun j => v (c - j)) (p := c - b) hE (i := 1) (j := c - b) (by omega) (Nat.le_refl _)
        have this : leP (v (c - 1)) (v (c - (c - b))) := this
        rw [show c - (c - b) = b by omega] at this
        exact ltP_irrefl _ (ltP_trans (ltP_leP g this) hbd)
      · have g1 := hG 1 (by omega)
        refine go 0 1 (.inr (by omega)) (by omega) (by omega) (by simpa using ltP_trans g0 g1) (by simpa using g) ⟨fun h => ?_, fun _ => by simpa using t2⟩
        exact absurd (leP_ltP (by simpa using h) g0) (ltP_irrefl _)
  obtain ⟨i, hi, a1, a2, a3⟩ := right
  obtain ⟨k, hk, b1, b2, b3⟩ := left
  have eik : i = k := by
    rcases Nat.lt_trichotomy i k with q | q | q
    · exfalso
      have := chain_le (C := fun i => v (c + i)) (p := d - c) hG (i := i + 1) (j := k) (by omega) (by omega)
      exact ltP_irrefl _ (leP_ltP (leP_trans a2 this) b1)
    · exact q
    · exfalso
      have := chain_le (C := fun i => v (c + i)) (p := d - c) hG (i := k + 1) (j := i) (by omega) (by omega)
      exact ltP_irrefl _ (leP_ltP (leP_trans b2 this) a1)
  subst eik
  omega

end Go.Proofs.Ytlmdmgbhfoehgaa

/- Shape: what both programs call convex in normal form is a convex polygon. -/
namespace Go.Proofs.Ytlmdmgbhfoehgaa

theorem onP_neg3 (a b p : Pt) : onP (negP a) (negP b) (negP p) = onP a b p := onP_neg a b p
theorem meetP_neg (a b c d : Pt) : meetP (negP a) (negP b) (negP c) (negP d) = meetP a b c d := by
  have o : ∀ a b c : Pt, onB (negP a).1 (negP a).2 (negP b).1 (negP b).2 (negP c).1 (negP c).2 = onB a.1 a.2 b.1 b.2 c.1 c.2 := fun a b c => onP_neg a b c
  have k : ∀ a b c : Pt, cross (negP a).1 (negP a).2 (negP b).1 (negP b).2 (negP c).1 (negP c).2 = cross a.1 a.2 b.1 b.2 c.1 c.2 := fun a b c => crossP_neg a b c
  unfold meetP meetB
  rw [o, o, o, o, k, k, k, k]

/-- The end of a run. -/
theorem run_end (R : Nat → Prop) (n : Nat) (hn : ¬ R n) : ∀ m i, n - i = m → i ≤ n → ∃ j, i ≤ j ∧ j ≤ n ∧ (∀ k, i ≤ k → k < j → R k) ∧ ¬ R j
  | 0, i, hm, hi => ⟨i, Nat.le_refl _, hi, fun k h1 h2 => by omega, by rw [show i = n by omega]; exact hn⟩
  | m + 1, i, hm, hi => by
    by_cases h : R i
    · obtain ⟨j, j1, j2, j3, j4⟩ := run_end R n hn m (i + 1) (by omega) (by omega)
      refine ⟨j, by omega, j2, fun k h1 h2 => ?_, j4⟩
      by_cases e : k = i
      · rw [e]; exact h
      · exact j3 k (by omega) h2
    · exact ⟨i, Nat.le_refl _, hi, fun k h1 h2 => by omega, h⟩

/-- A polygon by its corners: what the two programs ask of it. -/
structure TurnV (l : List Pt) : Prop where
  three : 3 ≤ l.length
  simp_ : SimpleV l
  turn : ∀ i, 0 < crossP (vtx l i) (vtx l (i + 1)) (vtx l (i + 1 + 1))
  low : ∀ i, i < l.length → 0 < i → ltP (vtx l 0) (vtx l i)

theorem turnV {l : List Pt} (h3 : 3 ≤ l.length) (h : convexB l = true) : TurnV l := by
  have hs := convexB_simple h
  unfold convexB at h
  rw [Bool.and_eq_true, List.all_eq_true] at h
  have at_ : ∀ i, i < l.length → convexAt l i = true := fun i hi => h.2 i (List.mem_range.2 hi)
  refine ⟨h3, (simpleV l).1 hs, fun i => ?_, fun i hi h0 => ?_⟩
  · have hm : i % l.length < l.length := Nat.mod_lt _ (by omega)
    have k := at_ (i % l.length) hm
    unfold convexAt at k
    rw [Bool.and_eq_true] at k
    have k1 := k.1
    rw [Bool.not_eq_true', decide_eq_false_iff_not] at k1
    rw [← vtx_lt hm, vtx_nx, vtx_nx, vtx_mod, vtx_mod1] at k1
    have e : vtx l (i % l.length + 1 + 1) = vtx l (i + 1 + 1) := by
      unfold vtx
      rw [Nat.add_assoc, Nat.mod_add_mod]
    rw [e] at k1
    omega
  · have k := at_ i hi
    unfold convexAt at k
    rw [Bool.and_eq_true, Bool.or_eq_true] at k
    rcases k.2 with q | q
    · simp at q; omega
    · rw [vtx_lt hi, vtx_lt (show 0 < l.length by omega)]
      exact firstP_iff.1 q

theorem TurnV.ends {l : List Pt} (h : TurnV l) : vtx l l.length = vtx l 0 := by have := vtx_add l 0; rwa [Nat.zero_add] at this
theorem TurnV.edge {l : List Pt} (h : TurnV l) {i : Nat} (hi : i < l.length) : ltP (vtx l i) (vtx l (i + 1)) ∨ ltP (vtx l (i + 1)) (vtx l i) := by
  rcases leP_total (vtx l i) (vtx l (i + 1)) with q | q
  · rcases q with e | q
    · exact absurd e (h.simp_.ne i hi)
    · exact .inl q
  · exact .inr q
theorem TurnV.first {l : List Pt} (h : TurnV l) : ltP (vtx l 0) (vtx l 1) := h.low 1 (by have := h.three; omega) (by omega)
theorem TurnV.last {l : List Pt} (h : TurnV l) : ltP (vtx l l.length) (vtx l (l.length - 1)) := by
  rw [h.ends]; exact h.low _ (by have := h.three; omega) (by have := h.three; omega)
theorem TurnV.apart {l : List Pt} (h : TurnV l) {i k : Nat} (h2 : i + 2 ≤ k) (hk : k < l.length) (h0 : 0 < i ∨ k + 1 < l.length) : meetP (vtx l i) (vtx l (i + 1)) (vtx l k) (vtx l (k + 1)) = false := by
  refine h.simp_.hit i k h2 hk ?_
  by_cases e : k + 1 = l.length
  · rw [e, Nat.mod_self]; omega
  · rw [Nat.mod_eq_of_lt (by omega)]; omega
theorem TurnV.at_ {l : List Pt} (h : TurnV l) {b : Nat} (hb : 0 < b) : 0 < crossP (vtx l (b - 1)) (vtx l b) (vtx l (b + 1)) := by
  have := h.turn (b - 1)
  rwa [show b - 1 + 1 = b by omega] at this

/-- No spiral comes back to the lowest corner. -/
theorem no_spiral {l : List Pt} (h : TurnV l) : ∀ m a b c, l.length - c ≤ m → a < b → b < c → c < l.length → (∀ i, a ≤ i → i < b → ltP (vtx l i) (vtx l (i + 1))) → (∀ i, b ≤ i → i < c → ltP (vtx l (i + 1)) (vtx l i)) →
    ltP (vtx l c) (vtx l (c + 1)) → ltP (vtx l a) (vtx l c) → False
  | 0, a, b, c, hm, _, _, hc, _, _, _, _ => by omega
  | m + 1, a, b, c, hm, hab, hbc, hc, r1, f1, up, hac => by
    have three := h.three
    have hl := h.last
    -- up to the next top
    obtain ⟨d, d1, d2, d3, d4⟩ := run_end (fun i => ltP (vtx l i) (vtx l (i + 1))) (l.length - 1) (by
      rw [show l.length - 1 + 1 = l.length by omega]
      exact fun q => ltP_asymm q hl) _ c rfl (by omega)
    have hcd : c < d := by
      rcases Nat.lt_or_eq_of_le d1 with q | q
      · exact q
      · rw [← q] at d4; exact absurd up d4
    have down : ltP (vtx l (d + 1)) (vtx l d) := (h.edge (show d < l.length by omega)).resolve_left d4
    have top := lower_top (v := vtx l) hab hbc hcd r1 f1 d3 (h.at_ (by omega)) (h.at_ (by omega)) (fun i k h1 h2 h3 => h.apart h2 (by omega) (.inr (by omega))) hac
    -- down to the next low one
    obtain ⟨e, e1, e2, e3, e4⟩ := run_end (fun i => i < l.length ∧ ltP (vtx l (i + 1)) (vtx l i)) l.length (fun q => by omega) _ d rfl (by omega)
    have hde : d < e := by
      rcases Nat.lt_or_eq_of_le e1 with q | q
      · exact q
      · rw [← q] at e4; exact absurd ⟨by omega, down⟩ e4
    have low := lower_top (v := fun i => negP (vtx l i)) (a := b) (b := c) (c := d) (d := e) hbc hcd hde
      (fun i h1 h2 => ltP_neg.2 (f1 i h1 h2)) (fun i h1 h2 => ltP_neg.2 (d3 i h1 h2)) (fun i h1 h2 => ltP_neg.2 (e3 i h1 h2).2)
      (by rw [crossP_neg]; exact h.at_ (by omega)) (by rw [crossP_neg]; exact h.at_ (by omega))
      (fun i k h1 h2 h3 => by rw [meetP_neg]; exact h.apart h2 (by omega) (.inl (by omega))) (ltP_neg.2 top)
    have low : ltP (vtx l c) (vtx l e) := ltP_neg.1 low
    rcases Nat.lt_or_eq_of_le e2 with q | q
    · have up2 : ltP (vtx l e) (vtx l (e + 1)) := by
        rcases h.edge q with k | k
        · exact k
        · exact absurd ⟨q, k⟩ e4
      exact no_spiral h m c d e (by omega) hcd hde q d3 (fun i h1 h2 => (e3 i h1 h2).2) up2 low
    · rw [q, h.ends] at low
      exact ltP_asymm low (h.low c hc (by omega))

/-- Up once, and down once. -/
theorem TurnV.once {l : List Pt} (h : TurnV l) : ∃ b, 0 < b ∧ b < l.length ∧ (∀ i, i < b → ltP (vtx l i) (vtx l (i + 1))) ∧ ∀ i, b ≤ i → i < l.length → ltP (vtx l (i + 1)) (vtx l i) := by
  have three := h.three
  have hl := h.last
  obtain ⟨b, b1, b2, b3, b4⟩ := run_end (fun i => ltP (vtx l i) (vtx l (i + 1))) (l.length - 1) (by
    rw [show l.length - 1 + 1 = l.length by omega]
    exact fun q => ltP_asymm q hl) _ 0 rfl (by omega)
  have hb : 0 < b := by
    rcases Nat.lt_or_eq_of_le b1 with q | q
    · exact q
    · rw [← q] at b4; exact absurd h.first b4
  have down : ltP (vtx l (b + 1)) (vtx l b) := (h.edge (show b < l.length by omega)).resolve_left b4
  obtain ⟨c, c1, c2, c3, c4⟩ := run_end (fun i => i < l.length ∧ ltP (vtx l (i + 1)) (vtx l i)) l.length (fun q => by omega) _ b rfl (by omega)
  have hbc : b < c := by
    rcases Nat.lt_or_eq_of_le c1 with q | q
    · exact q
    · rw [← q] at c4; exact absurd ⟨by omega, down⟩ c4
  rcases Nat.lt_or_eq_of_le c2 with q | q
  · exfalso
    have up2 : ltP (vtx l c) (vtx l (c + 1)) := by
      rcases h.edge q with k | k
      · exact k
      · exact absurd ⟨q, k⟩ c4
    exact no_spiral h _ 0 b c (Nat.le_refl _) hb hbc q (fun i _ h2 => b3 i (by omega) h2) (fun i h1 h2 => (c3 i h1 h2).2) up2 (h.low c q (by omega))
  · exact ⟨b, hb, by omega, fun i hi => b3 i (by omega) hi, fun i h1 h2 => (c3 i h1 (by omega)).2⟩

def ngP (p : Pt) : Pt := negP p
theorem xr_neg2 (u v : Pt) : xr (negP u) (negP v) = xr u v := by unfold xr negP; grind
theorem xr_negR (u v : Pt) : xr u (negP v) = - xr u v := by unfold xr negP; grind
theorem xr_negL (u v : Pt) : xr (negP u) v = - xr u v := by unfold xr negP; grind

/-- Vectors that turn to the left all the way, in one half plane: each later one is to the left of each earlier one. -/
theorem up_chain {U : Nat → Pt} {s t : Nat} (hu : ∀ k, s ≤ k → k ≤ t → Up (U k)) (hx : ∀ k, s ≤ k → k < t → 0 < xr (U k) (U (k + 1))) : ∀ k, s < k → k ≤ t → 0 < xr (U s) (U k)
  | 0, h, _ => by omega
  | k + 1, h, hk => by
    by_cases e : s = k
    · rw [← e]; exact hx s (Nat.le_refl _) (by omega)
    · have ih := up_chain hu hx k (by omega) (by omega)
      exact xr_trans1 (hu s (Nat.le_refl _) (by omega)) (hu k (by omega) (by omega)) (hu (k + 1) (by omega) hk) ih (by have := hx k (by omega) (by omega); omega)

/-- One round of vectors, each to the left of the one before: what is to the right of the first one stays so. -/
theorem round_once {U : Nat → Pt} {s t n : Nat} (h0 : 0 < s) (hst : s ≤ t) (htn : t ≤ n) (hn : U n = U 0) (hx : ∀ k, k < n → 0 < xr (U k) (U (k + 1)))
    (u1 : ∀ k, k < s → Up (U k)) (u2 : ∀ k, s ≤ k → k < t → Up (negP (U k))) (u3 : ∀ k, t ≤ k → k < n → Up (U k)) {k : Nat} (hk0 : 0 < k) (hk : k + 1 < n) (hle : xr (U 0) (U k) ≤ 0) : xr (U 0) (U (k + 1)) ≤ 0 := by
  have U0 : Up (U 0) := u1 0 h0
  have u3' : ∀ k, t ≤ k → k ≤ n → Up (U k) := fun k h1 h2 => by
    by_cases e : k = n
    · rw [e, hn]; exact U0
    · exact u3 k h1 (by omega)
  have last : ∀ j, t ≤ j → j < n → xr (U 0) (U j) < 0 := fun j h1 h2 => by
    have := up_chain (U := U) (s := j) (t := n) (fun k a b => u3' k (by omega) b) (fun k a b => hx k b) n h2 (Nat.le_refl _)
    rw [hn, xr_swap] at this
    omega
  rcases Nat.lt_or_ge k s with g | g
  · exfalso
    have := up_chain (U := U) (s := 0) (t := k) (fun j _ b => u1 j (by omega)) (fun j _ b => hx j (by omega)) k hk0 (Nat.le_refl _)
    omega
  · rcases Nat.lt_or_ge (k + 1) t with g2 | g2
    · have := xr_trans2 U0 (u2 k g (by omega)) (u2 (k + 1) (by omega) g2) (by rw [xr_negR]; omega) (by rw [xr_neg2]; exact hx k (by omega))
      rw [xr_negR] at this
      omega
    · have := last (k + 1) g2 hk
      omega

/-- What rises and then falls back to where it began is never below. -/
theorem hill {g S : Nat → Int} {N : Nat} (hS0 : S 0 = 0) (hS : ∀ k, k < N → S (k + 1) = S k + g k) (hN : S N = 0) (h0 : 0 < g 0) (hl : g (N - 1) < 0) (hst : ∀ k, 0 < k → k + 1 < N → g k ≤ 0 → g (k + 1) ≤ 0) {k : Nat} (hk0 : 0 < k) (hk : k < N) : 0 < S k := by
  have last : 0 < S (N - 1) := by
    have := hS (N - 1) (by omega)
    rw [show N - 1 + 1 = N by omega] at this
    omega
  apply Classical.byContradiction
  intro hno
  -- from there on it only falls
  have key : ∀ j, k ≤ j → j < N → S j ≤ 0 ∧ (j < N - 1 → g j ≤ 0) ∨ S j ≤ 0 := fun _ _ _ => by
    rename_i j h1 h2
    exact .inr (by
      -- the step into the first such place went down
      have first : ∃ m, 0 < m ∧ m ≤ k ∧ S m ≤ 0 ∧ g (m - 1) ≤ 0 := by
        have : ∀ m, 0 < m → S m ≤ 0 → m < N → ∃ m', 0 < m' ∧ m' ≤ m ∧ S m' ≤ 0 ∧ g (m' - 1) ≤ 0 := by
          intro m
          induction m with
          | zero => intro h; omega
          | succ m ih =>
            intro _ hm hN'
            have e := hS m (by omega)
            by_cases z : m = 0
            · subst z; rw [hS0] at e; omega
            · by_cases p : S m ≤ 0
              · obtain ⟨m', a, b, c⟩ := ih (by omega) p (by omega)
                exact ⟨m', a, by omega, c⟩
              · exact ⟨m + 1, by omega, Nat.le_refl _, hm, by rw [Nat.add_sub_cancel]; omega⟩
        exact this k hk0 (by omega) hk
      obtain ⟨m, m1, m2, m3, m4⟩ := first
      have m0 : m ≠ 1 := fun e => by rw [e] at m4; simp at m4; omega
      have fall : ∀ j, m ≤ j → j < N → g (j - 1) ≤ 0 ∧ S j ≤ 0 := by
        intro j
        induction j with
        | zero => intro h; omega
        | succ j ih =>
          intro h1 h2
          by_cases e : m = j + 1
          · subst e; exact ⟨m4, m3⟩
          · obtain ⟨a, b⟩ := ih (by omega) (by omega)
            have c := hst (j - 1) (by omega) (by omega) a
            rw [show j - 1 + 1 = j by omega] at c
            have e2 := hS j (by omega)
            rw [Nat.add_sub_cancel]
            exact ⟨c, by omega⟩
      exact (fall j (by omega) h2).2)
  have := key (N - 1) (by omega) (by omega)
  omega

/-- CONVEX IN NORMAL FORM. -/
theorem conv_of_convexB {l : List Pt} (h3 : 3 ≤ l.length) (hc : convexB l = true) : Conv l (gt l 0) := by
  have h := turnV h3 hc
  obtain ⟨b, hb, hbn, hr, hf⟩ := h.once
  have per : ∀ i, vtx l (i + l.length) = vtx l i := fun i => vtx_add l i
  have evp : ∀ i, ev l (i + l.length) = ev l i := fun i => by
    unfold ev
    rw [vtx_add, show i + l.length + 1 = i + 1 + l.length by omega, vtx_add]
  have evx : ∀ i, 0 < xr (ev l i) (ev l (i + 1)) := fun i => by
    have := h.turn i
    rw [crossP_xr2] at this
    exact this
  have upr : ∀ i, i < b → Up (ev l i) := fun i hi => up_sub.2 (hr i hi)
  have upf : ∀ i, b ≤ i → i < l.length → Up (negP (ev l i)) := fun i h1 h2 => by
    have := up_sub.2 (hf i h1 h2)
    have e : subP (vtx l i) (vtx l (i + 1)) = negP (ev l i) := by unfold ev subP negP; simp only [Prod.mk.injEq]; omega
    rwa [e] at this
  -- each edge has all corners to its left, or on it
  have left : ∀ i, i < l.length → ∀ k, 0 < k → k < l.length - 1 → 0 < crossP (vtx l i) (vtx l (i + 1)) (vtx l (i + 1 + k)) := fun i hi k hk0 hk => by
    have hst : ∀ k, 0 < k → k + 1 < l.length → xr (ev l i) (ev l (i + k)) ≤ 0 → xr (ev l i) (ev l (i + (k + 1))) ≤ 0 := by
      by_cases g : i < b
      · intro k h1 h2 h3
        exact round_once (U := fun k => ev l (i + k)) (s := b - i) (t := l.length - i) (n := l.length) (by omega) (by omega) (by omega) (by simpa using evp i) (fun k _ => evx (i + k))
          (fun k hk => upr (i + k) (by omega)) (fun k h1 h2 => upf (i + k) (by omega) (by omega))
          (fun k h1 h2 => by
            show Up (ev l (i + k))
            rw [show i + k = (i + k - l.length) + l.length by omega, evp]
            exact upr _ (by omega)) h1 h2 h3
      · intro k h1 h2 h3
        have r := round_once (U := fun k => negP (ev l (i + k))) (s := l.length - i) (t := l.length - i + b) (n := l.length) (by omega) (by omega) (by omega) (by
            show negP (ev l (i + l.length)) = negP (ev l (i + 0))
            rw [evp, Nat.add_zero]) (fun k _ => by
            show 0 < xr (negP (ev l (i + k))) (negP (ev l (i + (k + 1))))
            rw [xr_neg2]; exact evx (i + k))
          (fun k hk => upf (i + k) (by omega) (by omega)) (fun k h1 h2 => by
            show Up (negP (negP (ev l (i + k))))
            rw [negP_negP, show i + k = (i + k - l.length) + l.length by omega, evp]
            exact upr _ (by omega))
          (fun k h1 h2 => by
            show Up (negP (ev l (i + k)))
            rw [show i + k = (i + k - l.length) + l.length by omega, evp]
            exact upf _ (by omega) (by omega)) h1 h2 (by
            show xr (negP (ev l (i + 0))) (negP (ev l (i + k))) ≤ 0
            rw [xr_neg2]; exact h3)
        have r : xr (negP (ev l (i + 0))) (negP (ev l (i + (k + 1)))) ≤ 0 := r
        rw [xr_neg2] at r
        exact r
    have e : crossP (vtx l i) (vtx l (i + 1)) (vtx l (i + 1 + k)) = xr (ev l i) (subP (vtx l (i + 1 + k)) (vtx l (i + 1))) := crossP_xr2 _ _ _
    rw [e]
    refine hill (S := fun k => xr (ev l i) (subP (vtx l (i + 1 + k)) (vtx l (i + 1)))) (g := fun k => xr (ev l i) (ev l (i + 1 + k))) (N := l.length - 1) ?_ (fun k _ => ?_) ?_ ?_ ?_ (fun k h1 h2 h3 => ?_) hk0 hk
    · show xr (ev l i) (subP (vtx l (i + 1)) (vtx l (i + 1))) = 0
      unfold xr subP; grind
    · show xr (ev l i) (subP (vtx l (i + 1 + k + 1)) (vtx l (i + 1))) = xr (ev l i) (subP (vtx l (i + 1 + k)) (vtx l (i + 1))) + xr (ev l i) (subP (vtx l (i + 1 + k + 1)) (vtx l (i + 1 + k)))
      rw [subP_add, subP_add, subP_add]; omega
    · show xr (ev l i) (subP (vtx l (i + 1 + (l.length - 1))) (vtx l (i + 1))) = 0
      rw [show i + 1 + (l.length - 1) = i + l.length by omega, vtx_add]
      unfold ev xr subP; grind
    · exact evx i
    · show xr (ev l i) (ev l (i + 1 + (l.length - 1 - 1))) < 0
      have := evx (i + (l.length - 1))
      rw [show i + (l.length - 1) + 1 = i + l.length by omega, evp, xr_swap] at this
      rw [show i + 1 + (l.length - 1 - 1) = i + (l.length - 1) by omega]
      omega
    · have := hst (k + 1) (by omega) (by omega) (by rw [show i + (k + 1) = i + 1 + k by omega]; exact h3)
      rw [show i + (k + 1 + 1) = i + 1 + (k + 1) by omega] at this
      exact this
  have hedge : ∀ i, i < l.length → Hedge l (vtx l i) (vtx l (i + 1)) := fun i hi => by
    refine ⟨h.simp_.ne i hi, fun p hp => ?_, vtx_mem (by omega) i, vtx_mem (by omega) (i + 1)⟩
    obtain ⟨m, hm, rfl⟩ := List.getElem_of_mem hp
    have em : l[m] = vtx l m := by rw [vtx_lt hm, gt_of (List.getElem?_eq_getElem hm)]
    -- its place behind the edge
    obtain ⟨k, hk, ek⟩ : ∃ k, k < l.length ∧ vtx l m = vtx l (i + 1 + k) := by
      by_cases g : i + 1 ≤ m
      · exact ⟨m - (i + 1), by omega, by rw [show i + 1 + (m - (i + 1)) = m by omega]⟩
      · exact ⟨m + l.length - (i + 1), by omega, by rw [show i + 1 + (m + l.length - (i + 1)) = m + l.length by omega, vtx_add]⟩
    rw [em, ek]
    by_cases k0 : k = 0
    · subst k0
      right
      rw [Nat.add_zero, ← onP_turn, onP_start]
    · by_cases k1 : k = l.length - 1
      · right
        rw [show i + 1 + k = i + l.length by omega, vtx_add, onP_start]
      · exact .inl (left i hi k (by omega) (by omega))
  refine ⟨⟨rfl, by omega, fun i hi => ?_, fun i h0 hi e => ?_⟩, h3, fun p hp => ?_⟩
  · have := hedge i hi
    rwa [vtx_lt hi, ← vtx_nx] at this
  · have := h.low i hi h0
    rw [vtx_lt hi, vtx_lt (show 0 < l.length by omega), e] at this
    exact ltP_irrefl _ this
  · obtain ⟨m, hm, rfl⟩ := List.getElem_of_mem hp
    by_cases e : m = 0
    · subst e; rw [gt_of (List.getElem?_eq_getElem hm)]; exact leP_refl _
    · have := h.low m hm (by omega)
      rw [vtx_lt hm, vtx_lt (show 0 < l.length by omega), gt_of (List.getElem?_eq_getElem hm)] at this
      exact .inr this

end Go.Proofs.Ytlmdmgbhfoehgaa

/- Shape: the law's points: any points, with coordinates up to a limit. -/
namespace Go.Proofs.Ytlmdmgbhfoehgaa
open Go.RowKit Go.Sort
attribute [local go_sem ↓] run_min_mn run_max_mx

/-- A point's rest. -/
def tmP (p : Pt) : Pt := (p.1.tmod 10001, p.2.tmod 10001)
def foldL (xs : List Pt) : List Pt := xs.map tmP
theorem foldL_length (xs : List Pt) : (foldL xs).length = xs.length := by simp [foldL]
theorem tmod_bd (x : Int) : -10000 ≤ x.tmod 10001 ∧ x.tmod 10001 ≤ 10000 := by
  have a := Int.tmod_lt_of_pos x (b := 10001) (by omega)
  have b := Int.lt_tmod_of_pos x (b := 10001) (by omega)
  omega

def PointsTo (w : World) (l : List Pt) (e : Ending) (w' : World) : Prop := ∃ v, e = .returned v ∧ PtsOwn w' w.heap.size v l ∧ Below w.heap.size w w'

set_option maxRecDepth 100000 in
set_option maxHeartbeats 2000000 in
theorem points_any (A : Option Addr) (n c : Nat) (xs : List Pt) (w : World) (hn : xs.length = n) (hbig : n ≤ 9223372036854775807) (hx : PtsAt w A xs) (hw : ∀ x ∈ xs, (-9223372036854775808 ≤ x.1 ∧ x.1 ≤ 9223372036854775807) ∧ (-9223372036854775808 ≤ x.2 ∧ x.2 ≤ 9223372036854775807)) :
    Calls Try.prog 42 #[.slice A n c, .int .i64 10000, .int .i64 20] w (PointsTo w (foldL (xs.take 20))) := by
  have HN := Lib.hid hn
  have HX := Lib.hid hx
  have HW := Lib.hid hw
  clear hn hx hw
  go_enter Try.func42, Try.ntmps42
  go_wp2
  go_loopw [7, 8] (fun o i wr => ∃ k : Nat, k ≤ n ∧ k ≤ 20 ∧ i = .int .i64 k ∧ PtsOwn wr w.heap.size o (foldL (xs.take k)) ∧ Below w.heap.size w wr) (fun _ i _ => 20 - (intOf i).toNat)
  case atStart => exact ⟨0, Nat.zero_le _, by omega, rfl, by simpa [foldL] using PtsOwn.empty w, (Below.refl _ _).alloc (Nat.le_refl _) _⟩
  case round =>
    obtain ⟨k, hk, hk20, rfl, hown, hbr⟩ := hrel
    have HO := Lib.hid hown
    have HB := Lib.hid hbr
    have hsz := hbr.size
    clear hown
    by_cases hlt : k < n ∧ k < 20
    · obtain ⟨hlt, hlt2⟩ := hlt
      have hkl : k < xs.length := by rw [HN.out]; exact hlt
      obtain ⟨b, off, rfl, hb, hin⟩ := HX.out (by intro e; subst e; simp at hkl)
      obtain ⟨h1, h2⟩ := (hin.below hbr hb) k _ (List.getElem?_eq_getElem hkl)
      obtain ⟨⟨d3, d4⟩, d5, d6⟩ := HW.out _ (List.getElem_mem hkl)
      have HNX : Hid (foldL (xs.take (k + 1)) = foldL (xs.take k) ++ [tmP xs[k]]) := Lib.hid (by
        rw [List.take_succ_eq_append_getElem hkl]; unfold foldL; rw [List.map_append]; rfl)
      have HLN : Hid ((foldL (xs.take k)).length ≤ 100) := Lib.hid (by rw [foldL_length, List.length_take]; omega)
      generalize xs[k] = p at *
      generalize foldL (xs.take k) = cur at *
      obtain ⟨x, y⟩ := p
      replace d3 : -9223372036854775808 ≤ x := d3
      replace d4 : x ≤ 9223372036854775807 := d4
      replace d5 : -9223372036854775808 ≤ y := d5
      replace d6 : y ≤ 9223372036854775807 := d6
      have ne1 : u7.ownBlock ≠ some b := fun e => by have := (HO.out.base b e).1; omega
      have hB : b < wr.heap.size := by omega
      clear hin
      have l1 : b < (wr.alloc (.cells #[.int .i64 (x.tmod 10001), .int .i64 (y.tmod 10001)] 38)).drew.heap.size := by simp; omega
      have k1 : (wr.alloc (.cells #[.int .i64 (x.tmod 10001), .int .i64 (y.tmod 10001)] 38)).drew.cell? ⟨b, off + k * 2, none⟩ = some (.int .i64 x) := (World.cell?_alloc_lt wr _ ⟨b, _, none⟩ hB).trans h1
      have k2 : (wr.alloc (.cells #[.int .i64 (x.tmod 10001), .int .i64 (y.tmod 10001)] 38)).drew.cell? ⟨b, off + k * 2 + 1, none⟩ = some (.int .i64 y) := (World.cell?_alloc_lt wr _ ⟨b, _, none⟩ hB).trans h2
      have hlim : IntKind.i64.wrap 10001 = 10001 := by decide
      have hlim2 : IntKind.i64.wrap (10000 + 1) = 10001 := by decide
      have r1 : IntKind.i64.wrap (x.tmod 10001) = x.tmod 10001 := by have := tmod_bd x; rw [IntKind.wrap_i64]; omega
      have r2 : IntKind.i64.wrap (y.tmod 10001) = y.tmod 10001 := by have := tmod_bd y; rw [IntKind.wrap_i64]; omega
      go_wp2_with fail
      go_region_held3 (fun w' => w'.cell? ⟨b, off + k * 2, none⟩ = some (.int .i64 x) ∧ w'.cell? ⟨b, off + k * 2 + 1, none⟩ = some (.int .i64 y))
        (first
          | go_keep
          | exact ⟨(hgrow.cell_far _ l1 (Ne.symm ne1)).trans k1, (hgrow.cell_far _ l1 (Ne.symm ne1)).trans k2⟩)
        ((refine step_papp (by rfl) _ _ (by rfl) w.heap.size _ cur [(x.tmod 10001, y.tmod 10001)] (some ⟨wr.heap.size, 0, none⟩) 1 1 (by rfl) (by rfl) ((HO.out.alloc _).drew) rfl (PtsAt.one wr _ _) (by have := HLN.out; simp; omega) (by simp; omega) ?_; intro v1 w2 hown1 hgrow hat))
      have HO2 : Hid (PtsOwn w2 w.heap.size v1 (foldL (xs.take (k + 1)))) := Lib.hid (by rw [HNX.out]; exact hown1)
      have HB2 : Hid (Below w.heap.size w w2) := Lib.hid ((hbr.alloc (by omega) _).drew.grown hgrow (by simp; omega) (fun k hk => (HO.out.base k hk).1))
      clear hown1 hgrow hat k1 k2 l1 r1 r2
      go_wp2_with fail
      go_roundw
      case rel => exact ⟨k + 1, by omega, by omega, by go_num, HO2.out, HB2.out⟩
      case measure => simp [intOf]; omega
    · have HF : Hid (foldL (xs.take k) = foldL (xs.take 20)) := Lib.hid (by
        rcases Nat.lt_or_ge k 20 with g | g
        · rw [List.take_of_length_le (by rw [HN.out]; omega), List.take_of_length_le (by rw [HN.out]; omega)]
        · rw [show k = 20 by omega])
      by_cases g : k < n
      · have g20 : k = 20 := by omega
        go_wp2_with fail
        go_ret
        exact ⟨_, rfl, by rw [← HF.out]; exact HO.out, HB.out⟩
      · go_wp2_with fail
        go_ret
        exact ⟨_, rfl, by rw [← HF.out]; exact HO.out, HB.out⟩

end Go.Proofs.Ytlmdmgbhfoehgaa

/- The run of layer 4's lives: at every start it hands back true, and of what was there nothing turns. -/
namespace Go.Proofs.Ytlmdmgbhfoehgaa
open Go.RowKit (Below)

theorem eng_names : Eng.namesB Try.prog = true := by kernel_rfl
theorem eng_none (f : FuncId) (e : Array Value → Sem Value) (h : (Try.prog.funcs[f]?).isNone = true) : Eng.Entry Try.prog f e := ⟨fun fn h' => by rw [h'] at h; cases h⟩
noncomputable def eng_prims : Eng.Base := Eng.bareOf 1000000 1000001 1000002
theorem eng_ok {ro : Eng.Lo} : Eng.ProgOk Try.prog ro eng_prims :=
  Eng.progOk Try.checked.mixed eng_names (eng_none _ _ (by kernel_rfl)) (eng_none _ _ (by kernel_rfl)) (eng_none _ _ (by kernel_rfl))

theorem lives4_run : Eng.isTrue (Eng.call Try.prog (Eng.lo 0) eng_prims 100000 12 [] (Eng.heapOf [] .nil) 0) = true := by kernel_rfl

theorem lives4_any (w : World) :
    Calls Try.prog 12 #[] w fun e w' => e = .returned (.bool true) ∧ Below w.heap.size w w' :=
  Eng.runs_true (tabs := []) eng_ok lives4_run (by simp) Try.func12 (by kernel_rfl) (Nat.zero_le _) (Nat.le_refl _) (by intro p hp; cases hp) (by simp [Eng.relL])

end Go.Proofs.Ytlmdmgbhfoehgaa
#print axioms Go.Proofs.Ytlmdmgbhfoehgaa.lives4_any

/- ShapeHulled: the law's walk. -/
namespace Go.Proofs.Ytlmdmgbhfoehgaa
open Go.RowKit Go.Sort

theorem PtsIn.drop {w : World} {b off : Nat} {l : List Pt} (h : PtsIn w b off l) (k : Nat) : PtsIn w b (off + k * 2) (l.drop k) := fun i p hp => by
  have := h (k + i) p (by rw [List.getElem?_drop] at hp; exact hp)
  rw [show off + k * 2 + i * 2 = off + (k + i) * 2 by omega]
  exact this
theorem hull_again {P K Q : List Pt} {k0 : Pt} (h : Hull P K k0) (hlow : ∀ p ∈ P, leP k0 p) (h3 : 3 ≤ K.length) (hQ : ∀ p, p ∈ Q ↔ p ∈ P) (hok : P.all okP = true) (hlen : Q.length ≤ 32) {w w' : World} {e : Ending} (hc : HullXTo Q w e w') :
    ∃ v, e = .returned (.tuple #[v, .int .i64 0]) ∧ PtsOwn w' w.heap.size v K ∧ Below w.heap.size w w' := by
  obtain ⟨hb, hc⟩ := hc
  have hk0 : k0 ∈ P := by
    have := (h.edge 0 (by omega)).fst
    rwa [h.first] at this
  have h1 : 1 ≤ Q.length := List.length_pos_of_mem ((hQ k0).2 hk0)
  have hp : ptsB Q 1 = true := ptsB_1.2 ⟨h1, hlen, List.all_eq_true.2 fun p hp => List.all_eq_true.1 hok p ((hQ p).1 hp)⟩
  rcases hc with ⟨q, _⟩ | ⟨_, t, ht, hs, q⟩
  · rw [hp] at q; cases q
  · have e := hull_other h hlow h3 hQ ht hs
    rw [e] at q
    rcases q with ⟨q, _⟩ | ⟨_, v, ev, ho⟩
    · omega
    · exact ⟨v, ev, ho, hb⟩
theorem rot_mem (l : List Pt) (r : Nat) (p : Pt) : p ∈ [] ++ l.drop r ++ l.take r ↔ p ∈ l := by
  rw [List.nil_append, List.mem_append]
  constructor
  · rintro (h | h)
    · exact List.mem_of_mem_drop h
    · exact List.mem_of_mem_take h
  · intro h
    rw [← List.take_append_drop r l, List.mem_append] at h
    exact h.symm
def memB (l : List Pt) (t : Nat) (p : Pt) : Bool := (l.take t).any fun z => eqP z p
theorem memB_succ {l : List Pt} {t : Nat} (h : t < l.length) (p : Pt) : memB l (t + 1) p = (memB l t p || eqP l[t] p) := by
  unfold memB
  rw [List.take_succ_eq_append_getElem h, List.any_append]
  simp
theorem memB_all {l : List Pt} {p : Pt} (h : p ∈ l) {t : Nat} (ht : l.length ≤ t) : memB l t p = true := by
  unfold memB
  rw [List.take_of_length_le ht, List.any_eq_true]
  exact ⟨p, h, by simp [eqP, eqI]⟩
def triL : List Pt := [(0, 0), (1, 0), (0, 1)]
theorem tri_at (w : World) : PtsAt (w.alloc (.cells #[.int .i64 0, .int .i64 0, .int .i64 1, .int .i64 0, .int .i64 0, .int .i64 1] 38)) (some ⟨w.heap.size, 0, none⟩) triL := fun _ =>
  ⟨w.heap.size, 0, rfl, by simp, PtBlk.pts (l := triL) (show PtBlk _ _ triL from heap_alloc_new _ _)⟩
theorem fold_ok (xs : List Pt) : (foldL xs).all okP = true := List.all_eq_true.2 fun p hp => by
  unfold foldL at hp
  obtain ⟨q, _, rfl⟩ := List.mem_map.1 hp
  have a := tmod_bd q.1
  have b := tmod_bd q.2
  unfold okP validB tmP
  simp only [inB]
  simp
  omega

end Go.Proofs.Ytlmdmgbhfoehgaa

/- Shape: the law's points up to a limit, nine at most; the law's hull of them and three more. -/
namespace Go.Proofs.Ytlmdmgbhfoehgaa
open Go.RowKit Go.Sort
attribute [local go_sem ↓] run_min_mn run_max_mx

def tmL (L : Int) (p : Pt) : Pt := (p.1.tmod (L + 1), p.2.tmod (L + 1))
def foldLim (L : Int) (xs : List Pt) : List Pt := xs.map (tmL L)
theorem foldLim_length (L : Int) (xs : List Pt) : (foldLim L xs).length = xs.length := by simp [foldLim]
theorem tmodL_bd {L : Int} (h : 0 ≤ L) (x : Int) : -L ≤ x.tmod (L + 1) ∧ x.tmod (L + 1) ≤ L := by
  have a := Int.tmod_lt_of_pos x (b := L + 1) (by omega)
  have b := Int.lt_tmod_of_pos x (b := L + 1) (by omega)
  omega

set_option maxRecDepth 100000 in
set_option maxHeartbeats 2000000 in
theorem pointsL_any (L : Int) (hL : 1000 ≤ L ∧ L ≤ 10000) (A : Option Addr) (n c : Nat) (xs : List Pt) (w : World) (hn : xs.length = n) (hbig : n ≤ 9223372036854775807) (hx : PtsAt w A xs) (hw : ∀ x ∈ xs, (-9223372036854775808 ≤ x.1 ∧ x.1 ≤ 9223372036854775807) ∧ (-9223372036854775808 ≤ x.2 ∧ x.2 ≤ 9223372036854775807)) :
    Calls Try.prog 42 #[.slice A n c, .int .i64 L, .int .i64 9] w (PointsTo w (foldLim L (xs.take 9))) := by
  have HN := Lib.hid hn
  have HX := Lib.hid hx
  have HW := Lib.hid hw
  clear hn hx hw
  obtain ⟨hL1, hL2⟩ := hL
  have hlim : IntKind.i64.wrap (L + 1) = L + 1 := by rw [IntKind.wrap_i64]; omega
  have hne : ¬ L + 1 = 0 := by omega
  go_enter Try.func42, Try.ntmps42
  go_wp2
  go_loopw [7, 8] (fun o i wr => ∃ k : Nat, k ≤ n ∧ k ≤ 9 ∧ i = .int .i64 k ∧ PtsOwn wr w.heap.size o (foldLim L (xs.take k)) ∧ Below w.heap.size w wr) (fun _ i _ => 9 - (intOf i).toNat)
  case atStart => exact ⟨0, Nat.zero_le _, by omega, rfl, by simpa [foldLim] using PtsOwn.empty w, (Below.refl _ _).alloc (Nat.le_refl _) _⟩
  case round =>
    obtain ⟨k, hk, hk9, rfl, hown, hbr⟩ := hrel
    have HO := Lib.hid hown
    have HB := Lib.hid hbr
    have hsz := hbr.size
    clear hown
    by_cases hlt : k < n ∧ k < 9
    · obtain ⟨hlt, hlt2⟩ := hlt
      have hkl : k < xs.length := by rw [HN.out]; exact hlt
      obtain ⟨b, off, rfl, hb, hin⟩ := HX.out (by intro e; subst e; simp at hkl)
      obtain ⟨h1, h2⟩ := (hin.below hbr hb) k _ (List.getElem?_eq_getElem hkl)
      obtain ⟨⟨d3, d4⟩, d5, d6⟩ := HW.out _ (List.getElem_mem hkl)
      have HNX : Hid (foldLim L (xs.take (k + 1)) = foldLim L (xs.take k) ++ [tmL L xs[k]]) := Lib.hid (by
        rw [List.take_succ_eq_append_getElem hkl]; unfold foldLim; rw [List.map_append]; rfl)
      have HLN : Hid ((foldLim L (xs.take k)).length ≤ 100) := Lib.hid (by rw [foldLim_length, List.length_take]; omega)
      generalize xs[k] = p at *
      generalize foldLim L (xs.take k) = cur at *
      obtain ⟨x, y⟩ := p
      replace d3 : -9223372036854775808 ≤ x := d3
      replace d4 : x ≤ 9223372036854775807 := d4
      replace d5 : -9223372036854775808 ≤ y := d5
      replace d6 : y ≤ 9223372036854775807 := d6
      have ne1 : u7.ownBlock ≠ some b := fun e => by have := (HO.out.base b e).1; omega
      have hB : b < wr.heap.size := by omega
      clear hin
      have l1 : b < (wr.alloc (.cells #[.int .i64 (x.tmod (L + 1)), .int .i64 (y.tmod (L + 1))] 38)).drew.heap.size := by simp; omega
      have k1 : (wr.alloc (.cells #[.int .i64 (x.tmod (L + 1)), .int .i64 (y.tmod (L + 1))] 38)).drew.cell? ⟨b, off + k * 2, none⟩ = some (.int .i64 x) := (World.cell?_alloc_lt wr _ ⟨b, _, none⟩ hB).trans h1
      have k2 : (wr.alloc (.cells #[.int .i64 (x.tmod (L + 1)), .int .i64 (y.tmod (L + 1))] 38)).drew.cell? ⟨b, off + k * 2 + 1, none⟩ = some (.int .i64 y) := (World.cell?_alloc_lt wr _ ⟨b, _, none⟩ hB).trans h2
      have r1 : IntKind.i64.wrap (x.tmod (L + 1)) = x.tmod (L + 1) := by have := tmodL_bd (L := L) (by omega) x; rw [IntKind.wrap_i64]; omega
      have r2 : IntKind.i64.wrap (y.tmod (L + 1)) = y.tmod (L + 1) := by have := tmodL_bd (L := L) (by omega) y; rw [IntKind.wrap_i64]; omega
      go_wp2_with fail
      go_region_held3 (fun w' => w'.cell? ⟨b, off + k * 2, none⟩ = some (.int .i64 x) ∧ w'.cell? ⟨b, off + k * 2 + 1, none⟩ = some (.int .i64 y))
        (first
          | go_keep
          | exact ⟨(hgrow.cell_far _ l1 (Ne.symm ne1)).trans k1, (hgrow.cell_far _ l1 (Ne.symm ne1)).trans k2⟩)
        ((refine step_papp (by rfl) _ _ (by rfl) w.heap.size _ cur [(x.tmod (L + 1), y.tmod (L + 1))] (some ⟨wr.heap.size, 0, none⟩) 1 1 (by rfl) (by rfl) ((HO.out.alloc _).drew) rfl (PtsAt.one wr _ _) (by have := HLN.out; simp; omega) (by simp; omega) ?_; intro v1 w2 hown1 hgrow hat))
      have HO2 : Hid (PtsOwn w2 w.heap.size v1 (foldLim L (xs.take (k + 1)))) := Lib.hid (by rw [HNX.out]; exact hown1)
      have HB2 : Hid (Below w.heap.size w w2) := Lib.hid ((hbr.alloc (by omega) _).drew.grown hgrow (by simp; omega) (fun k hk => (HO.out.base k hk).1))
      clear hown1 hgrow hat k1 k2 l1 r1 r2
      go_wp2_with fail
      go_roundw
      case rel => exact ⟨k + 1, by omega, by omega, by go_num, HO2.out, HB2.out⟩
      case measure => simp [intOf]; omega
    · have HF : Hid (foldLim L (xs.take k) = foldLim L (xs.take 9)) := Lib.hid (by
        rcases Nat.lt_or_ge k 9 with g | g
        · rw [List.take_of_length_le (by rw [HN.out]; omega), List.take_of_length_le (by rw [HN.out]; omega)]
        · rw [show k = 9 by omega])
      by_cases g : k < n
      · have g9 : k = 9 := by omega
        go_wp2_with fail
        go_ret
        exact ⟨_, rfl, by rw [← HF.out]; exact HO.out, HB.out⟩
      · go_wp2_with fail
        go_ret
        exact ⟨_, rfl, by rw [← HF.out]; exact HO.out, HB.out⟩

/-- A polygon that is convex in normal form, of at most twelve corners, with coordinates up to a limit. -/
structure Poly (L : Int) (m : Nat) (H : List Pt) (h0 : Pt) : Prop where
  conv : Conv H h0
  bd : ∀ p ∈ H, (-L ≤ p.1 ∧ p.1 ≤ L) ∧ (-L ≤ p.2 ∧ p.2 ≤ L)
  len : H.length ≤ m

def LawHullTo (L : Int) (w : World) (e : Ending) (w' : World) : Prop :=
  ∃ v H h0, e = .returned v ∧ PtsOwn w' w.heap.size v H ∧ Poly L 12 H h0 ∧ Below w.heap.size w w'

set_option maxRecDepth 100000 in
set_option maxHeartbeats 4000000 in
theorem lawHull_any (L : Int) (hL : 1000 ≤ L ∧ L ≤ 10000) (A : Option Addr) (n c : Nat) (xs : List Pt) (w : World) (hn : xs.length = n) (hbig : n ≤ 9223372036854775807) (hx : PtsAt w A xs) (hw : ∀ x ∈ xs, (-9223372036854775808 ≤ x.1 ∧ x.1 ≤ 9223372036854775807) ∧ (-9223372036854775808 ≤ x.2 ∧ x.2 ≤ 9223372036854775807)) :
    Calls Try.prog 21 #[.slice A n c, .int .i64 L] w (LawHullTo L w) := by
  have K := Lib.hid (pointsL_any L hL A n c xs w hn hbig hx hw)
  have hl0 : (foldLim L (xs.take 9)).length ≤ 9 := by rw [foldLim_length, List.length_take]; omega
  have HBL : Hid (∀ p ∈ foldLim L (xs.take 9), (-L ≤ p.1 ∧ p.1 ≤ L) ∧ (-L ≤ p.2 ∧ p.2 ≤ L)) := Lib.hid fun p hp => by
    unfold foldLim at hp
    obtain ⟨q, _, rfl⟩ := List.mem_map.1 hp
    exact ⟨tmodL_bd (by omega) q.1, tmodL_bd (by omega) q.2⟩
  clear hn hbig hx hw
  generalize foldLim L (xs.take 9) = l0 at *
  go_enter Try.func21, Try.ntmps21
  go_wp2_with fail
  refine (K.out).mono ?_
  rintro e w1 ⟨v, rfl, hown, hb1⟩
  have HO := Lib.hid hown
  have HB1 := Lib.hid hb1
  have hs1 := hb1.size
  clear hown hb1 K
  go_wp2_with (at_builtin; refine wpList_papp rfl _ _ rfl w.heap.size v l0 triL (some ⟨w1.heap.size, 0, none⟩) 3 3 rfl rfl (HO.out.alloc _) rfl (tri_at w1) (by simp [triL]; omega) (by simp; omega) ?_; intro v2 w2 ho hg hat; have HG := Lib.hid hg; have HO2 := Lib.hid ho; clear ho hg hat)
  have hm3 : (l0 ++ triL).length = l0.length + 3 := by simp [triL]
  have t0 : (0, 0) ∈ l0 ++ triL := by simp [triL]
  have t1 : (1, 0) ∈ l0 ++ triL := by simp [triL]
  have t2 : (0, 1) ∈ l0 ++ triL := by simp [triL]
  have HBD : Hid (∀ p ∈ l0 ++ triL, (-L ≤ p.1 ∧ p.1 ≤ L) ∧ (-L ≤ p.2 ∧ p.2 ≤ L)) := Lib.hid fun p hp => by
    rcases List.mem_append.1 hp with h | h
    · exact HBL.out p h
    · simp only [triL, List.mem_cons, List.not_mem_nil, or_false] at h
      rcases h with rfl | rfl | rfl <;> simp only <;> omega
  have HB2 : Hid (Below w.heap.size w w2) := Lib.hid ((HB1.out.alloc hs1 _).grown HG.out (by simp; omega) (fun k hk => (HO.out.base k hk).1))
  clear HO HG HB1 HBL hs1
  generalize l0 ++ triL = l at *
  have hml : l.length ≤ 12 := by omega
  have hml3 : 3 ≤ l.length := by omega
  clear hm3 hl0
  obtain ⟨s, hperm, hsort⟩ := sort_of l
  obtain ⟨h3, s0, hH, hlow⟩ := hull_facts hperm hsort t0 t1 t2
  have hlowto : lowTo l l.length = s0 := by
    have hs0 : s0 ∈ l := by
      have := (hH.edge 0 (by omega)).fst
      rwa [hH.first] at this
    exact leP_anti (low_le hs0) (hlow _ (lowTo_mem (by omega) _ (Nat.le_refl _)))
  have hflat : flatTo l l.length = false := by
    obtain ⟨a, _⟩ := hull_both (by omega) hperm hsort
    cases hf : flatTo l l.length
    · rfl
    · have := a.1 hf; omega
  have HP : Hid (Poly L 12 (hullL s) s0) := Lib.hid ⟨conv_of hH hlow h3, fun p hp => HBD.out p (hull_sub hH hp), Nat.le_trans (hull_length hH) hml⟩
  have hHl := hull_length hH
  have HBd : Hid (∀ x ∈ l, Bd x) := Lib.hid fun x hx => by
    have := HBD.out x hx
    unfold Bd; omega
  generalize hullL s = H at *
  generalize hm : l.length = m at *
  obtain ⟨g, cc, rfl, hcc, hg, hgl, hin⟩ := HO2.out.row hm (by omega)
  have KR := Lib.hid (refHull_any g 0 m cc l H w2 hm (by omega) (by omega) hin hgl HBd.out (fun _ => by rw [hlowto]; exact hH) (by omega))
  have HF := Lib.hid hflat
  have HM := Lib.hid hm
  clear hin HO2 t0 t1 t2 hperm hsort hH hlow hlowto hflat hm h3 HBd HBD
  go_wp2_with fail
  refine (KR.out).mono ?_
  rintro e w3 ⟨hb3, hc⟩
  obtain ⟨v3, rfl, ho3⟩ : ∃ v, e = .returned (.tuple #[v, .bool true]) ∧ PtsOwn w3 w2.heap.size v H := by
    rcases hc with ⟨q, _⟩ | ⟨_, q⟩
    · rw [HM.out, HF.out] at q; cases q
    · exact q
  have HO3 := Lib.hid (ho3.low HB2.out.size)
  have HB3 := Lib.hid (HB2.out.trans (hb3.mono HB2.out.size))
  clear hc hb3 ho3 KR HF HM
  go_wp2_with fail
  go_ret
  exact ⟨v3, H, s0, rfl, HO3.out, HP.out, HB3.out⟩
end Go.Proofs.Ytlmdmgbhfoehgaa

/- Package shape's sum of two convex polygons. -/
namespace Go.Proofs.Ytlmdmgbhfoehgaa
open Go.RowKit Go.Sort
attribute [local go_sem ↓] run_min_mn run_max_mx Go.wp_at_zero Go.wp_at_succ

theorem merged_succ (a b : List Pt) (k : Nat) : merged a b (k + 1) = merged a b k ++ [mpt a b k] := by
  unfold merged; rw [List.range_succ, List.map_append]; rfl
theorem merged_length (a b : List Pt) (k : Nat) : (merged a b k).length = k := by simp [merged]
theorem vtx_gt (l : List Pt) (i : Nat) : gt l (i % l.length) = vtx l i := rfl
theorem PtAt.grown {w w' : World} {b : Nat} {x y : Int} {k : Option Nat} (p : PtAt w b x y) (h : w.grownBy w' k) (hb : b < w.heap.size) (hk : some b ≠ k) : PtAt w' b x y :=
  ⟨(h.cell_far ⟨b, 0, none⟩ hb hk).trans p.1, (h.cell_far ⟨b, 1, none⟩ hb hk).trans p.2⟩
theorem vtx_ok {l : List Pt} (h : l.all okP = true) (i : Nat) : okP (vtx l i) = true := getD_ok h _

def SumTo (K : List Pt) (w : World) (e : Ending) (w' : World) : Prop := ∃ v, e = .returned v ∧ PtsOwn w' w.heap.size v K ∧ Below w.heap.size w w'

set_option maxRecDepth 100000 in
set_option maxHeartbeats 4000000 in
theorem sumD_any (b off n c b' off' m d : Nat) (p q K : List Pt) (p0 q0 : Pt) (w : World) (hl : p.length = n) (hm : q.length = m) (hn' : n ≤ 100) (hm' : m ≤ 100)
    (h : PtsIn w b off p) (hb : b < w.heap.size) (h' : PtsIn w b' off' q) (hb' : b' < w.heap.size) (hok : p.all okP = true) (hok' : q.all okP = true)
    (cp : Conv p p0) (cq : Conv q q0) (hK : Hull (sums p q) K (sumP p0 q0)) (cK : Conv K (sumP p0 q0)) :
    Calls Try.prog 28 #[.slice (some ⟨b, off, none⟩) n c, .slice (some ⟨b', off', none⟩) m d] w (SumTo K w) := by
  obtain ⟨E1, E2, E3⟩ := merge_end cp cq hK cK
  have hKl := sum_len cp cq hK cK
  rw [hl, hm] at hKl E1
  have HE1 := Lib.hid E1
  have HE2 : Hid (∀ k, k ≤ K.length → (mst p q k).1 ≤ n ∧ (mst p q k).2 ≤ m) := Lib.hid (by rw [← hl, ← hm]; exact E2)
  have HE3 : Hid (∀ k, k < K.length → (mst p q k).1 < n ∨ (mst p q k).2 < m) := Lib.hid (by rw [← hl, ← hm]; exact E3)
  have HKM : Hid (merged p q K.length = K) := Lib.hid (merged_hull cp cq hK)
  have HL := Lib.hid hl
  have HM := Lib.hid hm
  have HP := Lib.hid h
  have HQ := Lib.hid h'
  have HOK := Lib.hid hok
  have HOK' := Lib.hid hok'
  have h3 := cp.three
  have h4 := cq.three
  rw [hl] at h3
  rw [hm] at h4
  clear hl hm h h' hok hok' E1 E2 E3 cp cq hK cK
  generalize hN : K.length = N at *
  go_enter Try.func28, Try.ntmps28
  go_wp2
  go_loopw [5, 6, 7] (fun o i j wr => ∃ k : Nat, k ≤ N ∧ i = .int .i64 ((mst p q k).1 : Nat) ∧ j = .int .i64 ((mst p q k).2 : Nat) ∧ PtsOwn wr w.heap.size o (merged p q k) ∧ Below w.heap.size w wr) (fun _ i j _ => (n + m) - ((intOf i).toNat + (intOf j).toNat))
  case atStart => exact ⟨0, Nat.zero_le _, rfl, rfl, PtsOwn.nil _ _, Below.refl _ _⟩
  case round =>
    obtain ⟨k, hk, rfl, rfl, hown, hbw⟩ := hrel
    obtain ⟨hi, hj⟩ := HE2.out k hk
    have HO := Lib.hid hown
    clear hown
    by_cases hlt : k < N
    · have hor := HE3.out k hlt
      have HN : Hid (merged p q (k + 1) = merged p q k ++ [sumP (vtx p (mst p q k).1) (vtx q (mst p q k).2)]) := Lib.hid (merged_succ p q k)
      have hml : (merged p q k).length ≤ 200 := by rw [merged_length]; omega
      have HS : Hid (mst p q (k + 1) = if 0 < xr (ev p (mst p q k).1) (ev q (mst p q k).2) then ((mst p q k).1 + 1, (mst p q k).2) else if xr (ev p (mst p q k).1) (ev q (mst p q k).2) < 0 then ((mst p q k).1, (mst p q k).2 + 1) else ((mst p q k).1 + 1, (mst p q k).2 + 1)) := Lib.hid rfl
      have HB2 := Lib.hid (HE2.out (k + 1) hlt)
      generalize merged p q k = cur at *
      generalize (mst p q k).1 = i at *
      generalize (mst p q k).2 = j at *
      have HPw : Hid (PtsIn wr b off p) := Lib.hid (HP.out.below hbw hb)
      have HQw : Hid (PtsIn wr b' off' q) := Lib.hid (HQ.out.below hbw hb')
      have hB : b < wr.heap.size := Nat.lt_of_lt_of_le hb hbw.size
      have hB' : b' < wr.heap.size := Nat.lt_of_lt_of_le hb' hbw.size
      have N1 := fun W hW => Lib.hid (edge_any b off n c p i W HL.out (by omega) (by omega) (by omega) (HPw.out.below (B := wr.heap.size) hW hB))
      have N2 := fun W hW => Lib.hid (edge_any b' off' m d q j W HM.out (by omega) (by omega) (by omega) (HQw.out.below (B := wr.heap.size) hW hB'))
      have v1 : gt p (i % n) = vtx p i := by rw [← HL.out]; rfl
      have v2 : nx p i = vtx p (i + 1) := rfl
      have v3 : gt q (j % m) = vtx q j := by rw [← HM.out]; rfl
      have v4 : nx q j = vtx q (j + 1) := rfl
      rw [v1, v2] at N1
      rw [v3, v4] at N2
      have ok1 := okP_bd (vtx_ok HOK.out i)
      have ok2 := okP_bd (vtx_ok HOK.out (i + 1))
      have ok3 := okP_bd (vtx_ok HOK'.out j)
      have ok4 := okP_bd (vtx_ok HOK'.out (j + 1))
      have HX : Hid (xr (ev p i) (ev q j) = ((vtx p (i + 1)).1 - (vtx p i).1) * ((vtx q (j + 1)).2 - (vtx q j).2) - ((vtx q (j + 1)).1 - (vtx q j).1) * ((vtx p (i + 1)).2 - (vtx p i).2)) := Lib.hid rfl
      clear v1 v2 v3 v4
      generalize xr (ev p i) (ev q j) = X at *
      generalize vtx p i = a at *
      generalize vtx p (i + 1) = a' at *
      generalize vtx q j = z at *
      generalize vtx q (j + 1) = z' at *
      obtain ⟨a1, a2⟩ := a
      obtain ⟨b1, b2⟩ := a'
      obtain ⟨c1, c2⟩ := z
      obtain ⟨d1, d2⟩ := z'
      simp only at ok1 ok2 ok3 ok4
      have PL := fun W => Lib.hid (plus_any a1 a2 c1 c2 W (by omega) (by omega) (by omega) (by omega))
      have M1 := fun W => Lib.hid (minus_any b1 b2 a1 a2 W (by omega) (by omega) (by omega) (by omega))
      have M2 := fun W => Lib.hid (minus_any d1 d2 c1 c2 W (by omega) (by omega) (by omega) (by omega))
      have CR := fun W => Lib.hid (crossD_any (b1 - a1) (b2 - a2) (d1 - c1) (d2 - c2) W (by omega) (by omega) (by omega) (by omega))
      have HX' : Hid (X = (b1 - a1) * (d2 - c2) - (d1 - c1) * (b2 - a2)) := HX
      rw [← HX'.out] at CR
      have HNE : Hid (∀ x, wr.heap.size ≤ x → ∀ y, u5.ownBlock = some y → y ≠ x) := Lib.hid fun x hx y hy e => by have := (HO.out.base _ hy).2; omega
      clear HX HX' ok1 ok2 ok3 ok4
      by_cases hin : i < n
      all_goals
        try have hjm : j < m := by omega
        go_wp2_with fail
        refine ((N1 _ (Below.refl _ _)).out).mono ?_
        rintro e w1 ⟨rfl, hb1⟩
        go_wp2_with fail
        have B := boxed2 w1 a1 a2 b1 b2
        generalize (w1.alloc (bx a1 a2)).alloc (bx b1 b2) = w2 at *
        obtain ⟨P1, P2, hb2, hz2⟩ := B
        have hbr2 := hb1.trans (hb2.mono hb1.size)
        have hgw : wr.heap.size ≤ w1.heap.size := hb1.size
        generalize w1.heap.size = g at *
        have hg2 : g + 1 < w2.heap.size := by omega
        clear hb2 hz2 N1
        refine ((N2 _ hbr2).out).mono ?_
        rintro e w3 ⟨rfl, hb3⟩
        replace P1 := PtAt.below hb3 (by omega) P1
        replace P2 := PtAt.below hb3 (by omega) P2
        have hbr3 := hbr2.trans (hb3.mono hbr2.size)
        have hg3 : g + 1 < w3.heap.size := by have := hb3.size; omega
        clear hb3 hbr2 hg2 N2
        have B := boxed2 w3 c1 c2 d1 d2
        go_upto_region 6 with (fail)
        generalize (w3.alloc (bx c1 c2)).alloc (bx d1 d2) = w4 at *
        obtain ⟨P3, P4, hb4, hz4⟩ := B
        replace P1 := PtAt.below hb4 (by omega) P1
        replace P2 := PtAt.below hb4 (by omega) P2
        have hbr4 := hbr3.trans (hb4.mono hbr3.size)
        have hgw3 : wr.heap.size ≤ w3.heap.size := hbr3.size
        clear hb4 hbr3
        generalize w3.heap.size = g3 at *
        have hg4 : g3 + 1 < w4.heap.size := by omega
        obtain ⟨p1, p2⟩ := P1
        obtain ⟨p3, p4⟩ := P3
        go_wp2_with fail
        refine ((PL _).out).mono ?_
        rintro e w5 ⟨rfl, hb5⟩
        have P1 := PtAt.below hb5 (by omega) ⟨p1, p2⟩
        have P3 := PtAt.below hb5 (by omega) ⟨p3, p4⟩
        replace P2 := PtAt.below hb5 (by omega) P2
        replace P4 := PtAt.below hb5 (by omega) P4
        have hbr5 := hbr4.trans (hb5.mono hbr4.size)
        have hg5 : g + 1 < w5.heap.size ∧ g3 + 1 < w5.heap.size := by have := hb5.size; omega
        clear p1 p2 p3 p4 hb5 hbr4 PL
        have O5 := Lib.hid (HO.out.belows hbr5 (Nat.le_refl _))
        have hA1 : cur.length + [(a1 + c1, a2 + c2)].length ≤ 100000 := by simp; omega
        have hA2 : w.heap.size ≤ (w5.alloc (bx (a1 + c1) (a2 + c2))).heap.size := by rw [World.size_alloc]; have := hbr5.size; have := hbw.size; omega
        have A1 := P1.alloc (bx (a1 + c1) (a2 + c2)) (by omega)
        have A2 := P2.alloc (bx (a1 + c1) (a2 + c2)) (by omega)
        have A3 := P3.alloc (bx (a1 + c1) (a2 + c2)) (by omega)
        have A4 := P4.alloc (bx (a1 + c1) (a2 + c2)) (by omega)
        have hz5 : (w5.alloc (bx (a1 + c1) (a2 + c2))).heap.size = w5.heap.size + 1 := by rw [World.size_alloc]
        have HBW5 := Lib.hid ((hbw.trans (hbr5.mono hbw.size)).alloc (by have := hbr5.size; have := hbw.size; omega) (bx (a1 + c1) (a2 + c2)))
        go_wp2_with (at_builtin; refine wpList_papp rfl (.tmp 35) (.tmp 39) rfl w.heap.size _ cur [(a1 + c1, a2 + c2)] (some ⟨w5.heap.size, 0, none⟩) 1 1 rfl rfl (O5.out.alloc _) rfl (PtsAt.one w5 (a1 + c1) (a2 + c2)) hA1 hA2 ?_; intro v1 w6 ho hg hat; have HO6 := Lib.hid ho; have HG6 := Lib.hid hg; clear ho hg hat)
        generalize w5.alloc (bx (a1 + c1) (a2 + c2)) = w5' at *
        have q1 := A1.grown HG6.out (by omega) (fun e => HNE.out g (by omega) _ e.symm rfl)
        have q2 := A2.grown HG6.out (by omega) (fun e => HNE.out (g + 1) (by omega) _ e.symm rfl)
        have q3 := A3.grown HG6.out (by omega) (fun e => HNE.out g3 (by omega) _ e.symm rfl)
        have q4 := A4.grown HG6.out (by omega) (fun e => HNE.out (g3 + 1) (by omega) _ e.symm rfl)
        have HB6 : Hid (Below w.heap.size w w6) := Lib.hid (HBW5.out.grown HG6.out hA2 (fun k hk => (O5.out.base k hk).1))
        obtain ⟨p1, p2⟩ := q1
        obtain ⟨p3, p4⟩ := q2
        obtain ⟨p5, p6⟩ := q3
        obtain ⟨p7, p8⟩ := q4
        have K1 := fun d os => Lib.hid (Calls.regrown_of ((M1 (grow (redrawn w6 d) os)).out))
        have K2 := fun d os => Lib.hid (Calls.regrown_of ((M2 (grow (redrawn w6 d) os)).out))
        have K3 := fun d os => Lib.hid (Calls.regrown_of ((CR (grow (redrawn w6 d) os)).out))
        have t1 := cell_regrown p1
        have t2 := cell_regrown p2
        have t3 := cell_regrown p3
        have t4 := cell_regrown p4
        have t5 := cell_regrown p5
        have t6 := cell_regrown p6
        have t7 := cell_regrown p7
        have t8 := cell_regrown p8
        clear p1 p2 p3 p4 p5 p6 p7 p8 A1 A2 A3 A4 P1 P2 P3 P4 M1 M2 CR HG6 O5 HBW5 hbr5 hA1 hA2
        go_wp2_with fail
        refine wp_region_quiet_below (by kernel_rfl) (by kernel_rfl) ?_
        repeat (go_big_quiet_step (first | (with_reducible exact (K1 _ _).out) | (with_reducible exact (K2 _ _).out) | (with_reducible exact (K3 _ _).out)))
        refine wpQuiet_nil ?_
        intro _ hw'
        obtain ⟨⟨dq, osq⟩, hw''⟩ := hw'
        subst hw''
        have hbq := below_regrown w6 dq osq
        have HB7 := Lib.hid (HB6.out.trans (hbq.mono HB6.out.size))
        have HO7 : Hid (PtsOwn (grow (redrawn w6 dq) osq) w.heap.size v1 (merged p q (k + 1))) := Lib.hid (by rw [HN.out]; exact HO6.out.belows hbq (Nat.le_refl _))
        clear hbq t1 t2 t3 t4 t5 t6 t7 t8 K1 K2 K3
        generalize grow (redrawn w6 dq) osq = w7 at *
        rcases Int.lt_trichotomy X 0 with hX | hX | hX
        · have e : mst p q (k + 1) = (i, j + 1) := by rw [HS.out, if_neg (by omega), if_pos hX]
          have hbd := HB2.out
          rw [e] at hbd
          first
            | (exfalso; omega)
            | (go_wp2_with fail
               go_roundw
               case rel => exact ⟨k + 1, by omega, by rw [e], by rw [e]; go_num, HO7.out, HB7.out⟩
               case measure => simp [intOf]; omega)
        · have e : mst p q (k + 1) = (i + 1, j + 1) := by rw [HS.out, if_neg (by omega), if_neg (by omega)]
          have hbd := HB2.out
          rw [e] at hbd
          first
            | (exfalso; omega)
            | (go_wp2_with fail
               go_roundw
               case rel => exact ⟨k + 1, by omega, by rw [e]; go_num, by rw [e]; go_num, HO7.out, HB7.out⟩
               case measure => simp [intOf]; omega)
        · have e : mst p q (k + 1) = (i + 1, j) := by rw [HS.out, if_pos hX]
          have hbd := HB2.out
          rw [e] at hbd
          first
            | (exfalso; omega)
            | (go_wp2_with fail
               go_roundw
               case rel => exact ⟨k + 1, by omega, by rw [e]; go_num, by rw [e], HO7.out, HB7.out⟩
               case measure => simp [intOf]; omega)
    · obtain rfl : k = N := by omega
      have e1 : (mst p q k).1 = n := by rw [HE1.out]
      have e2 : (mst p q k).2 = m := by rw [HE1.out]
      rw [e1, e2]
      rw [HKM.out] at HO
      go_wp2_with fail
      go_ret
      exact ⟨_, rfl, HO.out, hbw⟩
end Go.Proofs.Ytlmdmgbhfoehgaa

/- Package shape's Sum, negative and Negative. -/
namespace Go.Proofs.Ytlmdmgbhfoehgaa
open Go.RowKit Go.Sort
attribute [local go_sem ↓] run_min_mn run_max_mx Go.wp_at_zero Go.wp_at_succ

theorem conv_conE {a : List Pt} {a0 : Pt} (ca : Conv a a0) (hok : a.all okP = true) (hlen : a.length ≤ 32) : conE a = 0 := by
  have h1 : polyB a = true := by
    unfold polyB
    rw [Bool.and_eq_true]
    have := ca.three
    exact ⟨hok, by rw [inB_true]; omega⟩
  have h2 : convexB a = true := hull_convex ca.hull ca.three ca.low
  unfold conE
  rw [h1, h2]; rfl

def SumXTo (K : List Pt) (w : World) (e : Ending) (w' : World) : Prop := ∃ v, e = .returned (.tuple #[v, .int .i64 0]) ∧ PtsOwn w' w.heap.size v K ∧ Below w.heap.size w w'

set_option maxRecDepth 100000 in
set_option maxHeartbeats 2000000 in
theorem sumX_any (A : Option Addr) (n c : Nat) (A' : Option Addr) (m d : Nat) (p q K : List Pt) (p0 q0 : Pt) (w : World) (hl : p.length = n) (hm : q.length = m) (hn' : n ≤ 32) (hm' : m ≤ 32)
    (hx : PtsAt w A p) (hy : PtsAt w A' q) (hok : p.all okP = true) (hok' : q.all okP = true)
    (cp : Conv p p0) (cq : Conv q q0) (hK : Hull (sums p q) K (sumP p0 q0)) (cK : Conv K (sumP p0 q0)) :
    Calls Try.prog 9 #[.slice A n c, .slice A' m d] w (SumXTo K w) := by
  have hb1 : Below w.heap.size w (w.alloc (.cells #[.slice A n c, .slice A' m d] 22)) := (Below.refl _ _).alloc (Nat.le_refl _) _
  have hP : PolysIn (w.alloc (.cells #[.slice A n c, .slice A' m d] 22)) w.heap.size 0 [p, q] := by
    intro i l hi
    match i, hi with
    | 0, hi =>
      obtain rfl : p = l := by simpa using hi
      exact ⟨A, n, c, by simp [World.cell?_alloc_new], hl, by omega, hx.below hb1⟩
    | 1, hi =>
      obtain rfl : q = l := by simpa using hi
      exact ⟨A', m, d, by simp [World.cell?_alloc_new], hm, by omega, hy.below hb1⟩
  have K1 := Lib.hid (checkConvex_any w.heap.size 0 2 2 [p, q] _ rfl (by omega) hP (by simp))
  have h0 : convsE [p, q] = 0 := by rw [convs_two, if_pos (conv_conE cp hok (by omega)), conv_conE cq hok' (by omega)]
  rw [h0] at K1
  obtain ⟨b1, o1, rfl, g1, g2⟩ := hx (by intro e; have := cp.three; rw [e] at this; simp at this)
  obtain ⟨b2, o2, rfl, f1, f2⟩ := hy (by intro e; have := cq.three; rw [e] at this; simp at this)
  have KS := fun W (hW : Below w.heap.size w W) => Lib.hid (sumD_any b1 o1 n c b2 o2 m d p q K p0 q0 W hl hm (by omega) (by omega) (g2.below hW g1) (Nat.lt_of_lt_of_le g1 hW.size) (f2.below hW f1) (Nat.lt_of_lt_of_le f1 hW.size) hok hok' cp cq hK cK)
  have HB1 := Lib.hid hb1
  clear hx hy hP h0 g2 f2 hl hm hok hok' cp cq hK cK hb1
  go_enter Try.func9, Try.ntmps9
  go_wp2_with fail
  refine (K1.out).mono ?_
  rintro e w1 ⟨rfl, hb2⟩
  have hbw1 := HB1.out.trans (hb2.mono HB1.out.size)
  clear hb2
  go_wp2_with fail
  refine ((KS _ hbw1).out).mono ?_
  rintro e w2 ⟨v, rfl, ho, hb3⟩
  have HO := Lib.hid (ho.low hbw1.size)
  have HB := Lib.hid (hbw1.trans (hb3.mono hbw1.size))
  clear ho hb3
  go_wp2_with fail
  go_ret2
  exact ⟨v, rfl, HO.out, HB.out⟩

theorem negP_zero (p : Pt) : negP p = (0 - p.1, 0 - p.2) := by unfold negP; simp
theorem negL_F (l : List Pt) : l.map negP = ptF l.length fun i => negP (gt l i) := by
  apply List.ext_getElem
  · simp [ptF]
  · intro i h1 h2
    have : i < l.length := by simpa using h1
    simp [ptF, gt, List.getD, this]

set_option maxRecDepth 100000 in
set_option maxHeartbeats 4000000 in
theorem negative_any (hS : SortsPts) (hR : ReversesPts) (b off n c : Nat) (l : List Pt) (w : World) (hl : l.length = n) (hn : 0 < n) (hn' : n ≤ 100) (h : PtsIn w b off l) (hb : b < w.heap.size) (hok : l.all okP = true) :
    Calls Try.prog 29 #[.slice (some ⟨b, off, none⟩) n c] w (HullTo (l.map negP) w) := by
  have HL := Lib.hid hl
  have HP := Lib.hid h
  have HOK := Lib.hid hok
  have hmk := make_pts n (by omega)
  have HM : Hid (l.map negP = ptF n fun i => negP (gt l i)) := Lib.hid (by rw [← hl]; exact negL_F l)
  have HBD : Hid (∀ x ∈ l.map negP, Bd x) := Lib.hid fun x hx => by
    obtain ⟨p, hp, rfl⟩ := List.mem_map.1 hx
    obtain ⟨h1, h2⟩ := okP_bd (List.all_eq_true.1 hok p hp)
    unfold Bd negP; simp only; omega
  clear hl h hok
  go_enter Try.func29, Try.ntmps29
  go_wp2_with fail
  have R0 : PtBlk (w.alloc (.cells (ptsV (ptF n fun _ => (0, 0))).toArray 38)) w.heap.size (ptF n fun _ => (0, 0)) := heap_alloc_new _ _
  have hb1 : Below w.heap.size w (w.alloc (.cells (ptsV (ptF n fun _ => (0, 0))).toArray 38)) := (Below.refl _ _).alloc (Nat.le_refl _) _
  have hz1 : (w.alloc (.cells (ptsV (ptF n fun _ => (0, 0))).toArray 38)).heap.size = w.heap.size + 1 := by simp
  generalize w.alloc (.cells (ptsV (ptF n fun _ => (0, 0))).toArray 38) = w1 at *
  generalize hgg : w.heap.size = gg at *
  clear hmk
  go_loopw [11] (fun i wr => ∃ k : Nat, k ≤ n ∧ i = .int .i64 k ∧ PtBlk wr gg (ptF n fun u => if u < k then negP (gt l u) else (0, 0)) ∧ Below gg w wr ∧ gg + 1 ≤ wr.heap.size) (fun i _ => n - (intOf i).toNat)
  case atStart => exact ⟨0, Nat.zero_le _, rfl, by simpa using R0, hb1, by omega⟩
  case round =>
    clear R0 hb1
    obtain ⟨k, hk, rfl, hR', hbw, hgr⟩ := hrel
    have HR := Lib.hid hR'
    clear hR'
    by_cases hlt : k < n
    · obtain ⟨h1, h2⟩ := (HP.out.below hbw hb) k (gt l k) (by unfold gt; rw [List.getD_eq_getElem?_getD, List.getElem?_eq_getElem (by rw [HL.out]; exact hlt)]; rfl)
      have hB : b < wr.heap.size := by omega
      have hg1 : gg < wr.heap.size := by omega
      have d := okP_bd (getD_ok HOK.out k)
      rw [show l.getD k (0, 0) = gt l k from rfl] at d
      have HN : Hid (∀ W, PtBlk W gg ((ptF n fun u => if u < k then negP (gt l u) else (0, 0)).set k (-(gt l k).1, -(gt l k).2)) → PtBlk W gg (ptF n fun u => if u < k + 1 then negP (gt l u) else (0, 0))) := Lib.hid fun W hW => by
        rw [show (-(gt l k).1, -(gt l k).2) = negP (gt l k) from rfl, ptF_set] at hW
        rw [ptF_congr (g := fun u => if u = k then negP (gt l k) else if u < k then negP (gt l u) else (0, 0))]
        · exact hW
        · intro i hi
          by_cases e : i = k
          · subst e; simp
          · rw [if_neg e]
            by_cases e2 : i < k
            · rw [if_pos e2, if_pos (by omega)]
            · rw [if_neg e2, if_neg (by omega)]
      generalize hp : gt l k = p at *
      obtain ⟨x, y⟩ := p
      simp only at d
      have PL := fun W => Lib.hid (minus_any 0 0 x y W (by omega) (by omega) (by omega) (by omega))
      clear hp d
      go_wp2_with fail
      have hb1 : Below wr.heap.size wr (wr.alloc (bx x y)) := (Below.refl _ _).alloc (Nat.le_refl _) _
      refine ((PL _).out).mono ?_
      rintro e w2 ⟨rfl, hb2⟩
      have hb3 := hb1.trans (hb2.mono hb1.size)
      have hbw3 := hbw.trans (hb3.mono (by omega))
      have R2 := HR.out.below hb3 (by omega)
      obtain ⟨c1, c2⟩ := R2.cell (i := k) (ptF_get hlt)
      have f1 := R2.frozen (k * 2)
      have f2 := R2.frozen (k * 2 + 1)
      have hsz := hb3.size
      have HR2 := Lib.hid R2
      clear hb1 hb2 R2
      go_wp2_with fail
      go_roundw
      case rel => exact ⟨k + 1, by omega, by go_num, HN.out _ (HR2.out.set k _ _), (hbw3.setCell (by simp) _).setCell (by simp) _, by simp; omega⟩
      case measure => simp [intOf]; omega
    · obtain rfl : k = n := by omega
      have HF : Hid (PtBlk wr gg (l.map negP)) := Lib.hid (by
        rw [HM.out]
        have := HR.out
        rw [ptF_congr (g := fun i => negP (gt l i)) (fun i hi => by rw [if_pos hi])] at this
        exact this)
      have KH := Lib.hid (hull_any hS hR gg 0 k k (l.map negP) wr (by rw [List.length_map]; exact HL.out) hn hn' HF.out.pts (by omega) HBD.out)
      have HBW := Lib.hid hbw
      clear hbw HR
      go_wp2_with fail
      refine (KH.out).mono ?_
      rintro e w2 ⟨s, v, hp, hs, rfl, ho, hb2⟩
      have HS2 : Hid (s.Perm (l.map negP) ∧ s.Pairwise leP) := Lib.hid ⟨hp, hs⟩
      have HO := Lib.hid (ho.low (show gg ≤ _ by omega))
      have HB2 := Lib.hid (HBW.out.trans (hb2.mono (by omega)))
      clear hp hs ho hb2
      go_wp2_with fail
      go_ret
      exact ⟨s, v, HS2.out.1, HS2.out.2, rfl, by rw [hgg]; exact HO.out, by rw [hgg]; exact HB2.out⟩

/-- What Negative leaves: the corners' negatives, in the order of a hull. -/
def NegTo (a : List Pt) (w : World) (e : Ending) (w' : World) : Prop :=
  ∃ s v, s.Perm (a.map negP) ∧ s.Pairwise leP ∧ e = .returned (.tuple #[v, .int .i64 0]) ∧ PtsOwn w' w.heap.size v (hullL s) ∧ Below w.heap.size w w'

set_option maxRecDepth 100000 in
set_option maxHeartbeats 2000000 in
theorem negX_any (hS : SortsPts) (hR : ReversesPts) (A : Option Addr) (n c : Nat) (p : List Pt) (p0 : Pt) (w : World) (hl : p.length = n) (hn' : n ≤ 32)
    (hx : PtsAt w A p) (hok : p.all okP = true) (cp : Conv p p0) :
    Calls Try.prog 10 #[.slice A n c] w (NegTo p w) := by
  have hb1 : Below w.heap.size w (w.alloc (.cells #[.slice A n c] 22)) := (Below.refl _ _).alloc (Nat.le_refl _) _
  have hP : PolysIn (w.alloc (.cells #[.slice A n c] 22)) w.heap.size 0 [p] := by
    intro i l hi
    match i, hi with
    | 0, hi =>
      obtain rfl : p = l := by simpa using hi
      exact ⟨A, n, c, by simp [World.cell?_alloc_new], hl, by omega, hx.below hb1⟩
  have K1 := Lib.hid (checkConvex_any w.heap.size 0 1 1 [p] _ rfl (by omega) hP (by simp))
  have h0 : convsE [p] = 0 := by
    show (if conE p = 0 then 0 else conE p) = 0
    rw [if_pos (conv_conE cp hok (by omega))]
  rw [h0] at K1
  have h3 := cp.three
  obtain ⟨b1, o1, rfl, g1, g2⟩ := hx (by intro e; rw [e] at h3; simp at h3)
  have KS := fun W (hW : Below w.heap.size w W) => Lib.hid (negative_any hS hR b1 o1 n c p W hl (by omega) (by omega) (g2.below hW g1) (Nat.lt_of_lt_of_le g1 hW.size) hok)
  have HB1 := Lib.hid hb1
  clear hx hP h0 g2 hl hok cp hb1
  go_enter Try.func10, Try.ntmps10
  go_wp2_with fail
  refine (K1.out).mono ?_
  rintro e w1 ⟨rfl, hb2⟩
  have hbw1 := HB1.out.trans (hb2.mono HB1.out.size)
  clear hb2
  go_wp2_with fail
  refine ((KS _ hbw1).out).mono ?_
  rintro e w2 ⟨s, v, hp, hs, rfl, ho, hb3⟩
  have HS2 : Hid (s.Perm (p.map negP) ∧ s.Pairwise leP) := Lib.hid ⟨hp, hs⟩
  have HO := Lib.hid (ho.low hbw1.size)
  have HB := Lib.hid (hbw1.trans (hb3.mono hbw1.size))
  clear ho hb3 hp hs
  go_wp2_with fail
  go_ret2
  exact ⟨s, v, HS2.out.1, HS2.out.2, rfl, HO.out, HB.out⟩
end Go.Proofs.Ytlmdmgbhfoehgaa

/- What the laws of layer 4 that call Sum and Negative need: bounds of sums, areas. -/
namespace Go.Proofs.Ytlmdmgbhfoehgaa
open Go.RowKit Go.Sort

theorem ok_of_bd {L : Int} (hL : L ≤ 10000) {H : List Pt} (h : ∀ p ∈ H, (-L ≤ p.1 ∧ p.1 ≤ L) ∧ (-L ≤ p.2 ∧ p.2 ≤ L)) : H.all okP = true := List.all_eq_true.2 fun p hp => by
  have := h p hp
  unfold okP validB
  simp only [inB]
  simp
  omega
theorem bd_sums {L M : Int} {a b K : List Pt} {k0 : Pt} (ha : ∀ p ∈ a, (-L ≤ p.1 ∧ p.1 ≤ L) ∧ (-L ≤ p.2 ∧ p.2 ≤ L)) (hb : ∀ p ∈ b, (-M ≤ p.1 ∧ p.1 ≤ M) ∧ (-M ≤ p.2 ∧ p.2 ≤ M)) (h : Hull (sums a b) K k0) :
    ∀ p ∈ K, (-(L + M) ≤ p.1 ∧ p.1 ≤ L + M) ∧ (-(L + M) ≤ p.2 ∧ p.2 ≤ L + M) := fun p hp => by
  obtain ⟨x, hx, y, hy, rfl⟩ := mem_sums.1 (hull_sub h hp)
  have h1 := ha x hx
  have h2 := hb y hy
  unfold sumP
  simp only
  omega
theorem conv_polyB {a : List Pt} {a0 : Pt} (ca : Conv a a0) (hok : a.all okP = true) (hlen : a.length ≤ 32) : polyB a = true := by
  unfold polyB
  rw [Bool.and_eq_true]
  have := ca.three
  exact ⟨hok, by rw [inB_true]; omega⟩
theorem area2_bd {a : List Pt} (hok : a.all okP = true) (hlen : a.length ≤ 12) : -2400000000 ≤ area2 a ∧ area2 a ≤ 2400000000 := by
  have h := area2To_bd hok a.length
  have e : area2To a a.length = area2 a := rfl
  rw [e] at h
  omega

end Go.Proofs.Ytlmdmgbhfoehgaa

/- Shape: the reference's Sum and Negative; package shape's Sum and Negative of what is not convex. -/
namespace Go.Proofs.Ytlmdmgbhfoehgaa
open Go.RowKit Go.Sort
attribute [local go_sem ↓] run_min_mn run_max_mx Go.wp_at_zero Go.wp_at_succ

theorem hull_ref {P K : List Pt} {k0 : Pt} (h : Hull P K k0) (hlow : ∀ p ∈ P, leP k0 p) (h3 : 3 ≤ K.length) : flatTo P P.length = false ∧ Hull P K (lowTo P P.length) ∧ 0 < P.length := by
  have hk : k0 ∈ P := by
    have := (h.edge 0 (by omega)).fst
    rwa [h.first] at this
  have hl : 0 < P.length := List.length_pos_of_mem hk
  have e : lowTo P P.length = k0 := leP_anti (low_le hk) (hlow _ (lowTo_mem hl _ (Nat.le_refl _)))
  refine ⟨?_, by rw [e]; exact h, hl⟩
  cases hf : flatTo P P.length
  · rfl
  · have := (hull_flat h (gt_mem hl)).1 ((flatTo_iff hl).1 hf)
    omega

/-- Sums, row by row. -/
def sumsTo (p q : List Pt) (i : Nat) : List Pt := sums (p.take i) q
theorem sumsTo_succ {p : List Pt} (q : List Pt) {i : Nat} (h : i < p.length) : sumsTo p q (i + 1) = sumsTo p q i ++ q.map (sumP p[i]) := by
  unfold sumsTo sums
  rw [List.take_succ_eq_append_getElem h, List.flatMap_append]
  simp
theorem sums_length (p q : List Pt) : (sums p q).length = p.length * q.length := by
  unfold sums
  induction p with
  | nil => simp
  | cons x p ih => rw [List.flatMap_cons, List.length_append, List.length_map, ih, List.length_cons, Nat.succ_mul, Nat.add_comm]

set_option maxRecDepth 100000 in
set_option maxHeartbeats 8000000 in
theorem refSum_any (b off n c b' off' m d : Nat) (p q K : List Pt) (k0 : Pt) (w : World) (hl : p.length = n) (hm : q.length = m) (hn1 : 0 < n) (hm1 : 0 < m) (hn' : n ≤ 12) (hm' : m ≤ 12) (h : PtsIn w b off p) (hb : b < w.heap.size) (h' : PtsIn w b' off' q) (hb' : b' < w.heap.size)
    (hok : p.all okP = true) (hok' : q.all okP = true) (hK : Hull (sums p q) K k0) (hlow : ∀ x ∈ sums p q, leP k0 x) (h3 : 3 ≤ K.length) :
    Calls Try.prog 15 #[.slice (some ⟨b, off, none⟩) n c, .slice (some ⟨b', off', none⟩) m d] w (RefMovedTo K w) := by
  have hsl := sums_length p q
  rw [hl, hm] at hsl
  have hnm : n * m ≤ 144 := by
    have := Nat.mul_le_mul hn' hm'
    omega
  have hnm1 : 0 < n * m := Nat.mul_pos hn1 hm1
  obtain ⟨f1, f2, f3⟩ := hull_ref hK hlow h3
  have hKl := hull_length hK
  have hbd : ∀ x ∈ sums p q, Bd x := fun x hx => by
    obtain ⟨u, hu, v, hv, rfl⟩ := mem_sums.1 hx
    have a := okP_bd (List.all_eq_true.1 hok u hu)
    have b := okP_bd (List.all_eq_true.1 hok' v hv)
    unfold Bd sumP; simp only; omega
  have KH := fun g c W (hin : PtsIn W g 0 (sums p q)) (hg : g < W.heap.size) => Lib.hid (refHull_any g 0 (n * m) c (sums p q) K W hsl hnm1 (by omega) hin hg hbd (by rw [← hsl]; exact fun _ => f2) (by omega))
  have FL := Lib.hid f1
  have HF : Hid (sumsTo p q n = sums p q) := Lib.hid (by unfold sumsTo; rw [List.take_of_length_le (by omega)])
  have HSL := Lib.hid hsl
  have HL := Lib.hid hl
  have HM := Lib.hid hm
  have HP := Lib.hid h
  have HQ := Lib.hid h'
  have HOK := Lib.hid hok
  have HOK' := Lib.hid hok'
  clear hl hm h h' hok hok' hK hlow h3 hsl f1 f2 f3 hKl hbd hnm1
  go_enter Try.func15, Try.ntmps15
  go_wp2
  go_loopw [5, 6] (fun o i wr => ∃ k : Nat, k ≤ n ∧ i = .int .i64 k ∧ PtsOwn wr w.heap.size o (sumsTo p q k) ∧ Below w.heap.size w wr) (fun _ i _ => n - (intOf i).toNat)
  case atStart => exact ⟨0, Nat.zero_le _, rfl, by simpa [sumsTo, sums] using PtsOwn.empty w, (Below.refl _ _).alloc (Nat.le_refl _) _⟩
  case round =>
    obtain ⟨k, hk, rfl, hO, hbr⟩ := hrel
    have HO := Lib.hid hO
    have HBR := Lib.hid hbr
    have hsz := hbr.size
    clear hO
    by_cases hlt : k < n
    · have hkl : k < p.length := by rw [HL.out]; exact hlt
      obtain ⟨x1, x2⟩ := (HP.out.below hbr hb) k _ (List.getElem?_eq_getElem hkl)
      have okx := okP_bd (List.all_eq_true.1 HOK.out _ (List.getElem_mem hkl))
      have HN : Hid (sumsTo p q (k + 1) = sumsTo p q k ++ (q.take m).map (sumP p[k])) := Lib.hid (by rw [sumsTo_succ q hkl, List.take_of_length_le (by rw [HM.out]; omega)])
      have HCL : Hid ((sumsTo p q k).length ≤ 144) := Lib.hid (by
        unfold sumsTo
        rw [sums_length, List.length_take, HM.out, HL.out]
        have := Nat.mul_le_mul (show min k n ≤ n by omega) (Nat.le_refl m)
        omega)
      generalize p[k] = x at *
      generalize sumsTo p q k = cur at *
      obtain ⟨ax, ay⟩ := x
      simp only at okx
      have X1 := Lib.hid x1
      have X2 := Lib.hid x2
      have hB : b < wr.heap.size := Nat.lt_of_lt_of_le hb hsz
      have hB' : b' < wr.heap.size := Nat.lt_of_lt_of_le hb' hsz
      have HQR : Hid (PtsIn wr b' off' q) := Lib.hid (HQ.out.below hbr hb')
      clear x1 x2 hbr
      obtain ⟨wo, rfl⟩ : ∃ wo : World, wo = wr := ⟨_, rfl⟩
      go_wp2_with fail
      go_loopw [5, 7] (fun o j wr => ∃ t : Nat, t ≤ m ∧ j = .int .i64 t ∧ PtsOwn wr w.heap.size o (cur ++ (q.take t).map (sumP (ax, ay))) ∧ Below w.heap.size w wr) (fun _ j _ => m - (intOf j).toNat)
      case atStart => exact ⟨0, Nat.zero_le _, rfl, by simpa using HO.out, HBR.out⟩
      case round =>
        obtain ⟨t, ht, rfl, hO2, hbt⟩ := hrel
        have HO2 := Lib.hid hO2
        have HBT := Lib.hid hbt
        have hszt := hbt.size
        clear hO2
        by_cases htl : t < m
        · have htq : t < q.length := by rw [HM.out]; exact htl
          obtain ⟨y1, y2⟩ := (HQ.out.below hbt hb') t _ (List.getElem?_eq_getElem htq)
          obtain ⟨z1, z2⟩ := (HP.out.below hbt hb) k _ (List.getElem?_eq_getElem (show k < p.length by rw [HL.out]; exact hlt))
          have eX : p[k]'(by rw [HL.out]; exact hlt) = (ax, ay) := by
            have a := (HP.out.below HBR.out hb) k _ (List.getElem?_eq_getElem (show k < p.length by rw [HL.out]; exact hlt))
            have h1 := a.1.symm.trans X1.out
            have h2 := a.2.symm.trans X2.out
            simp only [Option.some.injEq, Value.int.injEq, true_and] at h1 h2
            exact Prod.ext h1 h2
          rw [eX] at z1 z2
          have oky := okP_bd (List.all_eq_true.1 HOK'.out _ (List.getElem_mem htq))
          have HN2 : Hid (cur ++ (q.take (t + 1)).map (sumP (ax, ay)) = (cur ++ (q.take t).map (sumP (ax, ay))) ++ [sumP (ax, ay) q[t]]) := Lib.hid (by
            rw [List.take_succ_eq_append_getElem htq, List.map_append, List.append_assoc]; rfl)
          have HL2 : Hid ((cur ++ (q.take t).map (sumP (ax, ay))).length ≤ 1000) := Lib.hid (by
            have := HCL.out
            rw [List.length_append, List.length_map, List.length_take]; omega)
          generalize q[t] = y at *
          generalize cur ++ (q.take t).map (sumP (ax, ay)) = cur2 at *
          obtain ⟨bx', by'⟩ := y
          simp only at oky z1 z2
          have r1 : IntKind.i64.wrap (ax + bx') = ax + bx' := by rw [IntKind.wrap_i64]; omega
          have r2 : IntKind.i64.wrap (ay + by') = ay + by' := by rw [IntKind.wrap_i64]; omega
          have ne1 : u5.ownBlock ≠ some b := fun e => by have := (HO2.out.base b e).1; omega
          have ne2 : u5.ownBlock ≠ some b' := fun e => by have := (HO2.out.base b' e).1; omega
          have hBt : b < wr.heap.size := Nat.lt_of_lt_of_le hb hszt
          have hBt' : b' < wr.heap.size := Nat.lt_of_lt_of_le hb' hszt
          have l1 : b < (wr.alloc (.cells #[.int .i64 (ax + bx'), .int .i64 (ay + by')] 38)).drew.heap.size := by simp; omega
          have l2 : b' < (wr.alloc (.cells #[.int .i64 (ax + bx'), .int .i64 (ay + by')] 38)).drew.heap.size := by simp; omega
          have k1 : (wr.alloc (.cells #[.int .i64 (ax + bx'), .int .i64 (ay + by')] 38)).drew.cell? ⟨b, off + k * 2, none⟩ = some (.int .i64 ax) := (World.cell?_alloc_lt wr _ ⟨b, _, none⟩ hBt).trans z1
          have k2 : (wr.alloc (.cells #[.int .i64 (ax + bx'), .int .i64 (ay + by')] 38)).drew.cell? ⟨b, off + k * 2 + 1, none⟩ = some (.int .i64 ay) := (World.cell?_alloc_lt wr _ ⟨b, _, none⟩ hBt).trans z2
          have k3 : (wr.alloc (.cells #[.int .i64 (ax + bx'), .int .i64 (ay + by')] 38)).drew.cell? ⟨b', off' + t * 2, none⟩ = some (.int .i64 bx') := (World.cell?_alloc_lt wr _ ⟨b', _, none⟩ hBt').trans y1
          have k4 : (wr.alloc (.cells #[.int .i64 (ax + bx'), .int .i64 (ay + by')] 38)).drew.cell? ⟨b', off' + t * 2 + 1, none⟩ = some (.int .i64 by') := (World.cell?_alloc_lt wr _ ⟨b', _, none⟩ hBt').trans y2
          clear hbt eX
          go_wp2_with fail
          go_region_held3 (fun w' => w'.cell? ⟨b, off + k * 2, none⟩ = some (.int .i64 ax) ∧ w'.cell? ⟨b, off + k * 2 + 1, none⟩ = some (.int .i64 ay) ∧ w'.cell? ⟨b', off' + t * 2, none⟩ = some (.int .i64 bx') ∧ w'.cell? ⟨b', off' + t * 2 + 1, none⟩ = some (.int .i64 by'))
            (first
              | go_keep
              | exact ⟨(hgrow.cell_far _ l1 (Ne.symm ne1)).trans k1, (hgrow.cell_far _ l1 (Ne.symm ne1)).trans k2, (hgrow.cell_far _ l2 (Ne.symm ne2)).trans k3, (hgrow.cell_far _ l2 (Ne.symm ne2)).trans k4⟩)
            ((refine step_papp (by rfl) _ _ (by rfl) w.heap.size _ cur2 [(ax + bx', ay + by')] (some ⟨wr.heap.size, 0, none⟩) 1 1 (by rfl) (by rfl) ((HO2.out.alloc _).drew) rfl (PtsAt.one wr _ _) (by have := HL2.out; simp; omega) (by simp; omega) ?_; intro v1 w2 hown1 hgrow hat))
          have HO3 : Hid (PtsOwn w2 w.heap.size v1 (cur ++ (q.take (t + 1)).map (sumP (ax, ay)))) := Lib.hid (by rw [HN2.out]; exact hown1)
          have HB3 : Hid (Below w.heap.size w w2) := Lib.hid ((HBT.out.alloc hszt _).drew.grown hgrow (by simp; omega) (fun k hk => (HO2.out.base k hk).1))
          clear hown1 hgrow hat k1 k2 k3 k4 l1 l2 r1 r2
          go_wp2_with fail
          go_roundw
          case rel => exact ⟨t + 1, by omega, by go_num, HO3.out, HB3.out⟩
          case measure => simp [intOf]; omega
        · obtain rfl : t = m := by omega
          have HO4 : Hid (PtsOwn wr w.heap.size u5 (sumsTo p q (k + 1))) := Lib.hid (by rw [HN.out]; exact HO2.out)
          go_wp2_with fail
          go_roundw
          case rel => exact ⟨k + 1, by omega, by go_num, HO4.out, HBT.out⟩
          case measure => simp [intOf]; omega
    · obtain rfl : k = n := by omega
      have hO := HO.out
      rw [HF.out] at hO
      obtain ⟨g, cg, rfl, -, -, hgl, hin⟩ := hO.row (n := k * m) HSL.out (Nat.mul_pos hn1 hm1)
      have KH1 := KH g cg wr hin hgl
      clear hin hO KH
      go_wp2_with fail
      refine (KH1.out).mono ?_
      rintro e w2 ⟨hb2, hc⟩
      obtain ⟨v, rfl, ho⟩ : ∃ v, e = .returned (.tuple #[v, .bool true]) ∧ PtsOwn w2 wr.heap.size v K := by
        rcases hc with ⟨q1, _⟩ | ⟨_, q1⟩
        · rw [FL.out] at q1; cases q1
        · exact q1
      have HO5 := Lib.hid (ho.low hsz)
      have HB5 := Lib.hid (HBR.out.trans (hb2.mono hsz))
      clear hc ho hb2 hbr
      go_wp2_with fail
      go_ret
      exact ⟨v, rfl, HO5.out, HB5.out⟩

set_option maxRecDepth 100000 in
set_option maxHeartbeats 4000000 in
theorem refNeg_any (b off n c : Nat) (p K : List Pt) (k0 : Pt) (w : World) (hl : p.length = n) (hn1 : 0 < n) (hn' : n ≤ 100) (h : PtsIn w b off p) (hb : b < w.heap.size) (hok : p.all okP = true)
    (hK : Hull (p.map negP) K k0) (hlow : ∀ x ∈ p.map negP, leP k0 x) (h3 : 3 ≤ K.length) :
    Calls Try.prog 14 #[.slice (some ⟨b, off, none⟩) n c] w (RefMovedTo K w) := by
  have hsl : (p.map negP).length = n := by rw [List.length_map]; exact hl
  obtain ⟨f1, f2, f3⟩ := hull_ref hK hlow h3
  have hKl := hull_length hK
  have hbd : ∀ x ∈ p.map negP, Bd x := fun x hx => by
    obtain ⟨u, hu, rfl⟩ := List.mem_map.1 hx
    have a := okP_bd (List.all_eq_true.1 hok u hu)
    unfold Bd negP; simp only; omega
  have KH := fun g c W (hin : PtsIn W g 0 (p.map negP)) (hg : g < W.heap.size) => Lib.hid (refHull_any g 0 n c (p.map negP) K W hsl hn1 (by omega) hin hg hbd (by rw [← hsl]; exact fun _ => f2) (by omega))
  have FL := Lib.hid f1
  have HSL := Lib.hid hsl
  have HL := Lib.hid hl
  have HP := Lib.hid h
  have HOK := Lib.hid hok
  have HF : Hid ((p.take n).map negP = p.map negP) := Lib.hid (by rw [List.take_of_length_le (by omega)])
  clear hl h hok hK hlow h3 hsl f1 f2 f3 hKl hbd
  go_enter Try.func14, Try.ntmps14
  go_wp2
  go_loopw [3, 4] (fun o i wr => ∃ k : Nat, k ≤ n ∧ i = .int .i64 k ∧ PtsOwn wr w.heap.size o ((p.take k).map negP) ∧ Below w.heap.size w wr) (fun _ i _ => n - (intOf i).toNat)
  case atStart => exact ⟨0, Nat.zero_le _, rfl, by simpa using PtsOwn.empty w, (Below.refl _ _).alloc (Nat.le_refl _) _⟩
  case round =>
    obtain ⟨k, hk, rfl, hO, hbr⟩ := hrel
    have HO := Lib.hid hO
    have HBR := Lib.hid hbr
    have hsz := hbr.size
    clear hO
    by_cases hlt : k < n
    · have hkl : k < p.length := by rw [HL.out]; exact hlt
      obtain ⟨z1, z2⟩ := (HP.out.below hbr hb) k _ (List.getElem?_eq_getElem hkl)
      have okx := okP_bd (List.all_eq_true.1 HOK.out _ (List.getElem_mem hkl))
      have HN : Hid ((p.take (k + 1)).map negP = (p.take k).map negP ++ [negP p[k]]) := Lib.hid (by rw [List.take_succ_eq_append_getElem hkl, List.map_append]; rfl)
      have HLN : Hid (((p.take k).map negP).length ≤ 100) := Lib.hid (by rw [List.length_map, List.length_take]; omega)
      generalize p[k] = x at *
      generalize (p.take k).map negP = cur at *
      obtain ⟨ax, ay⟩ := x
      simp only at okx z1 z2
      have r1 : IntKind.i64.wrap (-ax) = -ax := by rw [IntKind.wrap_i64]; omega
      have r2 : IntKind.i64.wrap (-ay) = -ay := by rw [IntKind.wrap_i64]; omega
      have ne1 : u3.ownBlock ≠ some b := fun e => by have := (HO.out.base b e).1; omega
      have hB : b < wr.heap.size := Nat.lt_of_lt_of_le hb hsz
      have l1 : b < (wr.alloc (.cells #[.int .i64 (-ax), .int .i64 (-ay)] 38)).drew.heap.size := by simp; omega
      have k1 : (wr.alloc (.cells #[.int .i64 (-ax), .int .i64 (-ay)] 38)).drew.cell? ⟨b, off + k * 2, none⟩ = some (.int .i64 ax) := (World.cell?_alloc_lt wr _ ⟨b, _, none⟩ hB).trans z1
      have k2 : (wr.alloc (.cells #[.int .i64 (-ax), .int .i64 (-ay)] 38)).drew.cell? ⟨b, off + k * 2 + 1, none⟩ = some (.int .i64 ay) := (World.cell?_alloc_lt wr _ ⟨b, _, none⟩ hB).trans z2
      clear hbr
      go_wp2_with fail
      go_region_held3 (fun w' => w'.cell? ⟨b, off + k * 2, none⟩ = some (.int .i64 ax) ∧ w'.cell? ⟨b, off + k * 2 + 1, none⟩ = some (.int .i64 ay))
        (first
          | go_keep
          | exact ⟨(hgrow.cell_far _ l1 (Ne.symm ne1)).trans k1, (hgrow.cell_far _ l1 (Ne.symm ne1)).trans k2⟩)
        ((refine step_papp (by rfl) _ _ (by rfl) w.heap.size _ cur [(-ax, -ay)] (some ⟨wr.heap.size, 0, none⟩) 1 1 (by rfl) (by rfl) ((HO.out.alloc _).drew) rfl (PtsAt.one wr _ _) (by have := HLN.out; simp; omega) (by simp; omega) ?_; intro v1 w2 hown1 hgrow hat))
      have HO3 : Hid (PtsOwn w2 w.heap.size v1 ((p.take (k + 1)).map negP)) := Lib.hid (by rw [HN.out]; exact hown1)
      have HB3 : Hid (Below w.heap.size w w2) := Lib.hid ((HBR.out.alloc hsz _).drew.grown hgrow (by simp; omega) (fun k hk => (HO.out.base k hk).1))
      clear hown1 hgrow hat k1 k2 l1 r1 r2
      go_wp2_with fail
      go_roundw
      case rel => exact ⟨k + 1, by omega, by go_num, HO3.out, HB3.out⟩
      case measure => simp [intOf]; omega
    · obtain rfl : k = n := by omega
      have hO := HO.out
      rw [HF.out] at hO
      obtain ⟨g, cg, rfl, -, -, hgl, hin⟩ := hO.row (n := k) HSL.out hn1
      have KH1 := KH g cg wr hin hgl
      clear hin hO KH
      go_wp2_with fail
      refine (KH1.out).mono ?_
      rintro e w2 ⟨hb2, hc⟩
      obtain ⟨v, rfl, ho⟩ : ∃ v, e = .returned (.tuple #[v, .bool true]) ∧ PtsOwn w2 wr.heap.size v K := by
        rcases hc with ⟨q1, _⟩ | ⟨_, q1⟩
        · rw [FL.out] at q1; cases q1
        · exact q1
      have HO5 := Lib.hid (ho.low hsz)
      have HB5 := Lib.hid (HBR.out.trans (hb2.mono hsz))
      clear hc ho hb2 hbr
      go_wp2_with fail
      go_ret
      exact ⟨v, rfl, HO5.out, HB5.out⟩
end Go.Proofs.Ytlmdmgbhfoehgaa

/- ShapeAreas: the law's walk. -/
namespace Go.Proofs.Ytlmdmgbhfoehgaa
open Go.RowKit Go.Sort

theorem take_len {xs : List Pt} {n k : Nat} (h : xs.length = n) : (xs.take (cutN n k)).length ≤ max 33 k := by
  rw [List.length_take]; unfold cutN; split <;> omega

end Go.Proofs.Ytlmdmgbhfoehgaa
