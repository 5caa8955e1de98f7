/- Bags: how many of the first size: the mathematics of the reference's Bags. -/
import Derived.Test.YthboolnacmpmlaaGreatDoorBest
namespace Go.Proofs.YthboolnacmpmlaaGreatDoor.Bag

theorem need_true {s t : Nat} {l : List Nat} (h : need s l t = true) : s ≤ t ∧ best (s :: l) (t - s) + 1 < best l t := by
  unfold need at h; simpa using h
theorem pre_best {s : Nat} {l : List Nat} (h1 : 1 ≤ s) (t : Nat) : ∀ c, c ≤ times s l t → c * s ≤ t ∧ best (s :: l) t = c + best (s :: l) (t - c * s) ∧ times s l (t - c * s) = times s l t - c
  | 0, _ => ⟨by omega, by simp, by simp⟩
  | c + 1, h => by
    obtain ⟨a1, a2, a3⟩ := pre_best (l := l) h1 t c (by omega)
    cases hn : need s l (t - c * s) with
    | false => rw [times_done hn] at a3; omega
    | true =>
      obtain ⟨b1, b2⟩ := need_true hn
      have e : t - (c + 1) * s = t - c * s - s := by rw [Nat.add_mul]; omega
      have e2 := times_step h1 hn
      have e3 := best_more (l := l) h1 b1
      rw [Nat.min_eq_right (by omega)] at e3
      rw [e]
      refine ⟨by rw [Nat.add_mul]; omega, by rw [a2, e3]; omega, by omega⟩
theorem times_strict {s t c : Nat} {l : List Nat} (h1 : 1 ≤ s) (h : c < times s l t) : best (s :: l) t < c + best l (t - c * s) := by
  obtain ⟨a1, a2, a3⟩ := pre_best (l := l) h1 t c (by omega)
  cases hn : need s l (t - c * s) with
  | false => rw [times_done hn] at a3; omega
  | true =>
    obtain ⟨b1, b2⟩ := need_true hn
    have e3 := best_more (l := l) h1 b1
    rw [Nat.min_eq_right (by omega)] at e3
    omega
theorem best_key {s : Nat} {l : List Nat} (h1 : 1 ≤ s) : ∀ c t, best (s :: l) (c * s + t) ≤ c + best l t := by
  intro c
  induction c with
  | zero => intro t; rw [Nat.zero_mul, Nat.zero_add, Nat.zero_add]; exact best_le_tail
  | succ c ihc =>
    intro t
    have e : (c + 1) * s + t - s = c * s + t := by rw [Nat.succ_mul]; omega
    rw [best_more h1 (by rw [Nat.succ_mul]; omega), e]
    have := ihc t
    omega
theorem best_lower {s c t : Nat} {l : List Nat} (h1 : 1 ≤ s) (h : c * s ≤ t) : best (s :: l) t ≤ c + best l (t - c * s) := by
  have := best_key (l := l) h1 c (t - c * s)
  rwa [show c * s + (t - c * s) = t by omega] at this
theorem best_small {l : List Nat} {t : Nat} (hs : ∀ x ∈ l, 1 ≤ x) (h : best l t < never) : best l t ≤ t := by
  obtain ⟨a, b⟩ := counts_sum l t hs h
  have := dot_ge hs (counts l t) (counts_length l t)
  rw [a, b] at this
  exact this

/-- The first of the least candidates is it. -/
theorem times_pick {s t c0 : Nat} {l : List Nat} (h1 : 1 ≤ s) (hs : ∀ x ∈ l, 1 ≤ x) (ht : t ≤ 1000000) (h0 : c0 * s ≤ t) (hf : best l (t - c0 * s) < never)
    (hmin : ∀ c, c * s ≤ t → best l (t - c * s) < never → c0 + best l (t - c0 * s) ≤ c + best l (t - c * s)) (hfirst : ∀ c, c < c0 → best l (t - c * s) < never → c0 + best l (t - c0 * s) < c + best l (t - c * s)) :
    times s l t = c0 ∧ best (s :: l) t = c0 + best l (t - c0 * s) ∧ best (s :: l) t < never := by
  have hT := best_times (l := l) h1 t
  have hTle := times_le (l := l) h1 t
  have hlow := best_lower (l := l) h1 h0
  have hsm := best_small hs hf
  have hc0 : c0 ≤ t := Nat.le_trans (Nat.le_mul_of_pos_right c0 h1) h0
  have hnv : never = 1099511627776 := rfl
  have hfin : best l (t - times s l t * s) < never := by omega
  have h2 := hmin _ hTle hfin
  have h3 : times s l t = c0 := by
    rcases Nat.lt_trichotomy (times s l t) c0 with h | h | h
    · have := hfirst _ h hfin; omega
    · exact h
    · have := times_strict h1 h; omega
  exact ⟨h3, by omega, by omega⟩
theorem times_none {s t : Nat} {l : List Nat} (h1 : 1 ≤ s) (h : ∀ c, c * s ≤ t → ¬ best l (t - c * s) < never) : ¬ best (s :: l) t < never := by
  have hT := best_times (l := l) h1 t
  have := h _ (times_le (l := l) h1 t)
  omega

end Go.Proofs.YthboolnacmpmlaaGreatDoor.Bag
