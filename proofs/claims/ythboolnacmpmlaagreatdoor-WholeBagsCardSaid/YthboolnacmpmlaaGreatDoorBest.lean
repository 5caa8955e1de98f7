/- The fewest bags of a total, and their counts: plain mathematics. -/
import Derived.Test.YthboolnacmpmlaaGreatDoorBag
namespace Go.Proofs.YthboolnacmpmlaaGreatDoor.Bag

/-- More than all totals and all numbers of bags. -/
def never : Nat := 1099511627776

/-- The fewest bags of a total, the first size first; never, if it can't be made. -/
def best : List Nat → Nat → Nat
  | [], t => if t = 0 then 0 else never
  | s :: l, t => if h : 1 ≤ s ∧ s ≤ t then min (best l t) (best (s :: l) (t - s) + 1) else best l t
termination_by l t => (l.length, t)
decreasing_by
  · simp_wf; apply Prod.Lex.left; simp
  · simp_wf; apply Prod.Lex.right; omega
  · simp_wf; apply Prod.Lex.left; simp
theorem best_nil (t : Nat) : best [] t = if t = 0 then 0 else never := by rw [best]
theorem best_less {s t : Nat} {l : List Nat} (h : t < s) : best (s :: l) t = best l t := by rw [best, dif_neg (by omega)]
theorem best_more {s t : Nat} {l : List Nat} (h1 : 1 ≤ s) (h : s ≤ t) : best (s :: l) t = min (best l t) (best (s :: l) (t - s) + 1) := by rw [best, dif_pos ⟨h1, h⟩]
theorem best_le_tail {s t : Nat} {l : List Nat} : best (s :: l) t ≤ best l t := by
  rw [best]
  split
  · exact Nat.min_le_left _ _
  · exact Nat.le_refl _
theorem best_top : ∀ (l : List Nat) (t : Nat), best l t ≤ never
  | [], t => by rw [best_nil]; split <;> omega
  | s :: l, t => Nat.le_trans best_le_tail (best_top l t)

/-- The sum of counts times sizes. -/
def dot : List Nat → List Nat → Nat
  | c :: cs, s :: l => c * s + dot cs l
  | _, _ => 0

/-- Is one more bag of the first size needed? -/
def need (s : Nat) (l : List Nat) (t : Nat) : Bool := decide (s ≤ t ∧ best (s :: l) (t - s) + 1 < best l t)
/-- How many bags of the first size. -/
def times (s : Nat) (l : List Nat) (t : Nat) : Nat := if h : 1 ≤ s ∧ need s l t = true then times s l (t - s) + 1 else 0
termination_by t
decreasing_by
  have := h.2
  unfold need at this
  simp at this
  omega
def counts : List Nat → Nat → List Nat
  | [], _ => []
  | s :: l, t => times s l t :: counts l (t - times s l t * s)

theorem times_step {s t : Nat} {l : List Nat} (h1 : 1 ≤ s) (h : need s l t = true) : times s l t = times s l (t - s) + 1 := by rw [times, dif_pos ⟨h1, h⟩]
theorem times_done {s t : Nat} {l : List Nat} (h : need s l t = false) : times s l t = 0 := by rw [times, dif_neg (by rw [h]; simp)]
theorem times_le {s : Nat} {l : List Nat} (h1 : 1 ≤ s) : ∀ t, times s l t * s ≤ t := by
  intro t
  induction t using Nat.strongRecOn with
  | _ t ih =>
    cases h : need s l t with
    | false => rw [times_done h]; omega
    | true =>
      have hs : s ≤ t := by unfold need at h; simp at h; omega
      have := ih (t - s) (by omega)
      rw [times_step h1 h, Nat.succ_mul]
      omega
/-- The fewest bags are as many of the first size as are needed, and the fewest of the rest. -/
theorem best_times {s : Nat} {l : List Nat} (h1 : 1 ≤ s) : ∀ t, best (s :: l) t = times s l t + best l (t - times s l t * s) := by
  intro t
  induction t using Nat.strongRecOn with
  | _ t ih =>
    cases h : need s l t with
    | false =>
      rw [times_done h]
      simp only [Nat.zero_mul, Nat.sub_zero, Nat.zero_add]
      rcases Nat.lt_or_ge t s with hlt | hge
      · exact best_less hlt
      · rw [best_more h1 hge]
        unfold need at h
        simp at h
        have := h hge
        omega
    | true =>
      have hs : s ≤ t := by unfold need at h; simp at h; omega
      have h2 : best (s :: l) (t - s) + 1 < best l t := by unfold need at h; simp at h; omega
      rw [best_more h1 hs, times_step h1 h, Nat.min_eq_right (by omega), ih (t - s) (by omega)]
      have : t - s - times s l (t - s) * s = t - (times s l (t - s) + 1) * s := by rw [Nat.succ_mul]; omega
      rw [this]; omega

theorem counts_sum : ∀ (l : List Nat) (t : Nat), (∀ s ∈ l, 1 ≤ s) → best l t < never → (counts l t).sum = best l t ∧ dot (counts l t) l = t
  | [], t, _, h => by
    rw [best_nil] at h ⊢
    split at h
    · rename_i h0; subst h0; simp [counts, dot]
    · exact absurd h (Nat.lt_irrefl _)
  | s :: l, t, hs, h => by
    have h1 := hs s (by simp)
    have hb := best_times (l := l) h1 t
    have hle := times_le (l := l) h1 t
    obtain ⟨h2, h3⟩ := counts_sum l (t - times s l t * s) (fun x hx => hs x (by simp [hx])) (by omega)
    simp only [counts, List.sum_cons, dot, h2, h3]
    exact ⟨by omega, by omega⟩
theorem counts_length : ∀ (l : List Nat) (t : Nat), (counts l t).length = l.length
  | [], _ => rfl
  | s :: l, t => by simp [counts, counts_length l]

/-- No counts have fewer bags. -/
theorem best_min : ∀ (l cs : List Nat), (∀ s ∈ l, 1 ≤ s) → cs.length = l.length → best l (dot cs l) ≤ cs.sum
  | [], cs, _, h => by
    obtain rfl : cs = [] := List.eq_nil_of_length_eq_zero h
    simp [dot, best_nil]
  | s :: l, [], _, h => by simp at h
  | s :: l, c :: cs, hs, h => by
    have h1 := hs s (by simp)
    have ih := best_min l cs (fun x hx => hs x (by simp [hx])) (by simpa using h)
    have key : ∀ c t, best (s :: l) (c * s + t) ≤ c + best l t := by
      intro c
      induction c with
      | zero => intro t; rw [Nat.zero_mul, Nat.zero_add, Nat.zero_add]; exact best_le_tail
      | succ c ihc =>
        intro t
        have e : (c + 1) * s + t - s = c * s + t := by rw [Nat.succ_mul]; omega
        rw [best_more h1 (by rw [Nat.succ_mul]; omega), e]
        have := ihc t
        omega
    simp only [dot, List.sum_cons]
    have := key c (dot cs l)
    omega

theorem dot_mk : ∀ (cs l : List Nat), Mk l (dot cs l)
  | [], l => by cases l <;> exact .zero
  | c :: cs, [] => .zero
  | c :: cs, s :: l => (Mk.times (by simp) c).plus ((dot_mk cs l).mono fun x hx => by simp [hx])
theorem mk_dot {l : List Nat} {t : Nat} (h : Mk l t) : ∃ cs : List Nat, cs.length = l.length ∧ dot cs l = t := by
  induction h with
  | zero => exact ⟨List.replicate l.length 0, by simp, by
      induction l with
      | nil => rfl
      | cons s l ih => simp [List.replicate_succ, dot, ih]⟩
  | @add t s _ hs ih =>
    obtain ⟨cs, hl, hd⟩ := ih
    obtain ⟨i, hi, rfl⟩ := List.mem_iff_getElem.1 hs
    have key : ∀ (l cs : List Nat) (i : Nat) (h : i < l.length), cs.length = l.length → ∃ ds : List Nat, ds.length = l.length ∧ dot ds l = dot cs l + l[i] := by
      intro l
      induction l with
      | nil => intro cs i h; simp at h
      | cons s l ih =>
        intro cs i h hcs
        cases cs with
        | nil => simp at hcs
        | cons c cs =>
          cases i with
          | zero => exact ⟨(c + 1) :: cs, by simpa using hcs, by simp [dot, Nat.succ_mul]; omega⟩
          | succ i =>
            obtain ⟨ds, h1, h2⟩ := ih cs i (by simpa using h) (by simpa using hcs)
            exact ⟨c :: ds, by simpa using h1, by simp [dot, h2]; omega⟩
    obtain ⟨ds, h1, h2⟩ := key l cs i hi hl
    exact ⟨ds, h1, by rw [h2, hd]⟩
theorem dot_ge {l : List Nat} (hs : ∀ s ∈ l, 1 ≤ s) : ∀ cs : List Nat, cs.length = l.length → cs.sum ≤ dot cs l := by
  induction l with
  | nil => intro cs h; obtain rfl : cs = [] := List.eq_nil_of_length_eq_zero h; simp [dot]
  | cons s l ih =>
    intro cs h
    cases cs with
    | nil => simp at h
    | cons c cs =>
      have h1 := hs s (by simp)
      have h2 := ih (fun x hx => hs x (by simp [hx])) cs (by simpa using h)
      simp only [List.sum_cons, dot]
      have : c ≤ c * s := Nat.le_mul_of_pos_right c h1
      omega
/-- A total can be made exactly if its fewest bags are not never. -/
theorem best_mk {l : List Nat} {t : Nat} (hs : ∀ s ∈ l, 1 ≤ s) (ht : t < never) : best l t < never ↔ Mk l t := by
  constructor
  · intro h
    have := (counts_sum l t hs h).2
    rw [← this]
    exact dot_mk _ _
  · intro h
    obtain ⟨cs, h1, h2⟩ := mk_dot h
    have h3 := best_min l cs hs h1
    have h4 := dot_ge hs cs h1
    rw [h2] at h3 h4
    omega

end Go.Proofs.YthboolnacmpmlaaGreatDoor.Bag
