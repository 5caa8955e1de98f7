/- Two sizes: the mathematics of W6. -/
import Derived.Test.YthboolnacmpmlaaGreatDoorBagApery
namespace Go.Proofs.YthboolnacmpmlaaGreatDoor.Bag
open Go.Proofs.YthboolnacmpmlaaGreatDoor

def Two (m M t : Nat) : Prop := ∃ a b, t = a * m + b * M
theorem Mk.two {p q t : Nat} (h : Mk [p, q] t) : Two p q t := by
  induction h with
  | zero => exact ⟨0, 0, by simp⟩
  | @add t s _ hs ih =>
    obtain ⟨a, b, rfl⟩ := ih
    rcases List.mem_cons.1 hs with rfl | hs
    · exact ⟨a + 1, b, by rw [Nat.add_mul]; omega⟩
    · obtain rfl : s = q := by simpa using hs
      exact ⟨a, b + 1, by rw [Nat.add_mul]; omega⟩
theorem Two.mk {p q t : Nat} (h : Two p q t) : Mk [p, q] t := by
  obtain ⟨a, b, rfl⟩ := h
  exact (Mk.times (by simp) a).plus (Mk.times (by simp) b)
theorem Two.swap {m M t : Nat} (h : Two m M t) : Two M m t := by
  obtain ⟨a, b, rfl⟩ := h
  exact ⟨b, a, by omega⟩

theorem no_frob {m M : Nat} (hm : 1 ≤ m) (hM : 1 ≤ M) (hc : Nat.Coprime M m) (a b : Nat) (h : m * M = (a + 1) * m + (b + 1) * M) : False := by
  have h1 : (a + 1) * m = (m - (b + 1)) * M := by rw [Nat.sub_mul]; omega
  have h2 : M ∣ (a + 1) * m := ⟨m - (b + 1), by rw [h1, Nat.mul_comm]⟩
  have h3 : M ∣ a + 1 := hc.dvd_of_dvd_mul_right h2
  have h4 := Nat.le_of_dvd (by omega) h3
  have h5 : M * m ≤ (a + 1) * m := Nat.mul_le_mul_right m h4
  have h6 : 1 ≤ (b + 1) * M := Nat.mul_pos (by omega) hM
  rw [Nat.mul_comm M m] at h5
  omega

/-- All remainders are multiples of the other size. -/
def Reach (m M : Nat) : Prop := ∀ t, ∃ b, b < m ∧ (b * M) % m = t % m
theorem reach_of {m M : Nat} (hm : 1 ≤ m) (h : ∀ r, r < m → ∃ x, Two m M x ∧ x % m = r) : Reach m M := fun t => by
  obtain ⟨x, ⟨a, b, rfl⟩, hx⟩ := h (t % m) (Nat.mod_lt _ hm)
  refine ⟨b % m, Nat.mod_lt _ hm, ?_⟩
  have e : (a * m + b * M) % m = (b * M) % m := by rw [Nat.add_comm, Nat.add_mul_mod_self_right]
  rw [e] at hx
  rw [← hx, Nat.mul_mod, Nat.mod_mod, ← Nat.mul_mod]

theorem not_both {m M F t : Nat} (hm : 1 ≤ m) (hM : 1 ≤ M) (hc : Nat.Coprime M m) (hF : F + m + M = m * M) (ht : t ≤ F) (h1 : Two m M t) (h2 : Two m M (F - t)) : False := by
  obtain ⟨a, b, e1⟩ := h1
  obtain ⟨a', b', e2⟩ := h2
  refine no_frob hm hM hc (a + a') (b + b') ?_
  simp only [Nat.add_mul, Nat.one_mul]
  omega

theorem one_of {m M F t : Nat} (hr : Reach m M) (hF : F + m + M = m * M) (ht : t ≤ F) (h1 : ¬ Two m M t) : Two m M (F - t) := by
  obtain ⟨b, hb, e⟩ := hr t
  by_cases hle : b * M ≤ t
  · have := Nat.sub_mod_eq_zero_of_mod_eq (e.symm)
    obtain ⟨k, hk⟩ := Nat.dvd_of_mod_eq_zero this
    exact absurd ⟨k, b, by rw [Nat.mul_comm k m]; omega⟩ h1
  · have := Nat.sub_mod_eq_zero_of_mod_eq e
    obtain ⟨k, hk⟩ := Nat.dvd_of_mod_eq_zero this
    obtain ⟨k', rfl⟩ : ∃ k', k = k' + 1 := ⟨k - 1, by
      cases k with
      | zero => simp at hk; omega
      | succ k => rfl⟩
    obtain ⟨d, rfl⟩ : ∃ d, m = b + 1 + d := ⟨m - (b + 1), by omega⟩
    refine ⟨k', d, ?_⟩
    rw [Nat.mul_comm (b + 1 + d) (k' + 1), Nat.add_mul k' 1] at hk
    have e3 : (b + 1 + d) * M = b * M + M + d * M := by rw [Nat.add_mul, Nat.add_mul, Nat.one_mul]
    rw [e3] at hF
    omega

theorem most_two {m M : Nat} {l L : List Nat} (hm : 1 ≤ m) (hmM : m ≤ M) (hc : Nat.Coprime M m) (hA : Aperys m l L) (hl : ∀ t, Mk l t ↔ Two m M t) (hb : ∀ s ∈ l, s ≤ M) : mostL L = (m - 1) * M := by
  have hle : mostL L ≤ (m - 1) * M := mostL_bound fun x hx => by
    obtain ⟨i, hi, rfl⟩ := List.mem_iff_getElem.1 hx
    have e : at_ L i = L[i] := by simp [at_, List.getD, hi]
    rw [← e]
    exact hA.bound hm hb i (by rw [← hA.len]; exact hi)
  refine Nat.le_antisymm hle ?_
  have hr : ((m - 1) * M) % m < m := Nat.mod_lt _ hm
  obtain ⟨h1, h2⟩ := hA.made _ hr
  have h3 : at_ L (((m - 1) * M) % m) ≤ mostL L := by
    have hlt : ((m - 1) * M) % m < L.length := by rw [hA.len]; exact hr
    have e : at_ L (((m - 1) * M) % m) = L[((m - 1) * M) % m] := by simp [at_, List.getD, hlt]
    rw [e]; exact mostL_le _ (List.getElem_mem hlt)
  rcases Nat.lt_or_ge (at_ L (((m - 1) * M) % m)) ((m - 1) * M) with hlt | hge
  · exfalso
    obtain ⟨k, hk⟩ := Nat.dvd_of_mod_eq_zero (Nat.sub_mod_eq_zero_of_mod_eq h2.symm)
    obtain ⟨k', rfl⟩ : ∃ k', k = k' + 1 := ⟨k - 1, by
      cases k with
      | zero => simp at hk; omega
      | succ k => rfl⟩
    obtain ⟨a, b, e⟩ := (hl _).1 h1
    refine no_frob hm (by omega) hc (a + k') b ?_
    have e0 : m * M = (m - 1) * M + M := by
      obtain ⟨d, rfl⟩ : ∃ d, m = d + 1 := ⟨m - 1, by omega⟩
      rw [Nat.add_mul, Nat.one_mul, Nat.add_sub_cancel]
    have e2 : (a + k' + 1) * m = a * m + k' * m + 1 * m := by rw [Nat.add_mul, Nat.add_mul]
    have e3 : m * (k' + 1) = k' * m + 1 * m := by rw [Nat.mul_comm, Nat.add_mul]
    have e4 : (b + 1) * M = b * M + 1 * M := Nat.add_mul _ _ _
    rw [e0, e2, e4]
    rw [e3] at hk
    omega
  · omega

theorem half {f : Nat → Bool} {n : Nat} (h : ∀ t, t < n → f (n - 1 - t) = !f t) : 2 * (List.range n).countP f = n := by
  have e : (List.range n).reverse = (List.range n).map (fun t => n - 1 - t) := by
    apply List.ext_getElem
    · simp
    · intro i h1 h2; simp
  have h1 : (List.range n).countP f = (List.range n).countP (fun t => !f t) := by
    rw [← List.countP_reverse, e, List.countP_map]
    apply List.countP_congr
    intro t ht
    rw [Function.comp, h t (List.mem_range.1 ht)]
  have h2 := List.length_eq_countP_add_countP f (l := List.range n)
  rw [List.length_range] at h2
  have h3 : (List.range n).countP (fun t => !f t) = (List.range n).countP (fun a => decide ¬f a = true) := by
    apply List.countP_congr; intro t _; cases f t <;> simp
  omega

theorem sylv_part {m M : Nat} {l L : List Nat} (hm : 1 ≤ m) (hmM : m ≤ M) (hc : Nat.Coprime M m) (hA : Aperys m l L) (hl : ∀ t, Mk l t ↔ Two m M t) (hb : ∀ s ∈ l, s ≤ M) :
    ((mostL L : Nat) - (m : Nat) : Int) = ((m * M : Nat) : Int) - m - M ∧ ∀ k : Nat, (k : Int) = ((m * M : Nat) : Int) - m - M + 1 → 2 * (List.range k).countP (mkB l) = k := by
  have e0 : m * M = (m - 1) * M + M := by
    obtain ⟨d, rfl⟩ : ∃ d, m = d + 1 := ⟨m - 1, by omega⟩
    rw [Nat.add_mul, Nat.one_mul, Nat.add_sub_cancel]
  refine ⟨?_, fun k hk => ?_⟩
  · rw [most_two hm hmM hc hA hl hb, e0]
    push_cast
    omega
  · rcases Nat.eq_zero_or_pos k with rfl | hpos
    · rfl
    · have hr : Reach m M := reach_of hm fun r hr => ⟨_, (hl _).1 (hA.made r hr).1, (hA.made r hr).2⟩
      have hF : (k - 1) + m + M = m * M := by omega
      refine half fun t ht => ?_
      by_cases h : Two m M t
      · have h2 : ¬ Two m M (k - 1 - t) := fun h2 => not_both hm (by omega) hc hF (by omega) h h2
        rw [mkB_true.2 ((hl _).2 h), mkB_false.2 (fun h3 => h2 ((hl _).1 h3))]; rfl
      · have h2 := one_of hr hF (show t ≤ k - 1 by omega) h
        rw [mkB_true.2 ((hl _).2 h2), mkB_false.2 (fun h3 => h ((hl _).1 h3))]; rfl
theorem sylv {p q : Nat} (hp : 1 ≤ p) (hq : 1 ≤ q) (hg : gcdL [p, q] = 1) {L : List Nat} (hA : Aperys (leastL [p, q]) [p, q] L) :
    ((mostL L : Nat) - (leastL [p, q] : Nat) : Int) = ((p * q : Nat) : Int) - p - q ∧ ∀ k : Nat, (k : Int) = ((p * q : Nat) : Int) - p - q + 1 → 2 * (List.range k).countP (mkB [p, q]) = k := by
  have hc : Nat.Coprime p q := by simpa [gcdL, Nat.Coprime] using hg
  rcases Nat.le_total p q with h | h
  · have e : leastL [p, q] = p := by show Nat.min p q = p; exact Nat.min_eq_left h
    rw [e] at hA ⊢
    exact sylv_part hp h hc.symm hA (fun t => ⟨Mk.two, Two.mk⟩) (by simp; omega)
  · have e : leastL [p, q] = q := by show Nat.min p q = q; exact Nat.min_eq_right h
    rw [e] at hA ⊢
    have := sylv_part hq h hc hA (fun t => ⟨fun h => h.two.swap, fun h => h.swap.mk⟩) (by simp; omega)
    rw [Nat.mul_comm q p] at this
    refine ⟨by omega, fun k hk => this.2 k (by omega)⟩

end Go.Proofs.YthboolnacmpmlaaGreatDoor.Bag
