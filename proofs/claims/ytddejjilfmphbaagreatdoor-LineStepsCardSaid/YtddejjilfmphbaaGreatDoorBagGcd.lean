/- Bags: greatest common divisors, least and greatest elements. -/
import Derived.Test.YtddejjilfmphbaaGreatDoorBagLeaf
namespace Go.Proofs.YtddejjilfmphbaaGreatDoor
open Go.RowKit Go.Sort
attribute [local go_sem ↓] run_min_mn run_max_mx

theorem tmod_nat (x y : Nat) : Int.tmod (x : Int) (y : Int) = ((x % y : Nat) : Int) := rfl

/-- The greatest common divisor of all. -/
def gcdL (l : List Nat) : Nat := l.foldl Nat.gcd 0
theorem gcdL_snoc (l : List Nat) (x : Nat) : gcdL (l ++ [x]) = Nat.gcd (gcdL l) x := by simp [gcdL]
def toI (l : List Nat) : List Int := l.map Int.ofNat
theorem toI_length (l : List Nat) : (toI l).length = l.length := by simp [toI]
theorem toI_get {l : List Nat} {i : Nat} (h : i < l.length) : ∃ h' : i < (toI l).length, (toI l)[i] = (l[i] : Int) := ⟨by simpa [toI] using h, by simp [toI]⟩
theorem toI_at {w : World} {A : Option Addr} {l : List Nat} (h : Ints w A (toI l)) {i : Nat} (hi : i < l.length) :
    ∃ b off, A = some ⟨b, off, none⟩ ∧ w.cell? ⟨b, off + i, none⟩ = some (.int .i64 (l[i] : Nat)) := by
  obtain ⟨b, off, e, hc⟩ := h.at_ (i := i) (by rw [toI_length]; exact hi)
  exact ⟨b, off, e, by rw [hc]; simp [toI]⟩
theorem toI_head {w : World} {A : Option Addr} {l : List Nat} (h : Ints w A (toI l)) (hi : 0 < l.length) :
    ∃ b off, A = some ⟨b, off, none⟩ ∧ w.cell? ⟨b, off, none⟩ = some (.int .i64 (l[0] : Nat)) := by
  obtain ⟨b, off, e, hc⟩ := toI_at h hi
  exact ⟨b, off, e, by simpa using hc⟩

/-- The least element, the greatest one (0 of none). -/
def leastL : List Nat → Nat
  | [] => 0
  | x :: r => r.foldl Nat.min x
def mostL (l : List Nat) : Nat := l.foldl Nat.max 0
theorem mostL_snoc (l : List Nat) (x : Nat) : mostL (l ++ [x]) = max (mostL l) x := by simp [mostL]
theorem leastL_snoc {l : List Nat} (h : l ≠ []) (x : Nat) : leastL (l ++ [x]) = min (leastL l) x := by
  cases l with
  | nil => exact absurd rfl h
  | cons a r => simp [leastL]
theorem take_ne {l : List Nat} {k : Nat} (h1 : 1 ≤ k) (hl : k < l.length) : l.take k ≠ [] := fun e => by
  rcases List.take_eq_nil_iff.1 e with h | h
  · omega
  · subst h; simp at hl
theorem mn_nat (a b : Nat) : mn (a : Int) (b : Int) = ((min a b : Nat) : Int) := by unfold mn; split <;> omega
theorem mx_nat (a b : Nat) : mx (a : Int) (b : Int) = ((max a b : Nat) : Int) := by unfold mx; split <;> omega

end Go.Proofs.YtddejjilfmphbaaGreatDoor
