/- Parts of the proof, one after the other: PickMath, PickDev, MinkKit, NoFitLaw, PickLaw. -/
import Derived.Test.YtlmdmgbhfoehgaaPk5
import Derived.Test.YtlmdmgbhfoehgaaPk6
import Derived.Test.YtlmdmgbhfoehgaaPk3
/- Shape: areas and lattice points of edges: their parities; polygons that are moved, or read the other way round. -/
namespace Go.Proofs.Ytlmdmgbhfoehgaa

def sumF (f : Nat → Int) : Nat → Int
  | 0 => 0
  | n + 1 => sumF f n + f n
theorem sumF_congr {f g : Nat → Int} : ∀ {n : Nat}, (∀ i, i < n → f i = g i) → sumF f n = sumF g n
  | 0, _ => rfl
  | n + 1, h => by unfold sumF; rw [sumF_congr (n := n) fun i hi => h i (by omega), h n (by omega)]
theorem sumF_neg (f : Nat → Int) : ∀ n, sumF (fun i => - f i) n = - sumF f n
  | 0 => rfl
  | n + 1 => by unfold sumF; rw [sumF_neg f n]; omega
theorem sumF_add (f g : Nat → Int) : ∀ n, sumF (fun i => f i + g i) n = sumF f n + sumF g n
  | 0 => rfl
  | n + 1 => by unfold sumF; rw [sumF_add f g n]; omega
theorem sumF_head (f : Nat → Int) : ∀ n, sumF f (n + 1) = f 0 + sumF (fun i => f (i + 1)) n
  | 0 => by simp [sumF]
  | n + 1 => by
    have := sumF_head f n
    show sumF f (n + 1) + f (n + 1) = f 0 + (sumF (fun i => f (i + 1)) n + f (n + 1))
    omega
theorem sumF_reflect (f : Nat → Int) : ∀ n, sumF (fun i => f (n - 1 - i)) n = sumF f n
  | 0 => rfl
  | n + 1 => by
    rw [sumF_head]
    show f (n + 1 - 1 - 0) + sumF (fun i => f (n + 1 - 1 - (i + 1))) n = sumF f n + f n
    rw [sumF_congr (g := fun i => f (n - 1 - i)) (fun i hi => by rw [show n + 1 - 1 - (i + 1) = n - 1 - i by omega]), sumF_reflect f n, show n + 1 - 1 - 0 = n by omega]
    omega
/-- Round a period, from wherever. -/
theorem sumF_shift (f : Nat → Int) (n : Nat) (hp : ∀ i, f (i + n) = f i) : ∀ c, sumF (fun i => f (i + c)) n = sumF f n
  | 0 => rfl
  | c + 1 => by
    rw [← sumF_shift f n hp c]
    have h := sumF_head (fun i => f (i + c)) n
    have e : sumF (fun i => f (i + c)) (n + 1) = sumF (fun i => f (i + c)) n + f (n + c) := rfl
    have e2 : f (n + c) = f c := by rw [Nat.add_comm]; exact hp c
    have e3 : sumF (fun i => f (i + (c + 1))) n = sumF (fun i => f (i + 1 + c)) n := sumF_congr fun i _ => by rw [show i + (c + 1) = i + 1 + c by omega]
    rw [e3]
    simp only [Nat.zero_add] at h
    omega
/-- What rises and falls round a period. -/
theorem sumF_tele (f : Nat → Int) : ∀ n, sumF (fun i => f (i + 1) - f i) n = f n - f 0
  | 0 => by simp [sumF]
  | n + 1 => by unfold sumF; rw [sumF_tele f n]; omega

def tr (l : List Pt) (i : Nat) : Int := xr (vtx l i) (vtx l (i + 1))
def gcdP (u v : Pt) : Int := (Nat.gcd (v.1 - u.1).natAbs (v.2 - u.2).natAbs : Nat)
def gd (l : List Pt) (i : Nat) : Int := gcdP (vtx l i) (vtx l (i + 1))
def border (l : List Pt) : Int := sumF (gd l) l.length

theorem area2_sum (l : List Pt) : area2 l = sumF (tr l) l.length := by
  have key : ∀ k, k ≤ l.length → area2To l k = sumF (tr l) k := by
    intro k
    induction k with
    | zero => intro _; rfl
    | succ k ih =>
      intro hk
      have e : vtx l k = gt l k := vtx_lt (by omega)
      show area2To l k + ((gt l k).1 * (nx l k).2 - (nx l k).1 * (gt l k).2) = sumF (tr l) k + tr l k
      rw [ih (by omega)]
      unfold tr
      rw [e]; rfl
  exact key _ (Nat.le_refl _)
theorem vtx_per (l : List Pt) (i : Nat) : vtx l (i + 1 + l.length) = vtx l (i + 1) := vtx_add l (i + 1)
theorem tr_per (l : List Pt) (i : Nat) : tr l (i + l.length) = tr l i := by
  unfold tr
  rw [vtx_add, show i + l.length + 1 = i + 1 + l.length by omega, vtx_add]
theorem gd_per (l : List Pt) (i : Nat) : gd l (i + l.length) = gd l i := by
  unfold gd
  rw [vtx_add, show i + l.length + 1 = i + 1 + l.length by omega, vtx_add]
theorem gcdP_comm (u v : Pt) : gcdP u v = gcdP v u := by
  unfold gcdP
  rw [show (v.1 - u.1).natAbs = (u.1 - v.1).natAbs by omega, show (v.2 - u.2).natAbs = (u.2 - v.2).natAbs by omega]

/-- The class of a point by parities: 0 for even ones. -/
def ph (u : Pt) : Int := if u.1 % 2 = 0 ∧ u.2 % 2 = 0 then 0 else 1
theorem gcd_par (a b : Nat) : (Nat.gcd a b) % 2 = if a % 2 = 0 ∧ b % 2 = 0 then 0 else 1 := by
  split
  · rename_i h
    exact Nat.mod_eq_zero_of_dvd (Nat.dvd_gcd (Nat.dvd_of_mod_eq_zero h.1) (Nat.dvd_of_mod_eq_zero h.2))
  · rename_i h
    rcases Nat.mod_two_eq_zero_or_one (Nat.gcd a b) with g | g
    · exfalso
      have d := Nat.dvd_of_mod_eq_zero g
      exact h ⟨Nat.mod_eq_zero_of_dvd (Nat.dvd_trans d (Nat.gcd_dvd_left a b)), Nat.mod_eq_zero_of_dvd (Nat.dvd_trans d (Nat.gcd_dvd_right a b))⟩
    · exact g
theorem mul_par (a b : Int) : (a * b) % 2 = if a % 2 = 0 then 0 else b % 2 := by
  rw [Int.mul_emod]
  split
  · rename_i h; rw [h]; simp
  · rename_i h
    rw [show a % 2 = 1 by omega, Int.one_mul]; omega
theorem par_term (u v : Pt) : (xr u v + gcdP u v) % 2 = (ph u + ph v) % 2 := by
  have g : gcdP u v % 2 = if (v.1 - u.1) % 2 = 0 ∧ (v.2 - u.2) % 2 = 0 then 0 else 1 := by
    unfold gcdP
    have h := gcd_par (v.1 - u.1).natAbs (v.2 - u.2).natAbs
    have e1 : (v.1 - u.1).natAbs % 2 = 0 ↔ (v.1 - u.1) % 2 = 0 := by omega
    have e2 : (v.2 - u.2).natAbs % 2 = 0 ↔ (v.2 - u.2) % 2 = 0 := by omega
    simp only [e1, e2] at h
    split at h <;> rename_i q
    · rw [if_pos q]; omega
    · rw [if_neg q]; omega
  have m1 := mul_par u.1 v.2
  have m2 := mul_par v.1 u.2
  unfold xr ph
  rcases Int.emod_two_eq u.1 with a | a <;> rcases Int.emod_two_eq u.2 with b | b <;> rcases Int.emod_two_eq v.1 with c | c <;> rcases Int.emod_two_eq v.2 with d | d <;>
    simp only [a, b, c, d] at m1 m2 ⊢ <;> split at g <;> simp at m1 m2 ⊢ <;> omega

/-- TWICE THE AREA AND THE POINTS ON THE EDGES ARE BOTH EVEN, OR BOTH ODD. -/
theorem pick_par (l : List Pt) : (area2 l + border l) % 2 = 0 := by
  rw [area2_sum]
  unfold border
  have key : ∀ n, (sumF (tr l) n + sumF (gd l) n) % 2 = (2 * sumF (fun i => ph (vtx l i)) n + (ph (vtx l n) - ph (vtx l 0))) % 2 := by
    intro n
    induction n with
    | zero => simp [sumF]
    | succ n ih =>
      have t := par_term (vtx l n) (vtx l (n + 1))
      show (sumF (tr l) n + tr l n + (sumF (gd l) n + gd l n)) % 2 = (2 * (sumF (fun i => ph (vtx l i)) n + ph (vtx l n)) + (ph (vtx l (n + 1)) - ph (vtx l 0))) % 2
      unfold tr gd at *
      omega
  rw [key]
  have e : vtx l l.length = vtx l 0 := by have := vtx_add l 0; rwa [Nat.zero_add] at this
  rw [e]
  omega

-- moved
theorem tr_moved (l : List Pt) (v : Pt) (h : 0 < l.length) (i : Nat) : tr (movedL l v) i = tr l i + (xr v (vtx l (i + 1)) - xr v (vtx l i)) := by
  unfold tr
  rw [vtx_movedL l v _ h, vtx_movedL l v _ h]
  unfold xr addP; grind
theorem area2_moved (l : List Pt) (v : Pt) (h : 0 < l.length) : area2 (movedL l v) = area2 l := by
  rw [area2_sum, area2_sum, movedL_length, sumF_congr (fun i _ => tr_moved l v h i), sumF_add, sumF_tele (fun i => xr v (vtx l i))]
  have e : vtx l l.length = vtx l 0 := by have := vtx_add l 0; rwa [Nat.zero_add] at this
  rw [e]; omega
theorem border_moved (l : List Pt) (v : Pt) (h : 0 < l.length) : border (movedL l v) = border l := by
  unfold border
  rw [movedL_length]
  refine sumF_congr fun i _ => ?_
  unfold gd
  rw [vtx_movedL l v _ h, vtx_movedL l v _ h]
  unfold gcdP addP
  simp only
  rw [show (vtx l (i + 1)).1 + v.1 - ((vtx l i).1 + v.1) = (vtx l (i + 1)).1 - (vtx l i).1 by omega, show (vtx l (i + 1)).2 + v.2 - ((vtx l i).2 + v.2) = (vtx l (i + 1)).2 - (vtx l i).2 by omega]

-- the other way round
theorem vtx_rev (l : List Pt) (i : Nat) (hi : i ≤ 2 * l.length - 1) (h : 0 < l.length) : vtx l.reverse i = vtx l (2 * l.length - 1 - i) := by
  have key : ∀ j, j < l.length → gt l.reverse j = gt l (l.length - 1 - j) := fun j hj => by
    unfold gt
    rw [List.getD_eq_getElem?_getD, List.getD_eq_getElem?_getD, List.getElem?_reverse hj]
  unfold vtx
  rw [List.length_reverse]
  by_cases g : i < l.length
  · rw [Nat.mod_eq_of_lt g, key i g]
    congr 1
    rw [show 2 * l.length - 1 - i = (l.length - 1 - i) + l.length by omega, Nat.add_mod_right, Nat.mod_eq_of_lt (by omega)]
  · have e : i % l.length = i - l.length := by
      rw [show i = (i - l.length) + l.length by omega, Nat.add_mod_right, Nat.mod_eq_of_lt (by omega)]; omega
    rw [e, key _ (by omega)]
    congr 1
    rw [Nat.mod_eq_of_lt (by omega)]; omega
theorem area2_rev (l : List Pt) (h : 0 < l.length) : area2 l.reverse = - area2 l := by
  rw [area2_sum, area2_sum, List.length_reverse]
  have e : sumF (tr l.reverse) l.length = sumF (fun i => - tr l (l.length - 1 - i + (l.length - 1))) l.length := sumF_congr fun i hi => by
    unfold tr
    rw [vtx_rev l i (by omega) h, vtx_rev l (i + 1) (by omega) h, show 2 * l.length - 1 - i = l.length - 1 - i + (l.length - 1) + 1 by omega, show 2 * l.length - 1 - (i + 1) = l.length - 1 - i + (l.length - 1) by omega, xr_swap]
  rw [e, sumF_neg, sumF_reflect (fun i => tr l (i + (l.length - 1))), sumF_shift (tr l) l.length (tr_per l)]
theorem border_rev (l : List Pt) (h : 0 < l.length) : border l.reverse = border l := by
  unfold border
  rw [List.length_reverse]
  have e : sumF (gd l.reverse) l.length = sumF (fun i => gd l (l.length - 1 - i + (l.length - 1))) l.length := sumF_congr fun i hi => by
    unfold gd
    rw [vtx_rev l i (by omega) h, vtx_rev l (i + 1) (by omega) h, show 2 * l.length - 1 - i = l.length - 1 - i + (l.length - 1) + 1 by omega, show 2 * l.length - 1 - (i + 1) = l.length - 1 - i + (l.length - 1) by omega, gcdP_comm]
  rw [e, sumF_reflect (fun i => gd l (i + (l.length - 1))), sumF_shift (gd l) l.length (gd_per l)]

-- simple polygons by their corners
structure SimpleV (l : List Pt) : Prop where
  ne : ∀ i, i < l.length → vtx l i ≠ vtx l (i + 1)
  fold : ∀ i, i < l.length → onP (vtx l i) (vtx l (i + 1)) (vtx l (i + 1 + 1)) = false ∧ onP (vtx l (i + 1)) (vtx l (i + 1 + 1)) (vtx l i) = false
  hit : ∀ i k, i + 2 ≤ k → k < l.length → ((k + 1) % l.length ≠ i) → meetP (vtx l i) (vtx l (i + 1)) (vtx l k) (vtx l (k + 1)) = false
theorem simpleV (l : List Pt) : simpleB l = true ↔ SimpleV l := by
  rw [simpleB_iff]
  constructor
  · rintro ⟨h1, h2⟩
    refine ⟨fun i hi e => ?_, fun i hi => ?_, fun i k hk hl hne => ?_⟩
    · have := h1 i hi
      unfold zeroAt at this
      rw [← vtx_lt hi, vtx_nx, eqP_iff.2 e] at this; cases this
    · have := (h2 i hi).1
      unfold foldAt at this
      rw [← vtx_lt hi, vtx_nx, vtx_nx, Bool.or_eq_false_iff] at this
      exact this
    · have := (h2 i (by omega)).2 k hl hk
      unfold hitAt at this
      rw [← vtx_lt hl, ← vtx_lt (show i < l.length by omega), vtx_nx, vtx_nx, Bool.and_eq_false_iff] at this
      rcases this with q | q
      · simp at q; exact absurd q hne
      · exact q
  · intro h
    refine ⟨fun i hi => ?_, fun i hi => ⟨?_, fun k hl hk => ?_⟩⟩
    · unfold zeroAt
      rw [← vtx_lt hi, vtx_nx]
      exact eqP_false (h.ne i hi)
    · unfold foldAt
      rw [← vtx_lt hi, vtx_nx, vtx_nx, (h.fold i hi).1, (h.fold i hi).2]; rfl
    · unfold hitAt
      rw [← vtx_lt hl, ← vtx_lt hi, vtx_nx, vtx_nx]
      by_cases e : (k + 1) % l.length = i
      · simp [e]
      · rw [h.hit i k hk hl e]; simp

theorem crossP_moved (a b c v : Pt) : crossP (addP a v) (addP b v) (addP c v) = crossP a b c := by unfold crossP cross addP; grind
theorem inB_moved (p a b v : Int) : inB (p + v) (mn (a + v) (b + v)) (mx (a + v) (b + v)) = inB p (mn a b) (mx a b) := by
  rw [Bool.eq_iff_iff, inB_true, inB_true]
  unfold mn mx
  split <;> split <;> split <;> split <;> omega
theorem onP_moved (a b p v : Pt) : onP (addP a v) (addP b v) (addP p v) = onP a b p := by
  have c := crossP_moved a b p v
  unfold crossP at c
  unfold onP onB
  rw [c]
  unfold addP
  simp only
  rw [inB_moved, inB_moved]
theorem meetP_moved (a b c d v : Pt) : meetP (addP a v) (addP b v) (addP c v) (addP d v) = meetP a b c d := by
  have o : ∀ a b c : Pt, onB (addP a v).1 (addP a v).2 (addP b v).1 (addP b v).2 (addP c v).1 (addP c v).2 = onB a.1 a.2 b.1 b.2 c.1 c.2 := fun a b c => onP_moved a b c v
  have k : ∀ a b c : Pt, cross (addP a v).1 (addP a v).2 (addP b v).1 (addP b v).2 (addP c v).1 (addP c v).2 = cross a.1 a.2 b.1 b.2 c.1 c.2 := fun a b c => crossP_moved a b c v
  unfold meetP meetB
  rw [o, o, o, o, k, k, k, k]
theorem mn_comm (a b : Int) : mn a b = mn b a := by unfold mn; split <;> split <;> omega
theorem mx_comm (a b : Int) : mx a b = mx b a := by unfold mx; split <;> split <;> omega
theorem onP_turn (a b p : Pt) : onP b a p = onP a b p := by
  unfold onP onB
  rw [mn_comm b.1, mx_comm b.1, mn_comm b.2, mx_comm b.2]
  have e : cross b.1 b.2 a.1 a.2 p.1 p.2 = - cross a.1 a.2 b.1 b.2 p.1 p.2 := by unfold cross; grind
  rw [e]
  congr 2
  rw [Bool.eq_iff_iff, beq_iff_eq, beq_iff_eq]; omega
theorem sgn_neg (x : Int) : sgn (-x) = - sgn x := by
  unfold sgn
  split <;> split <;> (try split) <;> (try split) <;> omega
theorem meetP_turn1 (a b c d : Pt) : meetP b a c d = meetP a b c d := by
  have o : ∀ x : Pt, onB b.1 b.2 a.1 a.2 x.1 x.2 = onB a.1 a.2 b.1 b.2 x.1 x.2 := fun x => onP_turn a b x
  have k : ∀ x : Pt, cross b.1 b.2 a.1 a.2 x.1 x.2 = - cross a.1 a.2 b.1 b.2 x.1 x.2 := fun x => by unfold cross; grind
  unfold meetP meetB
  rw [o, o, k, k, sgn_neg, sgn_neg, Int.neg_mul_neg, Int.mul_comm (sgn (cross c.1 c.2 d.1 d.2 b.1 b.2))]
  congr 1
  generalize onB c.1 c.2 d.1 d.2 b.1 b.2 = x
  generalize onB c.1 c.2 d.1 d.2 a.1 a.2 = y
  cases x <;> cases y <;> simp
theorem meetP_turn (a b c d : Pt) : meetP b a d c = meetP a b c d := by
  rw [meetP_turn1, meetP_comm, meetP_turn1, meetP_comm]

theorem simple_moved {l : List Pt} (v : Pt) (h0 : 0 < l.length) (h : simpleB l = true) : simpleB (movedL l v) = true := by
  rw [simpleV] at *
  have e := vtx_movedL l v
  refine ⟨fun i hi => ?_, fun i hi => ?_, fun i k hk hl hne => ?_⟩
  · rw [movedL_length] at hi
    rw [e _ h0, e _ h0]
    intro q
    refine h.ne i hi ?_
    unfold addP at q
    simp only [Prod.mk.injEq] at q
    exact Prod.ext (by omega) (by omega)
  · rw [movedL_length] at hi
    rw [e _ h0, e _ h0, e _ h0, onP_moved, onP_moved]
    exact h.fold i hi
  · rw [movedL_length] at hl hne
    rw [e _ h0, e _ h0, e _ h0, e _ h0, meetP_moved]
    exact h.hit i k hk hl hne

theorem simple_rev {l : List Pt} (h3 : 3 ≤ l.length) (h : simpleB l = true) : simpleB l.reverse = true := by
  rw [simpleV] at *
  have e := fun i hi => vtx_rev l i hi (by omega)
  -- any corner's number, by its remainder
  have vm : ∀ x y, x % l.length = y % l.length → vtx l x = vtx l y := fun x y q => by rw [← vtx_mod l x, q, vtx_mod]
  have vm1 : ∀ x y, x % l.length = y % l.length → vtx l (x + 1) = vtx l (y + 1) := fun x y q => by rw [← vtx_mod1 l x, q, vtx_mod1]
  have vm2 : ∀ x y, x % l.length = y % l.length → vtx l (x + 1 + 1) = vtx l (y + 1 + 1) := fun x y q => by
    have q2 : (x + 1) % l.length = (y + 1) % l.length := by rw [Nat.add_mod, q, ← Nat.add_mod]
    exact vm1 _ _ q2
  refine ⟨fun i hi => ?_, fun i hi => ?_, fun i k hk hl hne => ?_⟩
  · rw [List.length_reverse] at hi
    rw [e i (by omega), e (i + 1) (by omega), show 2 * l.length - 1 - i = (2 * l.length - 1 - (i + 1)) + 1 by omega]
    have q := Nat.mod_mod (2 * l.length - 1 - (i + 1)) l.length
    have n := h.ne ((2 * l.length - 1 - (i + 1)) % l.length) (Nat.mod_lt _ (by omega))
    rw [vm _ _ q, vm1 _ _ q] at n
    exact n.symm
  · rw [List.length_reverse] at hi
    rw [e i (by omega), e (i + 1) (by omega), e (i + 1 + 1) (by omega), show 2 * l.length - 1 - i = (2 * l.length - 1 - (i + 1 + 1)) + 1 + 1 by omega, show 2 * l.length - 1 - (i + 1) = (2 * l.length - 1 - (i + 1 + 1)) + 1 by omega]
    have q := Nat.mod_mod (2 * l.length - 1 - (i + 1 + 1)) l.length
    have n := h.fold ((2 * l.length - 1 - (i + 1 + 1)) % l.length) (Nat.mod_lt _ (by omega))
    rw [vm _ _ q, vm1 _ _ q, vm2 _ _ q] at n
    exact ⟨(onP_turn _ _ _).trans n.2, (onP_turn _ _ _).trans n.1⟩
  · rw [List.length_reverse] at hl hne
    rw [e i (by omega), e (i + 1) (by omega), e k (by omega), e (k + 1) (by omega), show 2 * l.length - 1 - i = (2 * l.length - 1 - (i + 1)) + 1 by omega, show 2 * l.length - 1 - k = (2 * l.length - 1 - (k + 1)) + 1 by omega, meetP_turn, meetP_comm]
    have q1 : (2 * l.length - 1 - (i + 1)) % l.length = (l.length - 2 - i) % l.length := by
      rw [show 2 * l.length - 1 - (i + 1) = (l.length - 2 - i) + l.length by omega, Nat.add_mod_right]
    rw [vm _ _ q1, vm1 _ _ q1]
    by_cases g : k = l.length - 1
    · have q2 : (2 * l.length - 1 - (k + 1)) % l.length = (l.length - 1) % l.length := by
        rw [show 2 * l.length - 1 - (k + 1) = l.length - 1 by omega]
      rw [vm _ _ q2, vm1 _ _ q2, meetP_comm]
      have k1 : (k + 1) % l.length = 0 := by rw [g, show l.length - 1 + 1 = l.length by omega, Nat.mod_self]
      refine h.hit _ _ (by omega) (by omega) ?_
      rw [show l.length - 1 + 1 = l.length by omega, Nat.mod_self]
      omega
    · have q2 : (2 * l.length - 1 - (k + 1)) % l.length = (l.length - 2 - k) % l.length := by
        rw [show 2 * l.length - 1 - (k + 1) = (l.length - 2 - k) + l.length by omega, Nat.add_mod_right]
      rw [vm _ _ q2, vm1 _ _ q2]
      refine h.hit _ _ (by omega) (by omega) ?_
      rw [Nat.mod_eq_of_lt (by omega)]
      omega

end Go.Proofs.Ytlmdmgbhfoehgaa

/- Package shape's Lattice: the points on the edges, and Pick's formula. -/
namespace Go.Proofs.Ytlmdmgbhfoehgaa
open Go.RowKit Go.Sort
attribute [local go_sem ↓] run_min_mn run_max_mx Go.wp_at_zero Go.wp_at_succ

theorem tmod_nat (x y : Nat) : Int.tmod (x : Int) (y : Int) = ((x % y : Nat) : Int) := rfl

set_option maxHeartbeats 400000 in
theorem divisor_any (a b : Nat) (w : World) (ha : a ≤ 1000000) (hb : b ≤ 1000000) :
    Calls Try.prog 73 #[.int .i64 a, .int .i64 b] w fun e w' => e = .returned (.int .i64 (Nat.gcd a b)) ∧ Below w.heap.size w w' := by
  go_enter Try.func73, Try.ntmps73
  go_wp2
  go_loopw [0, 1] (fun p q wr => ∃ x y : Nat, p = .int .i64 x ∧ q = .int .i64 y ∧ Nat.gcd x y = Nat.gcd a b ∧ x ≤ 1000000 ∧ y ≤ 1000000 ∧ Below w.heap.size w wr) (fun _ q _ => (intOf q).toNat)
  case atStart => exact ⟨a, b, rfl, rfl, rfl, ha, hb, Below.refl _ _⟩
  case round =>
    obtain ⟨x, y, rfl, rfl, hg, hx, hy, hbw⟩ := hrel
    have HG := Lib.hid hg
    clear hg ha hb
    by_cases h0 : 0 < y
    · have ht := tmod_nat x y
      have hlt : x % y < y := Nat.mod_lt _ h0
      have hne : ((y : Int) == 0) = false := by simp; omega
      generalize hr : x % y = r at ht hlt
      have HR := Lib.hid hr
      clear hr
      go_wp2_with fail
      refine wp_region_quiet_below (by kernel_rfl) (by kernel_rfl) ?_
      repeat (go_big_quiet_step (fail))
      refine wpQuiet_nil ?_
      intro _ hw'
      obtain ⟨⟨dq, osq⟩, hw''⟩ := hw'
      subst hw''
      go_wp2_with fail
      go_roundw
      case rel => exact ⟨y, r, rfl, rfl, by rw [← HG.out, ← HR.out, Nat.gcd_comm x y, Nat.gcd_rec y x, Nat.gcd_comm], hy, by omega, hbw.trans ((below_regrown wr dq osq).mono hbw.size)⟩
      case measure => simp [intOf]; omega
    · obtain rfl : y = 0 := by omega
      go_wp2
      go_ret
      exact ⟨ret_int (by rw [← HG.out]; simp), hbw⟩

theorem mx_abs (x : Int) : mx x (-x) = (x.natAbs : Int) := by unfold mx; split <;> omega
theorem absolute_any (x : Int) (w : World) (hx : -1000000000000 ≤ x ∧ x ≤ 1000000000000) :
    Calls Try.prog 50 #[.int .i64 x] w fun e w' => e = .returned (.int .i64 (x.natAbs : Nat)) ∧ Below w.heap.size w w' := by
  have hw : IntKind.i64.wrap (-x) = -x := by rw [IntKind.wrap_i64]; omega
  have H := Lib.hid (mx_abs x)
  go_enter Try.func50, Try.ntmps50
  go_wp2
  go_ret
  exact ⟨ret_int H.out, Below.refl _ _⟩

theorem gcd_le_add (a b : Nat) : Nat.gcd a b ≤ a + b := by
  rcases Nat.eq_zero_or_pos a with h | h
  · subst h; simp
  · have := Nat.gcd_le_left b h; omega
theorem gd_bd {l : List Pt} (hok : l.all okP = true) (i : Nat) : 0 ≤ gd l i ∧ gd l i ≤ 40000 := by
  have a := okP_bd (vtx_ok hok i)
  have b := okP_bd (vtx_ok hok (i + 1))
  unfold gd gcdP
  have := gcd_le_add ((vtx l (i + 1)).1 - (vtx l i).1).natAbs ((vtx l (i + 1)).2 - (vtx l i).2).natAbs
  omega
theorem border_bd {l : List Pt} (hok : l.all okP = true) : ∀ k : Nat, 0 ≤ sumF (gd l) k ∧ sumF (gd l) k ≤ 40000 * (k : Int)
  | 0 => by simp [sumF]
  | k + 1 => by
    have h := border_bd hok k
    have g := gd_bd hok k
    unfold sumF
    omega

set_option maxRecDepth 100000 in
set_option maxHeartbeats 2000000 in
theorem borderPoints_any (b off n c : Nat) (l : List Pt) (w : World) (hl : l.length = n) (hn : 0 < n) (hn' : n ≤ 100) (h : PtsIn w b off l) (hb : b < w.heap.size) (hok : l.all okP = true) :
    Calls Try.prog 49 #[.slice (some ⟨b, off, none⟩) n c] w fun e w' => e = .returned (.int .i64 (border l)) ∧ Below w.heap.size w w' := by
  have HE : Hid (sumF (gd l) n = border l) := Lib.hid (by rw [← hl]; rfl)
  have HP := Lib.hid h
  have HL := Lib.hid hl
  have HOK := Lib.hid hok
  clear h hl hok
  go_enter Try.func49, Try.ntmps49
  go_wp2
  go_loopw [3, 9] (fun s i wr => ∃ k : Nat, k ≤ n ∧ i = .int .i64 k ∧ s = .int .i64 (sumF (gd l) k) ∧ Below w.heap.size w wr) (fun _ i _ => n - (intOf i).toNat)
  case atStart => exact ⟨0, Nat.zero_le _, rfl, rfl, Below.refl _ _⟩
  case round =>
    obtain ⟨k, hk, rfl, rfl, hbw⟩ := hrel
    by_cases hlt : k < n
    · have hB : b < wr.heap.size := Nat.lt_of_lt_of_le hb hbw.size
      have N := fun W hW => Lib.hid (edge_any b off n c l k W HL.out hn (by omega) (by omega) ((HP.out.below hbw hb).below (B := wr.heap.size) hW hB))
      have v1 : gt l (k % n) = vtx l k := by rw [← HL.out]; rfl
      have v2 : nx l k = vtx l (k + 1) := rfl
      rw [v1, v2] at N
      have ok1 := okP_bd (vtx_ok HOK.out k)
      have ok2 := okP_bd (vtx_ok HOK.out (k + 1))
      have sb := border_bd HOK.out k
      have gb := gd_bd HOK.out k
      have HS : Hid (sumF (gd l) (k + 1) = sumF (gd l) k + gd l k) := Lib.hid rfl
      have HG : Hid (gd l k = (Nat.gcd ((vtx l (k + 1)).1 - (vtx l k).1).natAbs ((vtx l (k + 1)).2 - (vtx l k).2).natAbs : Nat)) := Lib.hid rfl
      clear v1 v2
      generalize gd l k = gv at *
      generalize sumF (gd l) k = s at *
      generalize vtx l k = a at *
      generalize vtx l (k + 1) = a' at *
      obtain ⟨a1, a2⟩ := a
      obtain ⟨b1, b2⟩ := a'
      simp only at ok1 ok2
      have M1 := fun W => Lib.hid (absolute_any (b1 - a1) W (by omega))
      have M2 := fun W => Lib.hid (absolute_any (b2 - a2) W (by omega))
      have M3 := fun W => Lib.hid (divisor_any (b1 - a1).natAbs (b2 - a2).natAbs W (by omega) (by omega))
      have HG' : Hid (gv = (Nat.gcd (b1 - a1).natAbs (b2 - a2).natAbs : Nat)) := HG
      rw [← HG'.out] at M3
      have w1 : IntKind.i64.wrap (b1 - a1) = b1 - a1 := by rw [IntKind.wrap_i64]; omega
      have w2 : IntKind.i64.wrap (b2 - a2) = b2 - a2 := by rw [IntKind.wrap_i64]; omega
      have w3 : IntKind.i64.wrap (s + gv) = s + gv := by rw [IntKind.wrap_i64]; omega
      generalize (b1 - a1).natAbs = d1 at *
      generalize (b2 - a2).natAbs = d2 at *
      clear HG HG' ok1 ok2 sb gb
      go_wp2_with fail
      refine ((N _ (Below.refl _ _)).out).mono ?_
      rintro e W1 ⟨rfl, hb1⟩
      have B := boxed2 W1 a1 a2 b1 b2
      go_upto_region 6 with (fail)
      generalize (W1.alloc (bx a1 a2)).alloc (bx b1 b2) = W2 at *
      obtain ⟨P1, P2, hb2, hz2⟩ := B
      have hbr2 := hb1.trans (hb2.mono hb1.size)
      have hbw2 := hbw.trans (hbr2.mono hbw.size)
      generalize W1.heap.size = g at *
      clear hb1 hb2 hz2 N hbr2
      obtain ⟨p1, p2⟩ := P1
      obtain ⟨p3, p4⟩ := P2
      have K1 := fun d os => Lib.hid (Calls.regrown_of ((M1 (grow (redrawn W2 d) os)).out))
      have K2 := fun d os => Lib.hid (Calls.regrown_of ((M2 (grow (redrawn W2 d) os)).out))
      have K3 := fun d os => Lib.hid (Calls.regrown_of ((M3 (grow (redrawn W2 d) os)).out))
      have t1 := cell_regrown p1
      have t2 := cell_regrown p2
      have t3 := cell_regrown p3
      have t4 := cell_regrown p4
      clear p1 p2 p3 p4 M1 M2 M3
      refine wp_region_quiet_below (by kernel_rfl) (by kernel_rfl) ?_
      repeat (go_big_quiet_step (first | (with_reducible exact (K1 _ _).out) | (with_reducible exact (K2 _ _).out) | (with_reducible exact (K3 _ _).out)))
      refine wpQuiet_nil ?_
      intro _ hw'
      obtain ⟨⟨dq, osq⟩, hw''⟩ := hw'
      subst hw''
      have HBE := Lib.hid (hbw2.trans ((below_regrown W2 dq osq).mono hbw2.size))
      clear hbw2 t1 t2 t3 t4 K1 K2 K3
      go_wp2_with fail
      go_roundw
      case rel => exact ⟨k + 1, by omega, by go_num, by rw [HS.out], HBE.out⟩
      case measure => simp [intOf]; omega
    · obtain rfl : k = n := by omega
      go_wp2
      go_ret
      exact ⟨ret_int HE.out, hbw⟩

set_option maxRecDepth 100000 in
set_option maxHeartbeats 2000000 in
/-- Lattice of a simple polygon: Pick's formula. -/
theorem lattice_any (A : Option Addr) (n c : Nat) (l : List Pt) (i : Int) (w : World) (hn : l.length = n) (hx : PtsAt w A l) (hp : polyB l = true) (hs : simpleB l = true) (hi : ((area2 l).natAbs : Int) - border l + 2 = 2 * i) :
    Calls Try.prog 23 #[.slice A n c] w fun e w' => e = .returned (.tuple #[.int .i64 i, .int .i64 (border l), .int .i64 0]) ∧ Below w.heap.size w w' := by
  obtain ⟨b, off, rfl, h1, h2, h3, h4, h5⟩ := hx.poly hn hp
  have e0 : simpE l = 0 := by
    rcases simpE_cases l with h | h | h
    · rw [hp] at h; cases h.2
    · have := h.2; simp_all
    · exact h.1
  have KC := fun W hW => Lib.hid (checkSimple_any (some ⟨b, off, none⟩) n c l W hn (by omega) (fun _ => ⟨b, off, rfl, Nat.lt_of_lt_of_le h3 hW.size, h4.below (B := w.heap.size) hW h3⟩))
  rw [e0] at KC
  have KB := fun W hW => Lib.hid (borderPoints_any b off n c l W hn (by omega) (by omega) (h4.below (B := w.heap.size) hW h3) (Nat.lt_of_lt_of_le h3 hW.size) h5)
  have KA := fun W hW => Lib.hid (area2D_any b off n c l W hn (by omega) (by omega) (h4.below (B := w.heap.size) hW h3) (Nat.lt_of_lt_of_le h3 hW.size) h5)
  have ba : -(200000000 * (n : Int)) ≤ area2 l ∧ area2 l ≤ 200000000 * (n : Int) := by
    have := area2To_bd h5 n
    rw [← hn] at this ⊢; exact this
  have bb : 0 ≤ border l ∧ border l ≤ 40000 * (n : Int) := by
    have := border_bd h5 n
    rw [← hn] at this ⊢; exact this
  clear hn hx hp hs h4 h5 e0
  generalize area2 l = ar at *
  generalize border l = bo at *
  have KM := fun W => Lib.hid (absolute_any ar W (by omega))
  have hz : (ar.natAbs : Int) ≤ 100000000000 := by omega
  generalize ar.natAbs = z at *
  have w1 : IntKind.i64.wrap ((z : Int) - bo) = (z : Int) - bo := by rw [IntKind.wrap_i64]; omega
  have w2 : IntKind.i64.wrap ((z : Int) - bo + 2) = 2 * i := by rw [IntKind.wrap_i64]; omega
  have w3 : Int.tdiv (2 * i) 2 = i := by rw [Int.mul_comm]; exact Int.mul_tdiv_cancel i (by omega)
  have w4 : IntKind.i64.wrap i = i := by rw [IntKind.wrap_i64]; omega
  clear hi ba bb
  go_enter Try.func23, Try.ntmps23
  go_wp2_with fail
  refine ((KC _ (Below.refl _ _)).out).mono ?_
  rintro e W1 ⟨rfl, hb1⟩
  go_wp2_with fail
  refine ((KB _ hb1).out).mono ?_
  rintro e W2 ⟨rfl, hb2⟩
  have hbw2 := hb1.trans (hb2.mono hb1.size)
  clear hb1 hb2
  go_wp2_with fail
  refine ((KA _ hbw2).out).mono ?_
  rintro e W3 ⟨rfl, hb3⟩
  have hbw3 := hbw2.trans (hb3.mono hbw2.size)
  clear hbw2 hb3
  go_wp2_with fail
  refine ((KM _).out).mono ?_
  rintro e W4 ⟨rfl, hb4⟩
  have hbw4 := hbw3.trans (hb4.mono hbw3.size)
  clear hbw3 hb4
  go_wp2_with fail
  go_ret3
  exact ⟨rfl, hbw4⟩
end Go.Proofs.Ytlmdmgbhfoehgaa

/- What the laws of layer 4 that call Sum and Negative need: bounds of sums, areas. -/
namespace Go.Proofs.Ytlmdmgbhfoehgaa
open Go.RowKit Go.Sort

theorem ok_of_bd {L : Int} (hL : L ≤ 10000) {H : List Pt} (h : ∀ p ∈ H, (-L ≤ p.1 ∧ p.1 ≤ L) ∧ (-L ≤ p.2 ∧ p.2 ≤ L)) : H.all okP = true := List.all_eq_true.2 fun p hp => by
  have := h p hp
  unfold okP validB
  simp only [inB]
  simp
  omega
theorem bd_sums {L M : Int} {a b K : List Pt} {k0 : Pt} (ha : ∀ p ∈ a, (-L ≤ p.1 ∧ p.1 ≤ L) ∧ (-L ≤ p.2 ∧ p.2 ≤ L)) (hb : ∀ p ∈ b, (-M ≤ p.1 ∧ p.1 ≤ M) ∧ (-M ≤ p.2 ∧ p.2 ≤ M)) (h : Hull (sums a b) K k0) :
    ∀ p ∈ K, (-(L + M) ≤ p.1 ∧ p.1 ≤ L + M) ∧ (-(L + M) ≤ p.2 ∧ p.2 ≤ L + M) := fun p hp => by
  obtain ⟨x, hx, y, hy, rfl⟩ := mem_sums.1 (hull_sub h hp)
  have h1 := ha x hx
  have h2 := hb y hy
  unfold sumP
  simp only
  omega
theorem conv_polyB {a : List Pt} {a0 : Pt} (ca : Conv a a0) (hok : a.all okP = true) (hlen : a.length ≤ 32) : polyB a = true := by
  unfold polyB
  rw [Bool.and_eq_true]
  have := ca.three
  exact ⟨hok, by rw [inB_true]; omega⟩
theorem area2_bd {a : List Pt} (hok : a.all okP = true) (hlen : a.length ≤ 12) : -2400000000 ≤ area2 a ∧ area2 a ≤ 2400000000 := by
  have h := area2To_bd hok a.length
  have e : area2To a a.length = area2 a := rfl
  rw [e] at h
  omega

end Go.Proofs.Ytlmdmgbhfoehgaa

/- ShapeNoFit: the law's walk. -/
namespace Go.Proofs.Ytlmdmgbhfoehgaa
open Go.RowKit Go.Sort

theorem PtsIn.set_far {w : World} {b off : Nat} {l : List Pt} {q : Addr} {u : Value} (h : PtsIn w b off l) (hq : q.block ≠ b) : PtsIn (w.setCell q u) b off l := fun i p hp => by
  obtain ⟨h1, h2⟩ := h i p hp
  exact ⟨(World.cell?_setCell_other _ _ _ _ (fun e => hq (by rw [e]))).trans h1, (World.cell?_setCell_other _ _ _ _ (fun e => hq (by rw [e]))).trans h2⟩
theorem whereD_cases (l : List Pt) (p : Pt) : whereD l p = 0 ∨ whereD l p = 1 ∨ whereD l p = -1 := by
  unfold whereD
  split
  · exact .inl rfl
  · exact .inr (sideTo_bd l p _)

theorem tmod9 (x : Int) : -9000 ≤ x.tmod 9001 ∧ x.tmod 9001 ≤ 9000 := tmodL_bd (L := 9000) (by omega) x

/-- What the law holds against each other. -/
theorem nofit_facts {a b n K : List Pt} {a0 b0 n0 v : Pt} (ca : Conv a a0) (cb : Conv b b0) (hn : Hull (b.map negP) n n0) (cn : Conv n n0) (h : Hull (sums a n) K (sumP a0 n0)) (cK : Conv K (sumP a0 n0)) :
    (apartB a (movedL b v) = false ∧ whereD K v = 1) ∨ (apartB a (movedL b v) = true ∧ whereD K v = 0) ∨ (apartB a (movedL b v) = true ∧ whereD K v = -1) := by
  have k := overlap_inner (v := v) ca cb hn cn h cK
  cases e : apartB a (movedL b v)
  · exact .inl ⟨rfl, inner_where cK (k.1 e)⟩
  · rcases whereD_cases K v with q | q | q
    · exact .inr (.inl ⟨rfl, q⟩)
    · have := k.2 (where_inner cK q)
      rw [e] at this; cases this
    · exact .inr (.inr ⟨rfl, q⟩)

theorem apE_ok {a b : List Pt} {a0 b0 v : Pt} (ca : Conv a a0) (cb : Conv b b0) (oa : a.all okP = true) (ob : b.all okP = true) (la : a.length ≤ 32) (lb : b.length ≤ 32) (hv : (-9000 ≤ v.1 ∧ v.1 ≤ 9000) ∧ (-9000 ≤ v.2 ∧ v.2 ≤ 9000)) :
    apE a b v = 0 ∧ apX a b v = apartB a (movedL b v) := by
  have e1 : validB v.1 v.2 20000 = true := by unfold validB; simp only [inB]; simp; omega
  have e : apE a b v = 0 := by unfold apE; rw [if_pos (conv_conE ca oa la), if_pos (conv_conE cb ob lb), e1]; rfl
  exact ⟨e, by unfold apX; rw [if_pos e]⟩
theorem whereX_ok {K : List Pt} {k0 v : Pt} (cK : Conv K k0) (oK : K.all okP = true) (lK : K.length ≤ 32) (hv : (-9000 ≤ v.1 ∧ v.1 ≤ 9000) ∧ (-9000 ≤ v.2 ∧ v.2 ≤ 9000)) : whereX K v = whereD K v ∧ whereE K v = 0 := by
  have e1 : validB v.1 v.2 10000 = true := by unfold validB; simp only [inB]; simp; omega
  have e0 := hull_simpE (conv_polyB cK oK lK) (hull_convex cK.hull cK.three cK.low)
  refine ⟨?_, ?_⟩
  · unfold whereX; rw [if_pos ⟨e0, e1⟩, ← where_same]
  · unfold whereE; rw [if_pos e0, if_pos e1]

set_option maxHeartbeats 8000000 in
set_option maxRecDepth 100000 in
theorem nofit_law (hS : SortsPts) (hR : ReversesPts) (A0 : Option Addr) (n0 c0 : Nat) (xs0 : List Pt) (A1 : Option Addr) (n1 c1 : Nat) (xs1 : List Pt) (px py : Int) (w : World)
    (hn0 : xs0.length = n0) (hbig0 : n0 ≤ 9223372036854775807) (hw0 : ∀ x ∈ xs0, (-9223372036854775808 ≤ x.1 ∧ x.1 ≤ 9223372036854775807) ∧ (-9223372036854775808 ≤ x.2 ∧ x.2 ≤ 9223372036854775807)) (hx0 : PtsAt w A0 xs0)
    (hn1 : xs1.length = n1) (hbig1 : n1 ≤ 9223372036854775807) (hw1 : ∀ x ∈ xs1, (-9223372036854775808 ≤ x.1 ∧ x.1 ≤ 9223372036854775807) ∧ (-9223372036854775808 ≤ x.2 ∧ x.2 ≤ 9223372036854775807)) (hx1 : PtsAt w A1 xs1) :
    Calls Try.prog 7 #[.slice A0 n0 c0, .slice A1 n1 c1, .agg #[.int .i64 px, .int .i64 py]] w fun e w' => e = .returned (.bool true) ∧ Below w.heap.size w w' := by
  have hb0 : Below w.heap.size w (w.alloc (bx px py)) := (Below.refl _ _).alloc (Nat.le_refl _) _
  have K0 := Lib.hid (lawHull_any 4000 ⟨by omega, by omega⟩ A0 n0 c0 xs0 _ hn0 hbig0 (hx0.below hb0) hw0)
  have K1 := fun W (hW : Below w.heap.size w W) => Lib.hid (lawHull_any 4000 ⟨by omega, by omega⟩ A1 n1 c1 xs1 W hn1 hbig1 (hx1.below hW) hw1)
  have LV := fun W => Lib.hid (lives4_any W)
  have P0 : PtAt (w.alloc (bx px py)) w.heap.size px py := PtAt.new
  have F0 := fun i => (PtBlk.box w px py).frozen i
  have hz0 : (w.alloc (bx px py)).heap.size = w.heap.size + 1 := by simp
  clear hn0 hbig0 hw0 hx0 hn1 hbig1 hw1 hx1
  go_enter Try.func7, Try.ntmps7
  go_upto_region 1 with (fail)
  generalize w.alloc (bx px py) = w0 at *
  go_wp2_with fail
  refine (K0.out).mono ?_
  rintro e w1 ⟨va, a, a0, rfl, hoa, PA, hb1⟩
  clear K0
  have hbw1 := hb0.trans (hb1.mono hb0.size)
  go_wp2_with fail
  refine ((K1 _ hbw1).out).mono ?_
  rintro e w2 ⟨vb, b, b0, rfl, hob, PB, hb2⟩
  clear K1
  have ta := PA.conv.three
  have tb := PB.conv.three
  obtain ⟨ga, ca, rfl, -, hga, hla, ia⟩ := hoa.row (n := a.length) rfl (by omega)
  obtain ⟨gb, cb, rfl, -, hgb, hlb, ib⟩ := hob.row (n := b.length) rfl (by omega)
  have hs1 := hb1.size
  have hs2 := hb2.size
  replace P0 := PtAt.below hb2 (by omega) (PtAt.below hb1 (by omega) P0)
  have f1 : w2.frozen? ⟨w.heap.size, 0, none⟩ = false := ((hb2.frozen (p := ⟨w.heap.size, 0, none⟩) (by show w.heap.size < _; omega)).trans (hb1.frozen (p := ⟨w.heap.size, 0, none⟩) (by show w.heap.size < _; omega))).trans (F0 0)
  have f2 : w2.frozen? ⟨w.heap.size, 1, none⟩ = false := ((hb2.frozen (p := ⟨w.heap.size, 1, none⟩) (by show w.heap.size < _; omega)).trans (hb1.frozen (p := ⟨w.heap.size, 1, none⟩) (by show w.heap.size < _; omega))).trans (F0 1)
  clear F0
  obtain ⟨p1, p2⟩ := P0
  have ia2 := ia.below hb2 hla
  have HB2 := Lib.hid (hbw1.trans (hb2.mono hbw1.size))
  have hgw : w.heap.size < w2.heap.size := by omega
  have hne1 : w.heap.size ≠ ga := by omega
  have hne2 : w.heap.size ≠ gb := by omega
  have hla2 : ga < w2.heap.size := by omega
  clear hoa hob hb1 hb2 hbw1 hb0 hs1 hs2 hz0 hga hgb hla ia
  obtain ⟨bx1, bx2⟩ := tmod9 px
  obtain ⟨by1, by2⟩ := tmod9 py
  have r1 : IntKind.i64.wrap (px.tmod 9001) = px.tmod 9001 := by rw [IntKind.wrap_i64]; omega
  have r2 : IntKind.i64.wrap (py.tmod 9001) = py.tmod 9001 := by rw [IntKind.wrap_i64]; omega
  have rm : PtRoom w2 w.heap.size := ⟨by rw [p1]; rfl, by rw [p2]; rfl⟩
  have ST := PtAt.stored rm (px.tmod 9001) (py.tmod 9001)
  have IA := Lib.hid ((ia2.set_far (q := ⟨w.heap.size, 0, none⟩) (u := .int .i64 (px.tmod 9001)) hne1).set_far (q := ⟨w.heap.size, 1, none⟩) (u := .int .i64 (py.tmod 9001)) hne1)
  have IB := Lib.hid ((ib.set_far (q := ⟨w.heap.size, 0, none⟩) (u := .int .i64 (px.tmod 9001)) hne2).set_far (q := ⟨w.heap.size, 1, none⟩) (u := .int .i64 (py.tmod 9001)) hne2)
  have HB3 : Hid (Below w.heap.size w ((w2.setCell ⟨w.heap.size, 0, none⟩ (.int .i64 (px.tmod 9001))).setCell ⟨w.heap.size, 1, none⟩ (.int .i64 (py.tmod 9001)))) := Lib.hid ((HB2.out.setCell (by simp) _).setCell (by simp) _)
  have hz3 : ((w2.setCell ⟨w.heap.size, 0, none⟩ (.int .i64 (px.tmod 9001))).setCell ⟨w.heap.size, 1, none⟩ (.int .i64 (py.tmod 9001))).heap.size = w2.heap.size := by simp
  have h9 : IntKind.i64.wrap 9001 = 9001 := by decide
  go_upto_region 3 with (fail)
  generalize ((w2.setCell ⟨w.heap.size, 0, none⟩ (.int .i64 (px.tmod 9001))).setCell ⟨w.heap.size, 1, none⟩ (.int .i64 (py.tmod 9001))) = w3 at *
  generalize px.tmod 9001 = vx at *
  generalize py.tmod 9001 = vy at *
  rw [← hz3] at hgw hla2 hlb
  have Ha : Hid (PtsAt w3 (some ⟨ga, 0, none⟩) a) := Lib.hid fun _ => ⟨ga, 0, rfl, hla2, IA.out⟩
  have Hb : Hid (PtsAt w3 (some ⟨gb, 0, none⟩) b) := Lib.hid fun _ => ⟨gb, 0, rfl, hlb, IB.out⟩
  have HP := Lib.hid ST
  clear p1 p2 rm ST IA IB HB2 hz3 hne1 hne2 hla2 hlb ia2 ib r1 r2 f1 f2
  have la := PA.len
  have lb := PB.len
  have oa := ok_of_bd (by omega) PA.bd
  have ob := ok_of_bd (by omega) PB.bd
  have hv : (-9000 ≤ (vx, vy).1 ∧ (vx, vy).1 ≤ 9000) ∧ (-9000 ≤ (vx, vy).2 ∧ (vx, vy).2 ≤ 9000) := ⟨⟨bx1, bx2⟩, by1, by2⟩
  have hv' : (-9000 ≤ (negP (vx, vy)).1 ∧ (negP (vx, vy)).1 ≤ 9000) ∧ (-9000 ≤ (negP (vx, vy)).2 ∧ (negP (vx, vy)).2 ≤ 9000) := by unfold negP; simp only; omega
  obtain ⟨ea1, ea2⟩ := apE_ok PA.conv PB.conv oa ob (by omega) (by omega) hv
  obtain ⟨eb1, eb2⟩ := apE_ok PB.conv PA.conv ob oa (by omega) (by omega) hv'
  rw [apart_back PA.conv PB.conv] at eb2
  have KN := fun W h => Lib.hid (negX_any hS hR (some ⟨gb, 0, none⟩) b.length cb b b0 W rfl (by omega) h ob PB.conv)
  have KA := fun W h h' => Lib.hid (apartX_any (some ⟨ga, 0, none⟩) a.length ca (some ⟨gb, 0, none⟩) b.length cb a b (vx, vy) W rfl (by omega) h rfl (by omega) h')
  have KO := fun W h h' => Lib.hid (apartX_any (some ⟨gb, 0, none⟩) b.length cb (some ⟨ga, 0, none⟩) a.length ca b a (negP (vx, vy)) W rfl (by omega) h rfl (by omega) h')
  rw [ea1, ea2] at KA
  rw [eb1, eb2] at KO
  have KO' : ∀ W, PtsAt W (some ⟨gb, 0, none⟩) b → PtsAt W (some ⟨ga, 0, none⟩) a → Hid (Calls Try.prog 25 #[.slice (some ⟨gb, 0, none⟩) b.length cb, .slice (some ⟨ga, 0, none⟩) a.length ca, .agg #[.int .i64 (-vx), .int .i64 (-vy)]] W fun e w' => e = .returned (.tuple #[.bool (apartB a (movedL b (vx, vy))), .int .i64 0]) ∧ Below W.heap.size W w') := KO
  have KS := fun (n K : List Pt) (n0 : Pt) (g : Option Addr) k W (l1 : n.length ≤ 12) (on : n.all okP = true) (cn : Conv n n0) (hK : Hull (sums a n) K (sumP a0 n0)) (cK : Conv K (sumP a0 n0)) h h' => Lib.hid (sumX_any (some ⟨ga, 0, none⟩) a.length ca g n.length k a n K a0 n0 W rfl rfl (by omega) (by omega) h h' oa on PA.conv cn hK cK)
  have KW := fun (K : List Pt) g k W (lK : K.length ≤ 24) h => Lib.hid (whereX_any g K.length k K (vx, vy) W rfl (by omega) h)
  have HPA := Lib.hid PA
  have HPB := Lib.hid PB
  have HV := Lib.hid hv
  clear KO PA PB ea1 ea2 eb1 eb2 oa ob hv hv'
  -- Negative
  go_wp2_with fail
  refine ((KN _ Hb.out).out).mono ?_
  rintro e w4 ⟨s, v, hp, hs, rfl, ho, hb⟩
  have HB4 := Lib.hid (HB3.out.trans (hb.mono HB3.out.size))
  replace Ha := Lib.hid (Ha.out.below hb)
  replace Hb := Lib.hid (Hb.out.below hb)
  replace HP := Lib.hid (PtAt.below hb hgw HP.out)
  replace hgw : w.heap.size < w4.heap.size := Nat.lt_of_lt_of_le hgw hb.size
  obtain ⟨z0, hN, cN, lN⟩ := neg_conv HPB.out.conv hp hs
  have bN : ∀ p ∈ hullL s, (-4000 ≤ p.1 ∧ p.1 ≤ 4000) ∧ (-4000 ≤ p.2 ∧ p.2 ≤ 4000) := fun p hp => by
    obtain ⟨q, hq, rfl⟩ := List.mem_map.1 (hull_sub hN hp)
    have := HPB.out.bd q hq
    unfold negP
    simp only
    omega
  clear hb HB3 hp hs KN
  generalize hullL s = M at *
  obtain ⟨K, hK, cK⟩ := conv_sums HPA.out.conv cN
  have oN := ok_of_bd (by omega) bN
  have oK := ok_of_bd (by omega) (bd_sums HPA.out.bd bN hK)
  have lK : K.length ≤ 24 := by have := sum_len HPA.out.conv cN hK cK; omega
  obtain ⟨ew1, ew2⟩ := whereX_ok (v := (vx, vy)) cK oK (by omega) HV.out
  have KW1 := fun g k W h => KW K g k W lK h
  rw [ew1, ew2] at KW1
  have KS1 := fun g k W h h' => KS M K z0 g k W (by omega) oN cN hK cK h h'
  have CASES := Lib.hid (nofit_facts (v := (vx, vy)) HPA.out.conv HPB.out.conv hN cN hK cK)
  obtain ⟨g1, k1, rfl, -, at1⟩ := ho.slice_n (n := M.length) rfl
  have H1 := Lib.hid at1
  clear ho at1 KW KS oN oK ew1 ew2 hN cN hK cK bN HPA HPB HV
  generalize apartB a (movedL b (vx, vy)) = r at *
  generalize whereD K (vx, vy) = z at *
  -- Sum
  go_wp2_with fail
  refine ((KS1 _ _ _ Ha.out H1.out).out).mono ?_
  rintro e w5 ⟨v, rfl, ho, hb⟩
  have HB5 := Lib.hid (HB4.out.trans (hb.mono HB4.out.size))
  replace Ha := Lib.hid (Ha.out.below hb)
  replace Hb := Lib.hid (Hb.out.below hb)
  replace HP := Lib.hid (PtAt.below hb hgw HP.out)
  replace hgw : w.heap.size < w5.heap.size := Nat.lt_of_lt_of_le hgw hb.size
  obtain ⟨g2, k2, rfl, -, at2⟩ := ho.slice_n (n := K.length) rfl
  have H2 := Lib.hid at2
  obtain ⟨p1, p2⟩ := HP.out
  clear ho at2 hb HB4 KS1 H1
  -- Apart
  go_wp2_with fail
  refine ((KA _ Ha.out Hb.out).out).mono ?_
  rintro e w6 ⟨rfl, hb⟩
  have HB6 := Lib.hid (HB5.out.trans (hb.mono HB5.out.size))
  replace Ha := Lib.hid (Ha.out.below hb)
  replace Hb := Lib.hid (Hb.out.below hb)
  replace H2 := Lib.hid (H2.out.below hb)
  replace HP := Lib.hid (PtAt.below hb hgw HP.out)
  replace hgw : w.heap.size < w6.heap.size := Nat.lt_of_lt_of_le hgw hb.size
  clear hb HB5 KA p1 p2
  obtain ⟨p1, p2⟩ := HP.out
  -- Where
  go_wp2_with fail
  refine ((KW1 _ _ _ H2.out).out).mono ?_
  rintro e w7 ⟨rfl, hb⟩
  have HB7 := Lib.hid (HB6.out.trans (hb.mono HB6.out.size))
  replace Ha := Lib.hid (Ha.out.below hb)
  replace Hb := Lib.hid (Hb.out.below hb)
  replace HP := Lib.hid (PtAt.below hb hgw HP.out)
  replace hgw : w.heap.size < w7.heap.size := Nat.lt_of_lt_of_le hgw hb.size
  clear hb HB6 KW1 p1 p2 H2
  obtain ⟨p1, p2⟩ := HP.out
  have q1 : IntKind.i64.wrap (-vx) = -vx := by rw [IntKind.wrap_i64]; omega
  have q2 : IntKind.i64.wrap (-vy) = -vy := by rw [IntKind.wrap_i64]; omega
  -- the other way round
  go_wp2_with fail
  refine ((KO' _ Hb.out Ha.out).out).mono ?_
  rintro e w8 ⟨rfl, hb⟩
  have HB8 := Lib.hid (HB7.out.trans (hb.mono HB7.out.size))
  clear hb HB7 KO' p1 p2 Ha Hb HP q1 q2
  rcases CASES.out with ⟨rfl, rfl⟩ | ⟨rfl, rfl⟩ | ⟨rfl, rfl⟩
  all_goals
    go_wp2_with fail
    refine ((LV _).out).mono ?_
    rintro e w9 ⟨rfl, hb⟩
    have HB9 := Lib.hid (HB8.out.trans (hb.mono HB8.out.size))
    go_wp2_with fail
    go_ret
    exact ⟨rfl, HB9.out⟩
end Go.Proofs.Ytlmdmgbhfoehgaa

/- ShapePick: the law's walk. -/
namespace Go.Proofs.Ytlmdmgbhfoehgaa
open Go.RowKit Go.Sort
attribute [local go_sem ↓] run_max_mx

theorem tmod6 (x : Int) : -6000 ≤ x.tmod 6001 ∧ x.tmod 6001 ≤ 6000 := tmodL_bd (L := 6000) (by omega) x

/-- What the law asks of a simple polygon, and of the same one moved and read the other way round. -/
structure PickOk (l : List Pt) : Prop where
  lo : 3 ≤ l.length
  hi : l.length ≤ 12
  bd : ∀ p ∈ l, (-4000 ≤ p.1 ∧ p.1 ≤ 4000) ∧ (-4000 ≤ p.2 ∧ p.2 ≤ 4000)
  simp_ : simpleB l = true
theorem PickOk.ok {l : List Pt} (h : PickOk l) : l.all okP = true := ok_of_bd (by omega) h.bd
theorem PickOk.poly {l : List Pt} (h : PickOk l) : polyB l = true := by
  unfold polyB
  rw [Bool.and_eq_true]
  exact ⟨h.ok, by rw [inB_true]; have := h.lo; have := h.hi; omega⟩
theorem PickOk.half {l : List Pt} : ∃ i, ((area2 l).natAbs : Int) - border l + 2 = 2 * i := by
  have := pick_par l
  exact ⟨(((area2 l).natAbs : Int) - border l + 2) / 2, by omega⟩
theorem PickOk.back {l : List Pt} (h : PickOk l) {v : Pt} (hv : (-6000 ≤ v.1 ∧ v.1 ≤ 6000) ∧ (-6000 ≤ v.2 ∧ v.2 ≤ 6000)) :
    polyB (movedL l v).reverse = true ∧ simpleB (movedL l v).reverse = true ∧ area2 (movedL l v).reverse = - area2 l ∧ border (movedL l v).reverse = border l := by
  have lo := h.lo
  have hi := h.hi
  have h0 : 0 < l.length := by omega
  have hl : (movedL l v).length = l.length := movedL_length l v
  refine ⟨?_, simple_rev (by rw [hl]; exact lo) (simple_moved v h0 h.simp_), by rw [area2_rev _ (by rw [hl]; exact h0), area2_moved l v h0], by rw [border_rev _ (by rw [hl]; exact h0), border_moved l v h0]⟩
  unfold polyB
  rw [Bool.and_eq_true]
  refine ⟨ok_of_bd (L := 10000) (by omega) fun p hp => ?_, by rw [inB_true, List.length_reverse, hl]; omega⟩
  obtain ⟨q, hq, rfl⟩ := List.mem_map.1 (List.mem_reverse.1 hp)
  have := h.bd q hq
  unfold addP
  simp only
  omega

set_option maxHeartbeats 16000000 in
set_option maxRecDepth 100000 in
theorem pick_law (A0 : Option Addr) (n0 c0 : Nat) (xs0 : List Pt) (px py : Int) (w : World)
    (hn0 : xs0.length = n0) (hbig0 : n0 ≤ 9223372036854775807) (hw0 : ∀ x ∈ xs0, (-9223372036854775808 ≤ x.1 ∧ x.1 ≤ 9223372036854775807) ∧ (-9223372036854775808 ≤ x.2 ∧ x.2 ≤ 9223372036854775807)) (hx0 : PtsAt w A0 xs0) :
    Calls Try.prog 5 #[.slice A0 n0 c0, .agg #[.int .i64 px, .int .i64 py]] w fun e w' => e = .returned (.bool true) ∧ Below w.heap.size w w' := by
  have hb0 : Below w.heap.size w (w.alloc (bx px py)) := (Below.refl _ _).alloc (Nat.le_refl _) _
  have K0 := Lib.hid (star_any 4000 ⟨by omega, by omega⟩ A0 n0 c0 xs0 _ hn0 hbig0 (hx0.below hb0) hw0)
  have K1 := fun W (hW : Below w.heap.size w W) => Lib.hid (lawHull_any 4000 ⟨by omega, by omega⟩ A0 n0 c0 xs0 W hn0 hbig0 (hx0.below hW) hw0)
  have LV := fun W => Lib.hid (lives4_any W)
  have P0 : PtAt (w.alloc (bx px py)) w.heap.size px py := PtAt.new
  have F0 := fun i => (PtBlk.box w px py).frozen i
  have hz0 : (w.alloc (bx px py)).heap.size = w.heap.size + 1 := by simp
  clear hn0 hbig0 hw0 hx0
  go_enter Try.func5, Try.ntmps5
  go_upto_region 1 with (fail)
  generalize w.alloc (bx px py) = w0 at *
  go_wp2_with fail
  refine (K0.out).mono ?_
  rintro e w1 ⟨va, H, rfl, hoa, lo1, hi1, bd1, hb1⟩
  clear K0
  have hbw1 := hb0.trans (hb1.mono hb0.size)
  obtain ⟨ga, ca, rfl, -, hga, hla, ia⟩ := hoa.row (n := H.length) rfl (by omega)
  have KS := Lib.hid (simple_any ga 0 H.length ca H w1 rfl (by omega) (by omega) ia hla (ok_of_bd (by omega) bd1))
  go_wp2_with fail
  refine (KS.out).mono ?_
  rintro e w2 ⟨rfl, hb2⟩
  have hs1 := hb1.size
  have hs2 := hb2.size
  have hbw2 := hbw1.trans (hb2.mono hbw1.size)
  have P2 := PtAt.below hb2 (by omega) (PtAt.below hb1 (by omega) P0)
  have f1 : w2.frozen? ⟨w.heap.size, 0, none⟩ = false := ((hb2.frozen (p := ⟨w.heap.size, 0, none⟩) (by show w.heap.size < _; omega)).trans (hb1.frozen (p := ⟨w.heap.size, 0, none⟩) (by show w.heap.size < _; omega))).trans (F0 0)
  have f2 : w2.frozen? ⟨w.heap.size, 1, none⟩ = false := ((hb2.frozen (p := ⟨w.heap.size, 1, none⟩) (by show w.heap.size < _; omega)).trans (hb1.frozen (p := ⟨w.heap.size, 1, none⟩) (by show w.heap.size < _; omega))).trans (F0 1)
  have ia2 := ia.below hb2 hla
  have hgw : w.heap.size < w2.heap.size := by omega
  clear KS hoa hb1 hbw1 ia F0 P0 hb0
  cases hsim : simpleB H
  · -- not simple: the hull instead
    go_wp2_with fail
    refine ((K1 _ hbw2).out).mono ?_
    rintro e w3 ⟨vb, l, b0, rfl, hob, PB, hb3⟩
    have tb := PB.conv.three
    obtain ⟨gl, cl, rfl, -, hgb, hgl, il⟩ := hob.row (n := l.length) rfl (by omega)
    have OK : PickOk l := ⟨tb, PB.len, PB.bd, convexB_simple (hull_convex PB.conv.hull tb PB.conv.low)⟩
    have hne : w.heap.size ≠ gl := by omega
    have hbw3 := hbw2.trans (hb3.mono hbw2.size)
    have P3 := PtAt.below hb3 hgw P2
    have f1' : w3.frozen? ⟨w.heap.size, 0, none⟩ = false := (hb3.frozen (p := ⟨w.heap.size, 0, none⟩) hgw).trans f1
    have f2' : w3.frozen? ⟨w.heap.size, 1, none⟩ = false := (hb3.frozen (p := ⟨w.heap.size, 1, none⟩) hgw).trans f2
    have hgw3 : w.heap.size < w3.heap.size := Nat.lt_of_lt_of_le hgw hb3.size
    clear hob PB hb3 hgb ia2 hga hla P2 f1 f2 K1 hb2 hbw2 tb
    have lo := OK.lo
    have hi := OK.hi
    have KA := fun W h => Lib.hid (area2X_any (some ⟨gl, 0, none⟩) l.length cl l W rfl (by omega) h)
    have ea : area2X l = area2 l := by unfold area2X; rw [OK.poly]; rfl
    have ea' : errX l = 0 := by unfold errX; rw [OK.poly]; rfl
    rw [ea, ea'] at KA
    obtain ⟨i, hi2⟩ := PickOk.half (l := l)
    have KL := fun W h => Lib.hid (lattice_any (some ⟨gl, 0, none⟩) l.length cl l i W rfl h OK.poly OK.simp_ hi2)
    have ba := area2_bd OK.ok hi
    have bb : 0 ≤ border l ∧ border l ≤ 480000 := by have h := border_bd OK.ok l.length; unfold border; omega
    obtain ⟨bx1, bx2⟩ := tmod6 px
    obtain ⟨by1, by2⟩ := tmod6 py
    obtain ⟨e1, e2, e3, e4⟩ := OK.back (v := (px.tmod 6001, py.tmod 6001)) ⟨⟨bx1, bx2⟩, by1, by2⟩
    have e5 : area2X (movedL l (px.tmod 6001, py.tmod 6001)).reverse = - area2 l := by unfold area2X; rw [e1, e3]; rfl
    have e6 : errX (movedL l (px.tmod 6001, py.tmod 6001)).reverse = 0 := by unfold errX; rw [e1]; rfl
    have hml : (movedL l (px.tmod 6001, py.tmod 6001)).length = l.length := movedL_length _ _
    have KB := fun g c W h => Lib.hid (area2X_any g l.length c (movedL l (px.tmod 6001, py.tmod 6001)).reverse W (by rw [List.length_reverse, hml]) (by omega) h)
    rw [e5, e6] at KB
    have KLB := fun g c W h => Lib.hid (lattice_any g l.length c (movedL l (px.tmod 6001, py.tmod 6001)).reverse i W (by rw [List.length_reverse, hml]) h e1 e2 (by rw [e3, e4, Int.natAbs_neg]; exact hi2))
    rw [e4] at KLB
    have KM := fun W (h : PtsIn W gl 0 l) (hg : gl < W.heap.size) => Lib.hid (refMoved_any gl 0 l.length cl l (px.tmod 6001, py.tmod 6001) W rfl (by omega) h hg (Bd.all OK.ok) (by unfold Bd; simp only; omega))
    clear e1 e2 e3 e4 e5 e6 ea ea' OK
    have HML := Lib.hid hml
    clear hml
    have IL := Lib.hid il
    clear il
    generalize hnn : l.length = n at *
    generalize area2 l = ar at *
    generalize border l = bo at *
    have hM : mx ar (-ar) = 2 * i + bo - 2 := by rw [mx_abs]; omega
    have q1 : IntKind.i64.wrap (-ar) = -ar := by rw [IntKind.wrap_i64]; omega
    have q2 : IntKind.i64.wrap (2 * i) = 2 * i := by rw [IntKind.wrap_i64]; omega
    have q3 : IntKind.i64.wrap (2 * i + bo) = 2 * i + bo := by rw [IntKind.wrap_i64]; omega
    have q4 : IntKind.i64.wrap (2 * i + bo - 2) = 2 * i + bo - 2 := by rw [IntKind.wrap_i64]; omega
    clear hi2 ba bb
    -- Area2
    go_wp2_with fail
    refine ((KA _ (fun _ => ⟨gl, 0, rfl, hgl, IL.out⟩)).out).mono ?_
    rintro e w4 ⟨rfl, hb4⟩
    have IL4 := Lib.hid (IL.out.below hb4 hgl)
    have hgl4 : gl < w4.heap.size := Nat.lt_of_lt_of_le hgl hb4.size
    have hgw4 : w.heap.size < w4.heap.size := Nat.lt_of_lt_of_le hgw3 hb4.size
    -- Lattice
    go_wp2_with fail
    refine ((KL _ (fun _ => ⟨gl, 0, rfl, hgl4, IL4.out⟩)).out).mono ?_
    rintro e w5 ⟨rfl, hb5⟩
    have hbr5 := hb4.trans (hb5.mono hb4.size)
    have IL5 := Lib.hid (IL4.out.below hb5 hgl4)
    have hgl5 : gl < w5.heap.size := Nat.lt_of_lt_of_le hgl4 hb5.size
    have hgw5 : w.heap.size < w5.heap.size := Nat.lt_of_lt_of_le hgw4 hb5.size
    obtain ⟨p1, p2⟩ := PtAt.below hbr5 hgw3 P3
    have f1 : w5.frozen? ⟨w.heap.size, 0, none⟩ = false := (hbr5.frozen (p := ⟨w.heap.size, 0, none⟩) hgw3).trans f1'
    have f2 : w5.frozen? ⟨w.heap.size, 1, none⟩ = false := (hbr5.frozen (p := ⟨w.heap.size, 1, none⟩) hgw3).trans f2'
    have HB5 := Lib.hid (hbw3.trans (hbr5.mono hbw3.size))
    clear hb4 hb5 hbr5 IL4 IL KA KL hgl hgl4 hgw4 P3 f1' f2' hbw3
    have r1 : IntKind.i64.wrap (px.tmod 6001) = px.tmod 6001 := by rw [IntKind.wrap_i64]; omega
    have r2 : IntKind.i64.wrap (py.tmod 6001) = py.tmod 6001 := by rw [IntKind.wrap_i64]; omega
    have rm : PtRoom w5 w.heap.size := ⟨by rw [p1]; rfl, by rw [p2]; rfl⟩
    have ST := PtAt.stored rm (px.tmod 6001) (py.tmod 6001)
    have IA := Lib.hid ((IL5.out.set_far (q := ⟨w.heap.size, 0, none⟩) (u := .int .i64 (px.tmod 6001)) hne).set_far (q := ⟨w.heap.size, 1, none⟩) (u := .int .i64 (py.tmod 6001)) hne)
    have HB6 : Hid (Below w.heap.size w ((w5.setCell ⟨w.heap.size, 0, none⟩ (.int .i64 (px.tmod 6001))).setCell ⟨w.heap.size, 1, none⟩ (.int .i64 (py.tmod 6001)))) := Lib.hid ((HB5.out.setCell (by simp) _).setCell (by simp) _)
    have hz6 : ((w5.setCell ⟨w.heap.size, 0, none⟩ (.int .i64 (px.tmod 6001))).setCell ⟨w.heap.size, 1, none⟩ (.int .i64 (py.tmod 6001))).heap.size = w5.heap.size := by simp
    have h9 : IntKind.i64.wrap 6001 = 6001 := by decide
    go_upto_region 7 with (fail)
    generalize ((w5.setCell ⟨w.heap.size, 0, none⟩ (.int .i64 (px.tmod 6001))).setCell ⟨w.heap.size, 1, none⟩ (.int .i64 (py.tmod 6001))) = w6 at *
    generalize px.tmod 6001 = vx at *
    generalize py.tmod 6001 = vy at *
    rw [← hz6] at hgl5 hgw5
    obtain ⟨s1, s2⟩ := ST
    clear p1 p2 f1 f2 rm hz6 IL5 HB5 r1 r2 h9 bx1 bx2 by1 by2
    -- Moved
    go_wp2_with fail
    refine ((KM _ IA.out hgl5).out).mono ?_
    rintro e w7 ⟨v7, rfl, ho7, hb7⟩
    have HB7 := Lib.hid (HB6.out.trans (hb7.mono HB6.out.size))
    have HL7 := Lib.hid HML.out
    generalize movedL l (vx, vy) = mv at *
    obtain ⟨gm, cm, rfl, hcm, hgm, hgml, im⟩ := ho7.row (n := n) HL7.out (by omega)
    have IM := Lib.hid im
    have hs7 := HB7.out.size
    clear ho7 hb7 im KM s1 s2 IA HB6 HML
    have n1 : IntKind.i64.wrap ((n : Int) - 1) = (n : Int) - 1 := by rw [IntKind.wrap_i64]; omega
    -- the other way round
    go_wp2_with fail
    go_loopw [12, 13] (fun o j wr => ∃ s : Nat, s ≤ n ∧ j = .int .i64 ((s : Int) - 1) ∧ PtsOwn wr w7.heap.size o (mv.reverse.take (n - s)) ∧ Below w7.heap.size w7 wr) (fun _ j _ => (intOf j + 1).toNat)
    case atStart => exact ⟨n, Nat.le_refl _, rfl, by rw [Nat.sub_self, List.take_zero]; exact PtsOwn.empty w7, (Below.refl _ _).alloc (Nat.le_refl _) _⟩
    case round =>
      obtain ⟨s, hs, rfl, hown, hbr⟩ := hrel
      have HO := Lib.hid hown
      have HBR := Lib.hid hbr
      have hsz := hbr.size
      clear hown
      cases s with
      | succ u =>
        have hul : u < mv.length := by rw [HL7.out]; omega
        obtain ⟨c1, c2⟩ := (IM.out.below hbr hgml) u _ (List.getElem?_eq_getElem hul)
        have HN : Hid (mv.reverse.take (n - u) = mv.reverse.take (n - (u + 1)) ++ [mv[u]]) := Lib.hid (by
          rw [show n - u = (n - (u + 1)) + 1 by omega, List.take_succ_eq_append_getElem (by rw [List.length_reverse, HL7.out]; omega)]
          congr 2
          rw [List.getElem_reverse]
          congr 1
          rw [HL7.out]; omega)
        have HTL : Hid ((mv.reverse.take (n - (u + 1))).length ≤ 100) := Lib.hid (by rw [List.length_take]; omega)
        generalize mv[u] = p at *
        generalize mv.reverse.take (n - (u + 1)) = cur at *
        obtain ⟨x, y⟩ := p
        simp only [Nat.zero_add] at c1 c2
        rw [show (((u + 1 : Nat) : Int) - 1) = (u : Int) by omega]
        have hgr : gm < wr.heap.size := Nat.lt_of_lt_of_le hgml hsz
        have hun : u < n := by omega
        have hA1 : cur.length + [(x, y)].length ≤ 100000 := by have := HTL.out; simp; omega
        have hA2 : w7.heap.size ≤ (wr.alloc (bx x y)).heap.size := by simp; omega
        clear hbr
        go_wp2_with (at_builtin; refine wpList_papp rfl (.tmp 55) (.tmp 60) rfl w7.heap.size _ cur [(x, y)] (some ⟨wr.heap.size, 0, none⟩) 1 1 rfl rfl (HO.out.alloc _) rfl (PtsAt.one wr x y) hA1 hA2 ?_; intro v8 w8 ho hg hat; have HO8 := Lib.hid ho; have HB8 := Lib.hid ((HBR.out.alloc hsz (bx x y)).grown hg hA2 (fun x hx => (HO.out.base x hx).1)); clear ho hg hat)
        go_wp2_with fail
        go_roundw
        case rel => exact ⟨u, by omega, by go_num, by rw [HN.out]; exact HO8.out, HB8.out⟩
        case measure => simp [intOf] <;> omega
      | zero =>
        have hrev : mv.reverse.take (n - 0) = mv.reverse := List.take_of_length_le (by rw [List.length_reverse, HL7.out]; omega)
        have hown := HO.out
        rw [hrev] at hown
        obtain ⟨g8, k8, rfl, -, hat8⟩ := hown.slice_n (n := n) (by rw [List.length_reverse]; exact HL7.out)
        have H8 := Lib.hid hat8
        have HB8 := Lib.hid (HB7.out.trans (hbr.mono HB7.out.size))
        have z0 : ((0 : Nat) : Int) - 1 = -1 := by omega
        rw [z0]
        generalize mv.reverse = rv at *
        clear hown hat8 HO HBR hbr hrev HB7 IM
        go_wp2_with fail
        refine ((KB _ _ _ H8.out).out).mono ?_
        rintro e w9 ⟨rfl, hb9⟩
        have HB9 := Lib.hid (HB8.out.trans (hb9.mono HB8.out.size))
        have H9 := Lib.hid (H8.out.below hb9)
        clear hb9 HB8 H8 KB
        go_wp2_with fail
        refine ((KLB _ _ _ H9.out).out).mono ?_
        rintro e w10 ⟨rfl, hb10⟩
        have HB10 := Lib.hid (HB9.out.trans (hb10.mono HB9.out.size))
        clear hb10 HB9 H9 KLB
        go_wp2_with fail
        refine ((LV _).out).mono ?_
        rintro e w11 ⟨rfl, hb11⟩
        have HB11 := Lib.hid (HB10.out.trans (hb11.mono HB10.out.size))
        go_wp2_with fail
        go_ret
        exact ⟨rfl, HB11.out⟩
  · obtain ⟨l, rfl⟩ : ∃ l, l = H := ⟨_, rfl⟩
    obtain ⟨gl, rfl⟩ : ∃ x, x = ga := ⟨_, rfl⟩
    obtain ⟨cl, rfl⟩ : ∃ x, x = ca := ⟨_, rfl⟩
    obtain ⟨w3, rfl⟩ : ∃ x : World, x = w2 := ⟨_, rfl⟩
    have OK : PickOk l := ⟨lo1, hi1, bd1, hsim⟩
    have hne : w.heap.size ≠ gl := by omega
    have hbw3 := hbw2
    have P3 := P2
    have f1' := f1
    have f2' := f2
    have hgw3 := hgw
    have hgl : gl < w3.heap.size := by omega
    have il := ia2
    clear ia2 hga hla P2 f1 f2 K1 hb2 hbw2 bd1
    have lo := OK.lo
    have hi := OK.hi
    have KA := fun W h => Lib.hid (area2X_any (some ⟨gl, 0, none⟩) l.length cl l W rfl (by omega) h)
    have ea : area2X l = area2 l := by unfold area2X; rw [OK.poly]; rfl
    have ea' : errX l = 0 := by unfold errX; rw [OK.poly]; rfl
    rw [ea, ea'] at KA
    obtain ⟨i, hi2⟩ := PickOk.half (l := l)
    have KL := fun W h => Lib.hid (lattice_any (some ⟨gl, 0, none⟩) l.length cl l i W rfl h OK.poly OK.simp_ hi2)
    have ba := area2_bd OK.ok hi
    have bb : 0 ≤ border l ∧ border l ≤ 480000 := by have h := border_bd OK.ok l.length; unfold border; omega
    obtain ⟨bx1, bx2⟩ := tmod6 px
    obtain ⟨by1, by2⟩ := tmod6 py
    obtain ⟨e1, e2, e3, e4⟩ := OK.back (v := (px.tmod 6001, py.tmod 6001)) ⟨⟨bx1, bx2⟩, by1, by2⟩
    have e5 : area2X (movedL l (px.tmod 6001, py.tmod 6001)).reverse = - area2 l := by unfold area2X; rw [e1, e3]; rfl
    have e6 : errX (movedL l (px.tmod 6001, py.tmod 6001)).reverse = 0 := by unfold errX; rw [e1]; rfl
    have hml : (movedL l (px.tmod 6001, py.tmod 6001)).length = l.length := movedL_length _ _
    have KB := fun g c W h => Lib.hid (area2X_any g l.length c (movedL l (px.tmod 6001, py.tmod 6001)).reverse W (by rw [List.length_reverse, hml]) (by omega) h)
    rw [e5, e6] at KB
    have KLB := fun g c W h => Lib.hid (lattice_any g l.length c (movedL l (px.tmod 6001, py.tmod 6001)).reverse i W (by rw [List.length_reverse, hml]) h e1 e2 (by rw [e3, e4, Int.natAbs_neg]; exact hi2))
    rw [e4] at KLB
    have KM := fun W (h : PtsIn W gl 0 l) (hg : gl < W.heap.size) => Lib.hid (refMoved_any gl 0 l.length cl l (px.tmod 6001, py.tmod 6001) W rfl (by omega) h hg (Bd.all OK.ok) (by unfold Bd; simp only; omega))
    clear e1 e2 e3 e4 e5 e6 ea ea' OK
    have HML := Lib.hid hml
    clear hml
    have IL := Lib.hid il
    clear il
    generalize hnn : l.length = n at *
    generalize area2 l = ar at *
    generalize border l = bo at *
    have hM : mx ar (-ar) = 2 * i + bo - 2 := by rw [mx_abs]; omega
    have q1 : IntKind.i64.wrap (-ar) = -ar := by rw [IntKind.wrap_i64]; omega
    have q2 : IntKind.i64.wrap (2 * i) = 2 * i := by rw [IntKind.wrap_i64]; omega
    have q3 : IntKind.i64.wrap (2 * i + bo) = 2 * i + bo := by rw [IntKind.wrap_i64]; omega
    have q4 : IntKind.i64.wrap (2 * i + bo - 2) = 2 * i + bo - 2 := by rw [IntKind.wrap_i64]; omega
    clear hi2 ba bb
    -- Area2
    go_wp2_with fail
    refine ((KA _ (fun _ => ⟨gl, 0, rfl, hgl, IL.out⟩)).out).mono ?_
    rintro e w4 ⟨rfl, hb4⟩
    have IL4 := Lib.hid (IL.out.below hb4 hgl)
    have hgl4 : gl < w4.heap.size := Nat.lt_of_lt_of_le hgl hb4.size
    have hgw4 : w.heap.size < w4.heap.size := Nat.lt_of_lt_of_le hgw3 hb4.size
    -- Lattice
    go_wp2_with fail
    refine ((KL _ (fun _ => ⟨gl, 0, rfl, hgl4, IL4.out⟩)).out).mono ?_
    rintro e w5 ⟨rfl, hb5⟩
    have hbr5 := hb4.trans (hb5.mono hb4.size)
    have IL5 := Lib.hid (IL4.out.below hb5 hgl4)
    have hgl5 : gl < w5.heap.size := Nat.lt_of_lt_of_le hgl4 hb5.size
    have hgw5 : w.heap.size < w5.heap.size := Nat.lt_of_lt_of_le hgw4 hb5.size
    obtain ⟨p1, p2⟩ := PtAt.below hbr5 hgw3 P3
    have f1 : w5.frozen? ⟨w.heap.size, 0, none⟩ = false := (hbr5.frozen (p := ⟨w.heap.size, 0, none⟩) hgw3).trans f1'
    have f2 : w5.frozen? ⟨w.heap.size, 1, none⟩ = false := (hbr5.frozen (p := ⟨w.heap.size, 1, none⟩) hgw3).trans f2'
    have HB5 := Lib.hid (hbw3.trans (hbr5.mono hbw3.size))
    clear hb4 hb5 hbr5 IL4 IL KA KL hgl hgl4 hgw4 P3 f1' f2' hbw3
    have r1 : IntKind.i64.wrap (px.tmod 6001) = px.tmod 6001 := by rw [IntKind.wrap_i64]; omega
    have r2 : IntKind.i64.wrap (py.tmod 6001) = py.tmod 6001 := by rw [IntKind.wrap_i64]; omega
    have rm : PtRoom w5 w.heap.size := ⟨by rw [p1]; rfl, by rw [p2]; rfl⟩
    have ST := PtAt.stored rm (px.tmod 6001) (py.tmod 6001)
    have IA := Lib.hid ((IL5.out.set_far (q := ⟨w.heap.size, 0, none⟩) (u := .int .i64 (px.tmod 6001)) hne).set_far (q := ⟨w.heap.size, 1, none⟩) (u := .int .i64 (py.tmod 6001)) hne)
    have HB6 : Hid (Below w.heap.size w ((w5.setCell ⟨w.heap.size, 0, none⟩ (.int .i64 (px.tmod 6001))).setCell ⟨w.heap.size, 1, none⟩ (.int .i64 (py.tmod 6001)))) := Lib.hid ((HB5.out.setCell (by simp) _).setCell (by simp) _)
    have hz6 : ((w5.setCell ⟨w.heap.size, 0, none⟩ (.int .i64 (px.tmod 6001))).setCell ⟨w.heap.size, 1, none⟩ (.int .i64 (py.tmod 6001))).heap.size = w5.heap.size := by simp
    have h9 : IntKind.i64.wrap 6001 = 6001 := by decide
    go_upto_region 7 with (fail)
    generalize ((w5.setCell ⟨w.heap.size, 0, none⟩ (.int .i64 (px.tmod 6001))).setCell ⟨w.heap.size, 1, none⟩ (.int .i64 (py.tmod 6001))) = w6 at *
    generalize px.tmod 6001 = vx at *
    generalize py.tmod 6001 = vy at *
    rw [← hz6] at hgl5 hgw5
    obtain ⟨s1, s2⟩ := ST
    clear p1 p2 f1 f2 rm hz6 IL5 HB5 r1 r2 h9 bx1 bx2 by1 by2
    -- Moved
    go_wp2_with fail
    refine ((KM _ IA.out hgl5).out).mono ?_
    rintro e w7 ⟨v7, rfl, ho7, hb7⟩
    have HB7 := Lib.hid (HB6.out.trans (hb7.mono HB6.out.size))
    have HL7 := Lib.hid HML.out
    generalize movedL l (vx, vy) = mv at *
    obtain ⟨gm, cm, rfl, hcm, hgm, hgml, im⟩ := ho7.row (n := n) HL7.out (by omega)
    have IM := Lib.hid im
    have hs7 := HB7.out.size
    clear ho7 hb7 im KM s1 s2 IA HB6 HML
    have n1 : IntKind.i64.wrap ((n : Int) - 1) = (n : Int) - 1 := by rw [IntKind.wrap_i64]; omega
    -- the other way round
    go_wp2_with fail
    go_loopw [12, 13] (fun o j wr => ∃ s : Nat, s ≤ n ∧ j = .int .i64 ((s : Int) - 1) ∧ PtsOwn wr w7.heap.size o (mv.reverse.take (n - s)) ∧ Below w7.heap.size w7 wr) (fun _ j _ => (intOf j + 1).toNat)
    case atStart => exact ⟨n, Nat.le_refl _, rfl, by rw [Nat.sub_self, List.take_zero]; exact PtsOwn.empty w7, (Below.refl _ _).alloc (Nat.le_refl _) _⟩
    case round =>
      obtain ⟨s, hs, rfl, hown, hbr⟩ := hrel
      have HO := Lib.hid hown
      have HBR := Lib.hid hbr
      have hsz := hbr.size
      clear hown
      cases s with
      | succ u =>
        have hul : u < mv.length := by rw [HL7.out]; omega
        obtain ⟨c1, c2⟩ := (IM.out.below hbr hgml) u _ (List.getElem?_eq_getElem hul)
        have HN : Hid (mv.reverse.take (n - u) = mv.reverse.take (n - (u + 1)) ++ [mv[u]]) := Lib.hid (by
          rw [show n - u = (n - (u + 1)) + 1 by omega, List.take_succ_eq_append_getElem (by rw [List.length_reverse, HL7.out]; omega)]
          congr 2
          rw [List.getElem_reverse]
          congr 1
          rw [HL7.out]; omega)
        have HTL : Hid ((mv.reverse.take (n - (u + 1))).length ≤ 100) := Lib.hid (by rw [List.length_take]; omega)
        generalize mv[u] = p at *
        generalize mv.reverse.take (n - (u + 1)) = cur at *
        obtain ⟨x, y⟩ := p
        simp only [Nat.zero_add] at c1 c2
        rw [show (((u + 1 : Nat) : Int) - 1) = (u : Int) by omega]
        have hgr : gm < wr.heap.size := Nat.lt_of_lt_of_le hgml hsz
        have hun : u < n := by omega
        have hA1 : cur.length + [(x, y)].length ≤ 100000 := by have := HTL.out; simp; omega
        have hA2 : w7.heap.size ≤ (wr.alloc (bx x y)).heap.size := by simp; omega
        clear hbr
        go_wp2_with (at_builtin; refine wpList_papp rfl (.tmp 55) (.tmp 60) rfl w7.heap.size _ cur [(x, y)] (some ⟨wr.heap.size, 0, none⟩) 1 1 rfl rfl (HO.out.alloc _) rfl (PtsAt.one wr x y) hA1 hA2 ?_; intro v8 w8 ho hg hat; have HO8 := Lib.hid ho; have HB8 := Lib.hid ((HBR.out.alloc hsz (bx x y)).grown hg hA2 (fun x hx => (HO.out.base x hx).1)); clear ho hg hat)
        go_wp2_with fail
        go_roundw
        case rel => exact ⟨u, by omega, by go_num, by rw [HN.out]; exact HO8.out, HB8.out⟩
        case measure => simp [intOf] <;> omega
      | zero =>
        have hrev : mv.reverse.take (n - 0) = mv.reverse := List.take_of_length_le (by rw [List.length_reverse, HL7.out]; omega)
        have hown := HO.out
        rw [hrev] at hown
        obtain ⟨g8, k8, rfl, -, hat8⟩ := hown.slice_n (n := n) (by rw [List.length_reverse]; exact HL7.out)
        have H8 := Lib.hid hat8
        have HB8 := Lib.hid (HB7.out.trans (hbr.mono HB7.out.size))
        have z0 : ((0 : Nat) : Int) - 1 = -1 := by omega
        rw [z0]
        generalize mv.reverse = rv at *
        clear hown hat8 HO HBR hbr hrev HB7 IM
        go_wp2_with fail
        refine ((KB _ _ _ H8.out).out).mono ?_
        rintro e w9 ⟨rfl, hb9⟩
        have HB9 := Lib.hid (HB8.out.trans (hb9.mono HB8.out.size))
        have H9 := Lib.hid (H8.out.below hb9)
        clear hb9 HB8 H8 KB
        go_wp2_with fail
        refine ((KLB _ _ _ H9.out).out).mono ?_
        rintro e w10 ⟨rfl, hb10⟩
        have HB10 := Lib.hid (HB9.out.trans (hb10.mono HB9.out.size))
        clear hb10 HB9 H9 KLB
        go_wp2_with fail
        refine ((LV _).out).mono ?_
        rintro e w11 ⟨rfl, hb11⟩
        have HB11 := Lib.hid (HB10.out.trans (hb11.mono HB10.out.size))
        go_wp2_with fail
        go_ret
        exact ⟨rfl, HB11.out⟩
end Go.Proofs.Ytlmdmgbhfoehgaa
