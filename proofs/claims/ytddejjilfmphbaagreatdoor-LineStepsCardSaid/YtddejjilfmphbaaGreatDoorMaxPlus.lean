/- Max-plus: times that may be never, sums, greatest ones, states and delays. Plain mathematics. -/
namespace Go.Proofs.YtddejjilfmphbaaGreatDoor.MP

/-- A sum: never if one is. -/
def add : Option Int → Option Int → Option Int
  | some x, some y => some (x + y)
  | _, _ => none
/-- The later one. -/
def mx : Option Int → Option Int → Option Int
  | none, b => b
  | some x, none => some x
  | some x, some y => some (if x < y then y else x)
def le : Option Int → Option Int → Prop
  | none, _ => True
  | some _, none => False
  | some x, some y => x ≤ y
theorem le_refl (a : Option Int) : le a a := by cases a <;> simp [le]
theorem le_trans {a b c : Option Int} (h : le a b) (k : le b c) : le a c := by
  cases a <;> cases b <;> cases c <;> simp_all [le]; omega
theorem le_antisymm {a b : Option Int} (h : le a b) (k : le b a) : a = b := by
  cases a <;> cases b <;> simp_all [le]; omega
theorem le_mx_left (a b : Option Int) : le a (mx a b) := by
  cases a <;> cases b <;> simp [le, mx]; split <;> omega
theorem le_mx_right (a b : Option Int) : le b (mx a b) := by
  cases a <;> cases b <;> simp [le, mx]; split <;> omega
theorem mx_le {a b c : Option Int} (h : le a c) (k : le b c) : le (mx a b) c := by
  cases a <;> cases b <;> cases c <;> simp_all [le, mx]; split <;> omega
theorem mx_or (a b : Option Int) : mx a b = a ∨ mx a b = b := by
  cases a with
  | none => exact .inr rfl
  | some x => cases b with
    | none => exact .inl rfl
    | some y =>
      by_cases h : x < y
      · exact .inr (congrArg some (if_pos h))
      · exact .inl (congrArg some (if_neg h))
theorem add_le {a b c : Option Int} (h : le b c) : le (add a b) (add a c) := by
  cases a <;> cases b <;> cases c <;> simp_all [le, add]
theorem add_comm (a b : Option Int) : add a b = add b a := by
  cases a <;> cases b <;> simp [add, Int.add_comm]
theorem add_assoc (a b c : Option Int) : add (add a b) c = add a (add b c) := by
  cases a <;> cases b <;> cases c <;> simp [add, Int.add_assoc]

/-- The latest of the first n. -/
def sup : Nat → (Nat → Option Int) → Option Int
  | 0, _ => none
  | n + 1, f => mx (sup n f) (f n)
theorem le_sup : ∀ {n i : Nat} (f : Nat → Option Int), i < n → le (f i) (sup n f)
  | n + 1, i, f, h => by
    rcases Nat.lt_or_ge i n with g | g
    · exact le_trans (le_sup f g) (le_mx_left _ _)
    · obtain rfl : i = n := by omega
      exact le_mx_right _ _
theorem sup_le : ∀ {n : Nat} {f : Nat → Option Int} {c : Option Int}, (∀ i, i < n → le (f i) c) → le (sup n f) c
  | 0, _, _, _ => trivial
  | n + 1, _, _, h => mx_le (sup_le fun i hi => h i (by omega)) (h n (by omega))
theorem sup_or : ∀ (n : Nat) (f : Nat → Option Int), sup n f = none ∨ ∃ i, i < n ∧ sup n f = f i
  | 0, _ => .inl rfl
  | n + 1, f => by
    show mx _ _ = none ∨ _
    rcases mx_or (sup n f) (f n) with h | h
    · rcases sup_or n f with g | ⟨i, hi, g⟩
      · exact .inl (h.trans g)
      · exact .inr ⟨i, by omega, h.trans g⟩
    · exact .inr ⟨n, by omega, h⟩
theorem sup_congr {n : Nat} {f g : Nat → Option Int} (h : ∀ i, i < n → f i = g i) : sup n f = sup n g :=
  le_antisymm (sup_le fun i hi => by rw [h i hi]; exact le_sup g hi) (sup_le fun i hi => by rw [← h i hi]; exact le_sup f hi)
theorem add_sup (a : Option Int) (n : Nat) (f : Nat → Option Int) : add a (sup n f) = sup n fun i => add a (f i) := by
  refine le_antisymm ?_ (sup_le fun i hi => add_le (le_sup f hi))
  rcases sup_or n f with h | ⟨i, hi, h⟩
  · rw [h]; cases a <;> exact trivial
  · rw [h]; exact le_sup (fun i => add a (f i)) hi
theorem sup_swap (n m : Nat) (f : Nat → Nat → Option Int) : (sup n fun i => sup m fun j => f i j) = sup m fun j => sup n fun i => f i j :=
  le_antisymm (sup_le fun i hi => sup_le fun j hj => le_trans (le_sup (fun i => f i j) hi) (le_sup (fun j => sup n fun i => f i j) hj))
    (sup_le fun j hj => sup_le fun i hi => le_trans (le_sup (fun j => f i j) hj) (le_sup (fun i => sup m fun j => f i j) hi))

/-- The state behind a state, the delays of two legs. -/
def ap (x : Nat → Option Int) (D : Nat → Nat → Option Int) : Nat → Option Int := fun j => sup 16 fun i => add (x i) (D i j)
def mul (D E : Nat → Nat → Option Int) : Nat → Nat → Option Int := fun i => ap (D i) E
theorem ap_ap (x : Nat → Option Int) (D E : Nat → Nat → Option Int) : ap (ap x D) E = ap x (mul D E) := by
  funext k
  show (sup 16 fun j => add (sup 16 fun i => add (x i) (D i j)) (E j k)) = sup 16 fun i => add (x i) (sup 16 fun j => add (D i j) (E j k))
  have h1 : ∀ j, j < 16 → add (sup 16 fun i => add (x i) (D i j)) (E j k) = sup 16 fun i => add (x i) (add (D i j) (E j k)) := fun j _ => by
    rw [add_comm, add_sup]
    exact sup_congr fun i _ => by rw [add_comm, add_assoc]
  rw [sup_congr h1, sup_swap]
  exact sup_congr fun i _ => (add_sup _ _ _).symm
/-- So many steps. -/
def it (x : Nat → Option Int) (D : Nat → Nat → Option Int) : Nat → (Nat → Option Int)
  | 0 => x
  | k + 1 => ap (it x D k) D
theorem it_add (x : Nat → Option Int) (D : Nat → Nat → Option Int) (a : Nat) : ∀ b, it x D (a + b) = it (it x D a) D b
  | 0 => rfl
  | b + 1 => congrArg (fun y => ap y D) (it_add x D a b)
/-- The delays of k steps. -/
def IsPow (D : Nat → Nat → Option Int) (k : Nat) (M : Nat → Nat → Option Int) : Prop := ∀ x, ap x M = it x D k
theorem isPow_one (D : Nat → Nat → Option Int) : IsPow D 1 D := fun _ => rfl
theorem IsPow.mul {D M N : Nat → Nat → Option Int} {a b : Nat} (h : IsPow D a M) (k : IsPow D b N) : IsPow D (a + b) (mul M N) := fun x => by
  rw [← ap_ap, h, k, it_add]

/-- No time is beyond b. -/
def Small (b : Int) (a : Option Int) : Prop := ∀ v, a = some v → -b ≤ v ∧ v ≤ b
theorem Small.add {b c : Int} {x y : Option Int} (h : Small b x) (k : Small c y) : Small (b + c) (add x y) := fun v hv => by
  cases x <;> cases y <;> simp [MP.add] at hv
  have := h _ rfl
  have := k _ rfl
  omega
theorem Small.sup {b : Int} {n : Nat} {f : Nat → Option Int} (h : ∀ i, i < n → Small b (f i)) : Small b (sup n f) := fun v hv => by
  rcases sup_or n f with g | ⟨i, hi, g⟩
  · rw [g] at hv; cases hv
  · exact h i hi v (g.symm.trans hv)
theorem Small.ap {b c : Int} {x : Nat → Option Int} {D : Nat → Nat → Option Int} (h : ∀ i, Small b (x i)) (k : ∀ i j, Small c (D i j)) (j : Nat) : Small (b + c) (ap x D j) :=
  Small.sup fun i _ => (h i).add (k i j)
theorem Small.mono {b c : Int} {x : Option Int} (h : Small b x) (hbc : b ≤ c) : Small c x := fun v hv => by have := h v hv; omega
theorem small_it {b c : Int} (hc : 0 ≤ c) {x : Nat → Option Int} {D : Nat → Nat → Option Int} (h : ∀ i, Small b (x i)) (k : ∀ i j, Small c (D i j)) : ∀ (n : Nat) (i : Nat), Small (b + n * c) (it x D n i)
  | 0, i => by have := h i; exact this.mono (by simp)
  | n + 1, i => by
    have := Small.ap (small_it hc h k n) k i
    exact this.mono (by rw [show ((n + 1 : Nat) : Int) = (n : Int) + 1 by omega, Int.add_mul]; omega)

/-- A number more at every time. -/
def plus (c : Int) : Option Int → Option Int
  | none => none
  | some v => some (v + c)
theorem plus_add (c : Int) (a b : Option Int) : add (plus c a) b = plus c (add a b) := by
  cases a <;> cases b <;> simp [plus, add]; omega
theorem plus_mx (c : Int) (a b : Option Int) : mx (plus c a) (plus c b) = plus c (mx a b) := by
  cases a <;> cases b <;> simp [plus, mx]
  rename_i x y
  by_cases h : x < y
  · rw [if_pos h, if_pos (by omega)]
  · rw [if_neg h, if_neg (by omega)]
theorem plus_sup (c : Int) (f : Nat → Option Int) : ∀ n, sup n (fun i => plus c (f i)) = plus c (sup n f)
  | 0 => rfl
  | n + 1 => by show mx _ _ = plus c (mx _ _); rw [plus_sup c f n, plus_mx]
theorem plus_ap (c : Int) (x : Nat → Option Int) (D : Nat → Nat → Option Int) : ap (fun i => plus c (x i)) D = fun j => plus c (ap x D j) := by
  funext j
  show (sup 16 fun i => add (plus c (x i)) (D i j)) = plus c (sup 16 fun i => add (x i) (D i j))
  rw [← plus_sup]
  exact sup_congr fun i _ => plus_add _ _ _
theorem plus_it (c : Int) (x : Nat → Option Int) (D : Nat → Nat → Option Int) : ∀ n, it (fun i => plus c (x i)) D n = fun j => plus c (it x D n j)
  | 0 => rfl
  | n + 1 => by show ap (it _ D n) D = _; rw [plus_it c x D n, plus_ap]; rfl

/-- As an int: never is the least one. -/
def enc : Option Int → Int
  | none => -9223372036854775808
  | some v => v
theorem enc_inj {b : Int} {x y : Option Int} (hb : b < 9223372036854775808) (h : Small b x) (k : Small b y) (e : enc x = enc y) : x = y := by
  cases x with
  | none => cases y with
    | none => rfl
    | some v => have := k v rfl; simp [enc] at e; omega
  | some u => cases y with
    | none => have := h u rfl; simp [enc] at e; omega
    | some v => simpa [enc] using e
theorem enc_mx {b : Int} {x y : Option Int} (hb : b < 9223372036854775808) (h : Small b x) (k : Small b y) : enc (mx x y) = if enc x < enc y then enc y else enc x := by
  cases x with
  | none => cases y with
    | none => rfl
    | some v => have := k v rfl; exact (if_pos (show (-9223372036854775808 : Int) < v by omega)).symm
  | some u => cases y with
    | none => have := h u rfl; exact (if_neg (show ¬ u < (-9223372036854775808 : Int) by omega)).symm
    | some v => rfl
end Go.Proofs.YtddejjilfmphbaaGreatDoor.MP
