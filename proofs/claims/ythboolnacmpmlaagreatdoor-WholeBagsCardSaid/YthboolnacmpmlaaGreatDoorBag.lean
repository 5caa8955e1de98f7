/- Totals that sizes make, and their least ones by remainders: plain mathematics. -/
namespace Go.Proofs.YthboolnacmpmlaaGreatDoor.Bag

/-- Totals that sizes make. -/
inductive Mk (l : List Nat) : Nat → Prop where
  | zero : Mk l 0
  | add {t s : Nat} : Mk l t → s ∈ l → Mk l (t + s)

theorem Mk.mono {l l' : List Nat} (h : ∀ s ∈ l, s ∈ l') {t : Nat} (m : Mk l t) : Mk l' t := by
  induction m with
  | zero => exact .zero
  | add _ hs ih => exact .add ih (h _ hs)
theorem Mk.plus {l : List Nat} {a b : Nat} (ha : Mk l a) (hb : Mk l b) : Mk l (a + b) := by
  induction hb with
  | zero => simpa using ha
  | add _ hs ih => rw [← Nat.add_assoc]; exact .add ih hs
theorem Mk.times {l : List Nat} {s : Nat} (hs : s ∈ l) : ∀ k : Nat, Mk l (k * s)
  | 0 => by simpa using Mk.zero
  | k + 1 => by rw [Nat.succ_mul]; exact .add (Mk.times hs k) hs
theorem Mk.mult {l : List Nat} {a : Nat} (ha : Mk l a) : ∀ k : Nat, Mk l (k * a)
  | 0 => by simpa using Mk.zero
  | k + 1 => by rw [Nat.succ_mul]; exact (Mk.mult ha k).plus ha
theorem Mk.nil {t : Nat} (m : Mk [] t) : t = 0 := by
  cases m with
  | zero => rfl
  | add _ hs => cases hs
theorem Mk.cases' {l : List Nat} {t : Nat} (m : Mk l t) : t = 0 ∨ ∃ s ∈ l, s ≤ t ∧ Mk l (t - s) := by
  cases m with
  | zero => exact .inl rfl
  | add m hs => exact .inr ⟨_, hs, by omega, by simpa using m⟩

/-- Sums of sizes, one after the other. -/
inductive Walk (l : List Nat) : List Nat → Prop where
  | nil : Walk l []
  | cons {s : Nat} {p : List Nat} : s ∈ l → Walk l p → Walk l (s :: p)

theorem Mk.walk {l : List Nat} {t : Nat} (m : Mk l t) : ∃ p : List Nat, (∀ s ∈ p, s ∈ l) ∧ p.sum = t := by
  induction m with
  | zero => exact ⟨[], by simp, rfl⟩
  | @add t s _ hs ih =>
    obtain ⟨p, hp, e⟩ := ih
    exact ⟨s :: p, by intro x hx; rcases List.mem_cons.1 hx with rfl | hx
                      · exact hs
                      · exact hp x hx, by rw [List.sum_cons, e, Nat.add_comm]⟩
theorem walk_mk {l : List Nat} : ∀ {p : List Nat}, (∀ s ∈ p, s ∈ l) → Mk l p.sum
  | [], _ => .zero
  | s :: p, h => by
    rw [List.sum_cons, Nat.add_comm]
    exact .add (walk_mk fun x hx => h x (by simp [hx])) (h s (by simp))

/-- Pigeons: more numbers below m than m: two are the same. -/
theorem pigeon : ∀ (m : Nat) (f : Nat → Nat) (n : Nat), m < n → (∀ i, i < n → f i < m) → ∃ i j, i < j ∧ j < n ∧ f i = f j
  | 0, f, n, hn, hf => absurd (hf 0 hn) (by omega)
  | m + 1, f, n, hn, hf => by
    -- the last value
    by_cases hex : ∃ i, i < n - 1 ∧ f i = f (n - 1)
    · obtain ⟨i, hi, e⟩ := hex
      exact ⟨i, n - 1, hi, by omega, e⟩
    · -- move value m onto the place of the last one's value
      let g : Nat → Nat := fun i => if f i = m then f (n - 1) else f i
      have hg : ∀ i, i < n - 1 → g i < m := by
        intro i hi
        have h1 := hf i (by omega)
        have h2 := hf (n - 1) (by omega)
        show (if f i = m then f (n - 1) else f i) < m
        split
        · rename_i e
          have : f (n - 1) ≠ m := fun e' => hex ⟨i, hi, by rw [e, e']⟩
          omega
        · omega
      obtain ⟨i, j, hij, hj, e⟩ := pigeon m g (n - 1) (by omega) hg
      have e' : (if f i = m then f (n - 1) else f i) = (if f j = m then f (n - 1) else f j) := e
      refine ⟨i, j, hij, by omega, ?_⟩
      split at e' <;> split at e'
      · omega
      · exact absurd ⟨j, by omega, e'.symm⟩ hex
      · exact absurd ⟨i, by omega, e'⟩ hex
      · exact e'

/-- A walk has the same remainder as one of fewer steps than m. -/
theorem short_walk {m : Nat} (hm : 0 < m) : ∀ (n : Nat) (p : List Nat), p.length ≤ n → ∃ q : List Nat, (∀ s ∈ q, s ∈ p) ∧ q.length < m ∧ q.sum % m = p.sum % m
  | n, p, hn => by
    by_cases h : p.length < m
    · exact ⟨p, fun _ h => h, h, rfl⟩
    · obtain ⟨i, j, hij, hj, e⟩ := pigeon m (fun i => (p.take i).sum % m) (p.length + 1) (by omega) (fun i _ => Nat.mod_lt _ hm)
      have hlen : (p.take i ++ p.drop j).length < p.length := by
        simp only [List.length_append, List.length_take, List.length_drop]; omega
      match n, hn, hlen with
      | 0, hn, hlen => omega
      | n + 1, hn, hlen =>
        obtain ⟨q, hq, hl, hs⟩ := short_walk hm n (p.take i ++ p.drop j) (by omega)
        refine ⟨q, fun s hs' => ?_, hl, ?_⟩
        · rcases List.mem_append.1 (hq s hs') with h | h
          · exact List.mem_of_mem_take h
          · exact List.mem_of_mem_drop h
        · rw [hs, List.sum_append]
          have h1 : p.sum = (p.take j).sum + (p.drop j).sum := by rw [← List.sum_append, List.take_append_drop]
          rw [h1, Nat.add_mod, e, ← Nat.add_mod]

theorem sum_le {p : List Nat} {b : Nat} (h : ∀ s ∈ p, s ≤ b) : p.sum ≤ p.length * b := by
  induction p with
  | nil => simp
  | cons s p ih =>
    rw [List.sum_cons, List.length_cons, Nat.succ_mul]
    have := h s (by simp)
    have := ih fun x hx => h x (by simp [hx])
    omega

theorem Mk.short {l : List Nat} {m b : Nat} (hm : 0 < m) (hb : ∀ s ∈ l, s ≤ b) {t : Nat} (h : Mk l t) : ∃ u, Mk l u ∧ u % m = t % m ∧ u ≤ (m - 1) * b := by
  obtain ⟨p, hp, rfl⟩ := h.walk
  obtain ⟨q, hq, hl, hs⟩ := short_walk hm p.length p (Nat.le_refl _)
  refine ⟨q.sum, walk_mk fun s h => hp s (hq s h), hs, ?_⟩
  refine Nat.le_trans (sum_le fun s h => hb s (hp s (hq s h))) (Nat.mul_le_mul_right _ (by omega))

/-- The greatest common divisor as a sum. -/
theorem bez (a b : Nat) : ∃ x y : Int, (a : Int) * x + b * y = (Nat.gcd a b : Nat) := by
  induction a, b using Nat.gcd.induction with
  | H0 b => exact ⟨0, 1, by simp⟩
  | H1 a b ha ih =>
    obtain ⟨x, y, h⟩ := ih
    refine ⟨y - (b / a : Nat) * x, x, ?_⟩
    rw [Nat.gcd_rec a b, ← h]
    have hb : (b : Int) = (b / a : Nat) * a + (b % a : Nat) := by
      rw [← Int.natCast_mul, ← Int.natCast_add, Nat.mul_comm, Nat.div_add_mod]
    have h2 : (a : Int) * (y - (b / a : Nat) * x) + b * x = a * y + (b - (b / a : Nat) * a) * x := by grind
    rw [h2]
    have : (b : Int) - (b / a : Nat) * a = (b % a : Nat) := by omega
    rw [this]
    grind

/-- .. by any m, without numbers below 0. -/
theorem bez_mod (a b : Nat) {m : Nat} (hm : 0 < m) : ∃ x y : Nat, (x * a + y * b) % m = Nat.gcd a b % m := by
  obtain ⟨x, y, h⟩ := bez a b
  refine ⟨(x % m).toNat, (y % m).toNat, ?_⟩
  have hx : (((x % m).toNat : Nat) : Int) = x % m := Int.toNat_of_nonneg (Int.emod_nonneg _ (by omega))
  have hy : (((y % m).toNat : Nat) : Int) = y % m := Int.toNat_of_nonneg (Int.emod_nonneg _ (by omega))
  have : (((x % m).toNat * a + (y % m).toNat * b : Nat) : Int) % m = ((Nat.gcd a b : Nat) : Int) % m := by
    rw [← h, Int.natCast_add, Int.natCast_mul, Int.natCast_mul, hx, hy]
    rw [Int.add_emod, Int.mul_emod, Int.emod_emod_of_dvd _ (Int.dvd_refl _), ← Int.mul_emod, Int.mul_emod (y % m), Int.emod_emod_of_dvd _ (Int.dvd_refl _), ← Int.mul_emod, ← Int.add_emod]
    rw [Int.mul_comm x, Int.mul_comm y]
  exact_mod_cast this

/-- Totals that are made have the remainder of the greatest common divisor of the sizes (and of any number g that starts). -/
theorem gcd_mod {m : Nat} (hm : 0 < m) {l : List Nat} : ∀ (p : List Nat) (g : Nat), (∀ s ∈ p, s ∈ l) → (∃ t, Mk l t ∧ t % m = g % m) → ∃ t, Mk l t ∧ t % m = (p.foldl Nat.gcd g) % m
  | [], g, _, h => h
  | s :: p, g, hp, ⟨t, ht, e⟩ => by
    refine gcd_mod hm p (Nat.gcd g s) (fun x hx => hp x (by simp [hx])) ?_
    obtain ⟨x, y, h⟩ := bez_mod g s hm
    refine ⟨x * t + y * s, (ht.mult x).plus (Mk.times (hp s (by simp)) y), ?_⟩
    rw [← h, Nat.add_mod, Nat.mul_mod, e, ← Nat.mul_mod, ← Nat.add_mod]

theorem all_mod {m : Nat} (hm : 0 < m) {l : List Nat} (hg : l.foldl Nat.gcd 0 = 1) (r : Nat) (hr : r < m) : ∃ t, Mk l t ∧ t % m = r := by
  obtain ⟨t, ht, e⟩ := gcd_mod hm l 0 (fun _ h => h) ⟨0, .zero, rfl⟩
  rw [hg] at e
  refine ⟨r * t, ht.mult r, ?_⟩
  rw [Nat.mul_mod, e, ← Nat.mul_mod, Nat.mul_one, Nat.mod_eq_of_lt hr]

/-- The number that l holds at i (0 past its end). -/
def at_ (A : List Nat) (i : Nat) : Nat := A.getD i 0

/-- Going along by a size: the least totals B of all remainders, if it may be added, too. -/
structure Low (m : Nat) (A B : List Nat) (s : Nat) : Prop where
  len : B.length = A.length
  le : ∀ r k, r < m → at_ B ((r + k * s) % m) ≤ at_ A r + k * s
  is : ∀ r, r < m → ∃ q k, q < m ∧ (q + k * s) % m = r ∧ at_ B r = at_ A q + k * s

/-- What is so of the totals when the sizes of p are admitted. -/
structure Ok (m : Nat) (top : Nat) (p : List Nat) (A : List Nat) : Prop where
  len : A.length = m
  made : ∀ r, r < m → at_ A r = top ∨ Mk p (at_ A r) ∧ at_ A r % m = r
  top : ∀ r, r < m → at_ A r ≤ top
  zero : at_ A 0 = 0
  shut : ∀ s ∈ p, ∀ r, r < m → at_ A ((r + s) % m) ≤ at_ A r + s

theorem Ok.start {m top : Nat} (hm : 0 < m) : Ok m top [] (0 :: List.replicate (m - 1) top) where
  len := by simp; omega
  made := fun r hr => by
    match r with
    | 0 => exact .inr ⟨.zero, by simp [at_]⟩
    | r + 1 => left; simp [at_, List.getD]; rw [List.getElem?_replicate_of_lt (by omega)]; rfl
  top := fun r hr => by
    match r with
    | 0 => simp [at_]
    | r + 1 => simp [at_, List.getD]; rw [List.getElem?_replicate_of_lt (by omega)]; simp
  zero := rfl
  shut := fun s hs => by cases hs

theorem Ok.next {m top : Nat} (hm : 0 < m) {p : List Nat} {A B : List Nat} {s : Nat} (hA : Ok m top p A) (hB : Low m A B s) (hs : 0 < s) : Ok m top (p ++ [s]) B where
  len := by rw [hB.len, hA.len]
  made := fun r hr => by
    obtain ⟨q, k, hq, e, h⟩ := hB.is r hr
    rcases hA.made q hq with ht | ⟨hm1, hm2⟩
    · left
      have h0 := hB.le r 0 hr
      simp only [Nat.zero_mul, Nat.add_zero, Nat.mod_eq_of_lt hr] at h0
      have := hA.top r hr
      omega
    · right
      refine ⟨?_, ?_⟩
      · rw [h]
        exact (hm1.mono fun x hx => by simp [hx]).plus (Mk.times (by simp) k)
      · rw [h, Nat.add_mod, hm2, ← e]
        simp
  top := fun r hr => by
    have h0 := hB.le r 0 hr
    simp only [Nat.zero_mul, Nat.add_zero, Nat.mod_eq_of_lt hr] at h0
    have := hA.top r hr
    omega
  zero := by
    have h0 := hB.le 0 0 hm
    simp only [Nat.zero_mul, Nat.add_zero, Nat.mod_eq_of_lt hm, hA.zero] at h0
    omega
  shut := fun x hx r hr => by
    obtain ⟨q, k, hq, e, h⟩ := hB.is r hr
    rcases List.mem_append.1 hx with hx | hx
    · have h1 := hA.shut x hx q hq
      have h2 := hB.le ((q + x) % m) k (Nat.mod_lt _ hm)
      have e2 : ((q + x) % m + k * s) % m = (r + x) % m := by
        rw [← e, Nat.mod_add_mod, Nat.mod_add_mod]; congr 1; omega
      rw [e2] at h2
      omega
    · obtain rfl := List.mem_singleton.1 hx
      have h2 := hB.le q (k + 1) hq
      have e2 : (q + (k + 1) * x) % m = (r + x) % m := by
        rw [← e, Nat.mod_add_mod, Nat.succ_mul]; congr 1; omega
      rw [e2, Nat.succ_mul] at h2
      omega

theorem Ok.least {m top : Nat} (hm : 0 < m) {p : List Nat} {A : List Nat} (h : Ok m top p A) {t : Nat} (ht : Mk p t) : at_ A (t % m) ≤ t := by
  induction ht with
  | zero => rw [Nat.zero_mod, h.zero]; exact Nat.le_refl _
  | @add t s _ hs ih =>
    have := h.shut s hs (t % m) (Nat.mod_lt _ hm)
    rw [Nat.mod_add_mod] at this
    omega

/-- The least totals of all remainders by m. -/
structure Aperys (m : Nat) (l : List Nat) (A : List Nat) : Prop where
  len : A.length = m
  made : ∀ r, r < m → Mk l (at_ A r) ∧ at_ A r % m = r
  least : ∀ t, Mk l t → at_ A (t % m) ≤ t

theorem Ok.done {m top b : Nat} (hm : 0 < m) {l A : List Nat} (h : Ok m top l A) (hg : l.foldl Nat.gcd 0 = 1) (hb : ∀ s ∈ l, s ≤ b) (htop : (m - 1) * b < top) : Aperys m l A where
  len := h.len
  made := fun r hr => by
    rcases h.made r hr with e | e
    · obtain ⟨t, ht, e2⟩ := all_mod hm hg r hr
      obtain ⟨u, hu, e3, hle⟩ := ht.short hm hb
      have := h.least hm hu
      rw [e3, e2, e] at this
      omega
    · exact e
  least := fun t ht => h.least hm ht

theorem Aperys.same {m : Nat} {l A B : List Nat} (hA : Aperys m l A) (hB : Aperys m l B) : A = B := by
  apply List.ext_getElem (by rw [hA.len, hB.len])
  intro i h1 h2
  have hi : i < m := by rw [← hA.len]; exact h1
  have e1 : A[i] = at_ A i := by simp [at_, List.getD, h1]
  have e2 : B[i] = at_ B i := by simp [at_, List.getD, h2]
  rw [e1, e2]
  obtain ⟨a1, a2⟩ := hA.made i hi
  obtain ⟨b1, b2⟩ := hB.made i hi
  have h3 := hA.least _ b1
  have h4 := hB.least _ a1
  rw [b2] at h3
  rw [a2] at h4
  omega

theorem Aperys.bound {m b : Nat} (hm : 0 < m) {l A : List Nat} (hA : Aperys m l A) (hb : ∀ s ∈ l, s ≤ b) (r : Nat) (hr : r < m) : at_ A r ≤ (m - 1) * b := by
  obtain ⟨h1, h2⟩ := hA.made r hr
  obtain ⟨u, hu, e, hle⟩ := h1.short hm hb
  have := hA.least u hu
  rw [e, h2] at this
  omega


/-- One step along a size: the number at the next remainder. -/
def relax (m s : Nat) (A : List Nat) (p : Nat) : List Nat := A.set ((p + s) % m) (min (at_ A ((p + s) % m)) (at_ A p + s))
theorem at_set (A : List Nat) (i v r : Nat) (hi : i < A.length) : at_ (A.set i v) r = if r = i then v else at_ A r := by
  simp only [at_, List.getD_eq_getElem?_getD, List.getElem?_set]
  by_cases e : r = i
  · subst e; simp [hi]
  · rw [if_neg e, if_neg (fun h => e h.symm)]
theorem relax_le {m s : Nat} {A : List Nat} {p : Nat} (hm : 0 < m) (hA : A.length = m) (r : Nat) : at_ (relax m s A p) r ≤ at_ A r := by
  unfold relax
  rw [at_set _ _ _ _ (by rw [hA]; exact Nat.mod_lt _ hm)]
  split
  · rename_i e; subst e; exact Nat.min_le_left _ _
  · exact Nat.le_refl _
theorem relax_next {m s : Nat} {A : List Nat} {p : Nat} (hm : 0 < m) (hA : A.length = m) : at_ (relax m s A p) ((p + s) % m) ≤ at_ A p + s := by
  unfold relax
  rw [at_set _ _ _ _ (by rw [hA]; exact Nat.mod_lt _ hm), if_pos rfl]
  exact Nat.min_le_right _ _

/-- What holds on the way. -/
structure RWay (m s : Nat) (A B : List Nat) : Prop where
  len : B.length = m
  le : ∀ r, at_ B r ≤ at_ A r
  is : ∀ r, r < m → ∃ q k, q < m ∧ (q + k * s) % m = r ∧ at_ B r = at_ A q + k * s
theorem RWay.start {m s : Nat} {A : List Nat} (hA : A.length = m) : RWay m s A A :=
  ⟨hA, fun _ => Nat.le_refl _, fun r hr => ⟨r, 0, hr, by rw [Nat.zero_mul, Nat.add_zero, Nat.mod_eq_of_lt hr], by simp⟩⟩
theorem RWay.step {m s : Nat} {A B : List Nat} (h : RWay m s A B) (hm : 0 < m) {p : Nat} (hp : p < m) : RWay m s A (relax m s B p) where
  len := by unfold relax; rw [List.length_set]; exact h.len
  le := fun r => Nat.le_trans (relax_le hm h.len r) (h.le r)
  is := fun r hr => by
    unfold relax
    rw [at_set _ _ _ _ (by rw [h.len]; exact Nat.mod_lt _ hm)]
    by_cases e : r = (p + s) % m
    · rw [if_pos e]
      rcases Nat.le_total (at_ B ((p + s) % m)) (at_ B p + s) with h1 | h1
      · rw [Nat.min_eq_left h1, ← e]
        exact h.is r hr
      · rw [Nat.min_eq_right h1]
        obtain ⟨q, k, hq, e1, e2⟩ := h.is p hp
        refine ⟨q, k + 1, hq, ?_, by rw [e2, Nat.succ_mul]; omega⟩
        rw [e, ← e1, Nat.mod_add_mod, Nat.succ_mul, Nat.add_assoc]
    · rw [if_neg e]
      exact h.is r hr

/-- The places of a cycle. -/
def pos (m s st j : Nat) : Nat := (st + j * s) % m
theorem pos_succ (m s st j : Nat) : pos m s st (j + 1) = (pos m s st j + s) % m := by
  unfold pos; rw [Nat.mod_add_mod, Nat.succ_mul, Nat.add_assoc]

/-- j steps of a cycle are done. -/
def Done (m s : Nat) (A B : List Nat) (st j : Nat) : Prop := ∀ i k, i ≤ k → k ≤ j → at_ B (pos m s st k) ≤ at_ A (pos m s st i) + (k - i) * s
theorem Done.start {m s : Nat} {A B : List Nat} (h : RWay m s A B) (st : Nat) : Done m s A B st 0 := fun i k hi hk => by
  obtain rfl : k = 0 := by omega
  obtain rfl : i = 0 := by omega
  simpa using h.le _
theorem Done.mono {m s : Nat} {A B C : List Nat} {st j : Nat} (h : Done m s A B st j) (hle : ∀ r, at_ C r ≤ at_ B r) : Done m s A C st j := fun i k hi hk =>
  Nat.le_trans (hle _) (h i k hi hk)
theorem Done.step {m s : Nat} {A B : List Nat} (hw : RWay m s A B) (hm : 0 < m) {st j : Nat} (h : Done m s A B st j) : Done m s A (relax m s B (pos m s st j)) st (j + 1) := fun i k hi hk => by
  rcases Nat.lt_or_ge k (j + 1) with hlt | hge
  · exact Nat.le_trans (relax_le hm hw.len _) (h i k hi (by omega))
  · obtain rfl : k = j + 1 := by omega
    rcases Nat.lt_or_ge i (j + 1) with hlt | hge
    · rw [pos_succ]
      refine Nat.le_trans (relax_next hm hw.len) ?_
      have := h i j (by omega) (Nat.le_refl _)
      have e : j + 1 - i = (j - i) + 1 := by omega
      rw [e, Nat.succ_mul]
      omega
    · obtain rfl : i = j + 1 := by omega
      rw [Nat.sub_self, Nat.zero_mul, Nat.add_zero]
      exact Nat.le_trans (relax_le hm hw.len _) (hw.le _)

theorem cycle_zero {m s d : Nat} (hs : d ∣ s) (hd : d ∣ m) : (m / d * s) % m = 0 := by
  obtain ⟨m', rfl⟩ := hd
  obtain ⟨s', rfl⟩ := hs
  rcases Nat.eq_zero_or_pos d with h0 | h0
  · subst h0; simp
  · rw [Nat.mul_div_cancel_left _ h0]
    have : m' * (d * s') = d * m' * s' := by rw [Nat.mul_comm d m', Nat.mul_assoc]
    rw [this]; exact Nat.mul_mod_right _ _
theorem cycle_mod {m s d : Nat} (hs : d ∣ s) (hd : d ∣ m) (x k : Nat) : (x + k * s) % m = (x + k % (m / d) * s) % m := by
  have h := Nat.div_add_mod k (m / d)
  have e : k * s = k / (m / d) * (m / d * s) + k % (m / d) * s := by
    rw [← Nat.mul_assoc, ← Nat.add_mul, Nat.mul_comm (k / (m / d)), h]
  rw [e, ← Nat.add_assoc, Nat.add_comm x, Nat.add_assoc, Nat.add_mod, Nat.mul_mod, cycle_zero hs hd]
  simp
theorem cover {m s : Nat} (hm : 0 < m) (hs : 0 < s) (r : Nat) (hr : r < m) : ∃ st i, st < Nat.gcd s m ∧ i < m / Nat.gcd s m ∧ pos m s st i = r := by
  have hd : 0 < Nat.gcd s m := Nat.gcd_pos_of_pos_left _ hs
  obtain ⟨x, y, h⟩ := bez_mod s m hm
  have h1 : (x * s) % m = Nat.gcd s m % m := by rw [← h]; simp
  have hL : 0 < m / Nat.gcd s m := Nat.div_pos (Nat.le_of_dvd hm (Nat.gcd_dvd_right s m)) hd
  refine ⟨r % Nat.gcd s m, (x * (r / Nat.gcd s m)) % (m / Nat.gcd s m), Nat.mod_lt _ hd, Nat.mod_lt _ hL, ?_⟩
  unfold pos
  rw [← cycle_mod (Nat.gcd_dvd_left s m) (Nat.gcd_dvd_right s m)]
  have e : x * (r / Nat.gcd s m) * s = (x * s) * (r / Nat.gcd s m) := by rw [Nat.mul_assoc, Nat.mul_comm (r / _) s, ← Nat.mul_assoc]
  rw [e, Nat.add_mod, Nat.mul_mod, h1, ← Nat.mul_mod, ← Nat.add_mod, Nat.mod_add_div, Nat.mod_eq_of_lt hr]

/-- ALL CYCLES ARE DONE, two rounds each: the size may be added from now on. -/
theorem low_of_done {m s : Nat} (hm : 0 < m) (hs : 0 < s) {A B : List Nat} (hA : A.length = m) (hw : RWay m s A B) (hd : ∀ st, st < Nat.gcd s m → Done m s A B st (2 * m / Nat.gcd s m)) : Low m A B s where
  len := by rw [hw.len, hA]
  le := fun r k hr => by
    obtain ⟨st, i, hst, hi, e⟩ := cover hm hs r hr
    have hL : 0 < m / Nat.gcd s m := by omega
    have h2 : 2 * m / Nat.gcd s m = 2 * (m / Nat.gcd s m) := Nat.mul_div_assoc _ (Nat.gcd_dvd_right s m)
    have hk := Nat.mod_lt k hL
    have h3 := hd st hst i (i + k % (m / Nat.gcd s m)) (by omega) (by rw [h2]; omega)
    rw [e] at h3
    have e2 : pos m s st (i + k % (m / Nat.gcd s m)) = (r + k * s) % m := by
      rw [cycle_mod (Nat.gcd_dvd_left s m) (Nat.gcd_dvd_right s m) r k, ← e]
      unfold pos
      rw [Nat.mod_add_mod, Nat.add_mul, Nat.add_assoc]
    rw [e2] at h3
    have : i + k % (m / Nat.gcd s m) - i = k % (m / Nat.gcd s m) := by omega
    rw [this] at h3
    exact Nat.le_trans h3 (Nat.add_le_add_left (Nat.mul_le_mul_right _ (Nat.mod_le _ _)) _)
  is := hw.is

end Go.Proofs.YthboolnacmpmlaaGreatDoor.Bag
