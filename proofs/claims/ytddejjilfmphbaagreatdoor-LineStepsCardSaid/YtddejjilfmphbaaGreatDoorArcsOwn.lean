/- Arcs in slices of a call's own, which grow by append. -/
import Derived.Maps.AppendAt
import Derived.Deep.AppendLies
import Derived.OwnWalk
import Derived.Laws.Rows
import Derived.Test.YtddejjilfmphbaaGreatDoorLineLaw1
namespace Go.Proofs.YtddejjilfmphbaaGreatDoor
open Go.RowKit Go.Sort
attribute [local go_sem ↓] run_min_mn run_max_mx

def ArcsIn (w : World) (b off : Nat) (l : List Arc) : Prop := ∀ k a, l[k]? = some a → w.cell? ⟨b, off + k * 3, none⟩ = some (.int .i64 a.f) ∧ w.cell? ⟨b, off + k * 3 + 1, none⟩ = some (.int .i64 a.t) ∧ w.cell? ⟨b, off + k * 3 + 2, none⟩ = some (.int .i64 a.d)
def arcsV : List Arc → List Value
  | [] => []
  | p :: l => .int .i64 p.f :: .int .i64 p.t :: .int .i64 p.d :: arcsV l
theorem arcsV_length : ∀ l, (arcsV l).length = l.length * 3
  | [] => rfl
  | p :: l => by simp only [arcsV, List.length_cons, arcsV_length l]; omega
theorem arcsV_append : ∀ a b, arcsV (a ++ b) = arcsV a ++ arcsV b
  | [], _ => rfl
  | p :: a, b => by simp only [arcsV, List.cons_append, arcsV_append a b]
theorem arcsV_get : ∀ (l : List Arc) (i : Nat) (p : Arc), l[i]? = some p → (arcsV l)[i * 3]? = some (.int .i64 p.f) ∧ (arcsV l)[i * 3 + 1]? = some (.int .i64 p.t) ∧ (arcsV l)[i * 3 + 2]? = some (.int .i64 p.d)
  | [], _, _, h => by simp at h
  | q :: l, 0, p, h => by
    obtain rfl : q = p := by simpa using h
    exact ⟨rfl, rfl, rfl⟩
  | q :: l, i + 1, p, h => by
    have := arcsV_get l i p (by simpa using h)
    rw [show (i + 1) * 3 = i * 3 + 1 + 1 + 1 by omega]
    simpa only [arcsV, List.getElem?_cons_succ] using this
theorem arcsV_cell : ∀ (l : List Arc), ∀ u ∈ arcsV l, u.oneCell' = true
  | [], u, h => by cases h
  | p :: l, u, h => by
    simp only [arcsV, List.mem_cons] at h
    rcases h with rfl | rfl | rfl | h
    · rfl
    · rfl
    · rfl
    · exact arcsV_cell l u h
theorem arcsV_at {w : World} {b : Nat} : ∀ (l : List Arc) (off : Nat), ArcsIn w b off l → ∀ j u, (arcsV l)[j]? = some u → w.cell? ⟨b, off + j, none⟩ = some u
  | [], _, _, _, _, h => by simp [arcsV] at h
  | p :: l, off, hp, 0, u, h => by
    have := (hp 0 p rfl).1
    obtain rfl : Value.int .i64 p.f = u := by simpa [arcsV] using h
    simpa using this
  | p :: l, off, hp, 1, u, h => by
    have := (hp 0 p rfl).2.1
    obtain rfl : Value.int .i64 p.t = u := by simpa [arcsV] using h
    simpa using this
  | p :: l, off, hp, 2, u, h => by
    have := (hp 0 p rfl).2.2
    obtain rfl : Value.int .i64 p.d = u := by simpa [arcsV] using h
    simpa using this
  | p :: l, off, hp, j + 3, u, h => by
    have hq : ArcsIn w b (off + 3) l := fun i q hq => by
      have := hp (i + 1) q (by simpa using hq)
      rw [show off + (i + 1) * 3 = off + 3 + i * 3 by omega] at this
      exact this
    have := arcsV_at l (off + 3) hq j u (by simpa [arcsV] using h)
    rw [show off + (j + 3) = off + 3 + j by omega]
    exact this
theorem ArcsIn.take {w : World} {b off : Nat} {l : List Arc} (h : ArcsIn w b off l) (k : Nat) : ArcsIn w b off (l.take k) := fun i p hp => by
  rw [List.getElem?_take] at hp
  split at hp
  · exact h i p hp
  · cases hp
theorem ArcsAt.take {w : World} {A : Option Addr} {l : List Arc} (h : ArcsAt w A l) (k : Nat) : ArcsAt w A (l.take k) := fun hne => by
  obtain ⟨b, off, e, hlt, hc⟩ := h (by intro e; subst e; simp at hne)
  exact ⟨b, off, e, hlt, ArcsIn.take hc k⟩

/-- A slice of the call's own: blocks from base on. -/
def ArcsOwn (w : World) (base : Nat) (v : Value) (l : List Arc) : Prop := w.ownsRow base 56 3 v l.length (arcsV l)
theorem ArcsOwn.slice {w : World} {base : Nat} {v : Value} {l : List Arc} (h : ArcsOwn w base v l) :
    ∃ A c, v = .slice A l.length c ∧ l.length ≤ c ∧ ArcsAt w A l ∧ (∀ a, A = some a → base ≤ a.block) := by
  rcases h.2 with ⟨rfl, hn⟩ | ⟨g, cap, cur, rfl, hb, hg, hnc, _, hsz, ht⟩
  · refine ⟨none, 0, by rw [hn], by omega, fun hne => absurd (List.eq_nil_of_length_eq_zero hn) hne, fun a ha => by cases ha⟩
  · refine ⟨_, cap, rfl, hnc, fun _ => ⟨g, 0, rfl, (Array.getElem?_eq_some_iff.1 hg).1, fun i p hp => ?_⟩, fun a ha => by cases ha; exact hb⟩
    obtain ⟨h1, h2, h3⟩ := arcsV_get l i p hp
    rw [← ht, List.getElem?_take] at h1 h2 h3
    refine ⟨?_, ?_, ?_⟩
    · rw [Nat.zero_add, cell_of_row w g _ cur _ (0, 0) hg]
      split at h1
      · simpa using h1
      · cases h1
    · rw [Nat.zero_add, cell_of_row w g _ cur _ (0, 0) hg]
      split at h2
      · simpa using h2
      · cases h2
    · rw [Nat.zero_add, cell_of_row w g _ cur _ (0, 0) hg]
      split at h3
      · simpa using h3
      · cases h3
theorem ArcsOwn.empty (w : World) : ArcsOwn (w.alloc (.cells #[] 56)) w.heap.size (.slice (some ⟨w.heap.size, 0, none⟩) 0 0) [] :=
  World.ownsRow_made w #[] 0 (Nat.le_refl _) (by simp [maxLen]) rfl
theorem info_arc : (Tryz.prog.info? 56).map (fun i => (i.zero, i.size, i.bytes)) = some (some (.agg #[.int .i64 0, .int .i64 0, .int .i64 0]), 3, 24) := by kernel_rfl
/-- An append. -/
theorem aapp_run {w : World} {base : Nat} {v : Value} {xs ys : List Arc} (h : ArcsOwn w base v xs) {A : Option Addr} (c : Nat) (hy : ArcsAt w A ys) (hlen : xs.length + ys.length ≤ 100000) (hb : base ≤ w.heap.size) (ty : TypeId) :
    ∃ v' w', (Builtin.append_ #[22, 22] ty #[v, .slice A ys.length c]).run Tryz.prog w = .ok v' w' ∧ ArcsOwn w' base v' (xs ++ ys) ∧ w.grownBy w' v.ownBlock ∧
      (v'.ownBlock = v.ownBlock ∨ v'.ownBlock = some w.heap.size) := by
  obtain ⟨i0, hi0, hz0, hz1, hz2⟩ := info_parts info_arc
  have e2 : (xs ++ ys).length = xs.length + ys.length := by simp
  have fin : ∀ ad : Addr, A = some ad → (∀ j u, (arcsV ys)[j]? = some u → w.cell? (ad.add j) = some u) →
      ∃ v' w', (Builtin.append_ #[22, 22] ty #[v, .slice A ys.length c]).run Tryz.prog w = .ok v' w' ∧ ArcsOwn w' base v' (xs ++ ys) ∧ w.grownBy w' v.ownBlock ∧ (v'.ownBlock = v.ownBlock ∨ v'.ownBlock = some w.heap.size) := by
    intro ad e hc
    subst e
    obtain ⟨v', w', hr, h2, h3, _, h5⟩ := run_append_own_at (P := Tryz.prog) w base 22 ty 56 i0 _ 3 24 Tryz.underlying22 hi0 hz0 hz1 hz2 rfl (by omega) v xs.length (arcsV xs) h ad ys.length c (arcsV ys) (arcsV_length ys) hc (arcsV_cell ys) (by simp [maxLen]; omega) (by omega) hb
    exact ⟨v', w', hr, by unfold ArcsOwn; rw [e2, arcsV_append]; exact h2, h3, h5⟩
  cases ys with
  | nil =>
    cases A with
    | none =>
      refine ⟨v, w, ?_, by simpa using h, World.grownBy.refl w _, .inl rfl⟩
      rcases h.2 with ⟨rfl, hn⟩ | ⟨g, cap, cur, rfl, _, _, hnc, _⟩
      · simp [Builtin.append_, run_underlying Tryz.underlying22, sizeOf, typeInfo, hi0, Builtin.lenOf, Builtin.firstCells]
      · simp [Builtin.append_, run_underlying Tryz.underlying22, sizeOf, typeInfo, hi0, Builtin.lenOf, Builtin.firstCells, hnc, storeCells]
    | some ad => exact fin ad rfl (fun j u hu => by simp [arcsV] at hu)
  | cons y ys =>
    obtain ⟨b, off, rfl, _, hc⟩ := hy (by simp)
    refine fin _ rfl fun j u hu => ?_
    have e : (⟨b, off, none⟩ : Addr).add j = ⟨b, off + j, none⟩ := by unfold Addr.add; split <;> simp_all
    rw [e]
    exact arcsV_at _ _ hc j u hu

theorem wpList_aapp {w : World} {ops : Array Oper} {rest : List Oper} {o : Oper} {a : Act} {Q : Exit → Act → World → Prop} (hgd : o.guard = none) (s x : Operand)
    (ho : o.op = .call { callee := .builtin .append, args := #[s, x], argTypes := #[22, 22] }) (base : Nat) (v : Value) (xs ys : List Arc) (A : Option Addr) (m c : Nat)
    (hs : a.eval s = v) (hx : a.eval x = .slice A m c) (hown : ArcsOwn w base v xs) (hm : ys.length = m) (hy : ArcsAt w A ys) (hlen : xs.length + ys.length ≤ 100000) (hb : base ≤ w.heap.size)
    (h : ∀ v' w', ArcsOwn w' base v' (xs ++ ys) → w.grownBy w' v.ownBlock → (v'.ownBlock = v.ownBlock ∨ v'.ownBlock = some w.heap.size) → wpList Tryz.prog ops Q rest (a.put o.dst v') w') : wpList Tryz.prog ops Q (o :: rest) a w :=
  wpList_plain hgd fun _ hK => by
    subst hm
    obtain ⟨v', w', hr, h2, h3, h4⟩ := aapp_run hown c hy hlen hb o.type
    unfold Oper.wp execOp
    simp only [ho, resolve, invoke, builtin, Sem.run_bind, Sem.run_pure, Result.andThen_ok, List.map_toArray, List.map_cons, List.map_nil, hs, hx, hr]
    exact hK _ _ (h v' w' h2 h3 h4)
end Go.Proofs.YtddejjilfmphbaaGreatDoor
