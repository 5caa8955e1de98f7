/- Points in slices of a call's own, which grow by append; the law's cut. -/
import Derived.Maps.AppendAt
import Derived.Deep.AppendLies
import Derived.OwnWalk
import Derived.Laws.Rows
import Derived.Test.YtnijcdphmibjaaaDevPts
namespace Go.Proofs.Ytnijcdphmibjaaa
open Go.RowKit Go.Sort
attribute [local go_sem ↓] run_min_mn run_max_mx

def ptsV : List Pt → List Value
  | [] => []
  | p :: l => .int .i64 p.1 :: .int .i64 p.2 :: ptsV l
theorem ptsV_length : ∀ l, (ptsV l).length = l.length * 2
  | [] => rfl
  | p :: l => by simp only [ptsV, List.length_cons, ptsV_length l]; omega
theorem ptsV_append : ∀ a b, ptsV (a ++ b) = ptsV a ++ ptsV b
  | [], _ => rfl
  | p :: a, b => by simp only [ptsV, List.cons_append, ptsV_append a b]
theorem ptsV_get : ∀ (l : List Pt) (i : Nat) (p : Pt), l[i]? = some p → (ptsV l)[i * 2]? = some (.int .i64 p.1) ∧ (ptsV l)[i * 2 + 1]? = some (.int .i64 p.2)
  | [], _, _, h => by simp at h
  | q :: l, 0, p, h => by
    obtain rfl : q = p := by simpa using h
    exact ⟨rfl, rfl⟩
  | q :: l, i + 1, p, h => by
    have := ptsV_get l i p (by simpa using h)
    rw [show (i + 1) * 2 = i * 2 + 1 + 1 by omega]
    simpa only [ptsV, List.getElem?_cons_succ] using this
theorem ptsV_cell : ∀ (l : List Pt), ∀ u ∈ ptsV l, u.oneCell' = true
  | [], u, h => by cases h
  | p :: l, u, h => by
    simp only [ptsV, List.mem_cons] at h
    rcases h with rfl | rfl | h
    · rfl
    · rfl
    · exact ptsV_cell l u h
theorem ptsV_at {w : World} {b : Nat} : ∀ (l : List Pt) (off : Nat), PtsIn w b off l → ∀ j u, (ptsV l)[j]? = some u → w.cell? ⟨b, off + j, none⟩ = some u
  | [], _, _, _, _, h => by simp [ptsV] at h
  | p :: l, off, hp, 0, u, h => by
    have := (hp 0 p rfl).1
    obtain rfl : Value.int .i64 p.1 = u := by simpa [ptsV] using h
    simpa using this
  | p :: l, off, hp, 1, u, h => by
    have := (hp 0 p rfl).2
    obtain rfl : Value.int .i64 p.2 = u := by simpa [ptsV] using h
    simpa using this
  | p :: l, off, hp, j + 2, u, h => by
    have hq : PtsIn w b (off + 2) l := fun i q hq => by
      have := hp (i + 1) q (by simpa using hq)
      rw [show off + (i + 1) * 2 = off + 2 + i * 2 by omega] at this
      exact this
    have := ptsV_at l (off + 2) hq j u (by simpa [ptsV] using h)
    rw [show off + (j + 2) = off + 2 + j by omega]
    exact this

theorem PtsIn.take {w : World} {b off : Nat} {l : List Pt} (h : PtsIn w b off l) (k : Nat) : PtsIn w b off (l.take k) := fun i p hp => by
  rw [List.getElem?_take] at hp
  split at hp
  · exact h i p hp
  · cases hp
theorem PtsAt.take {w : World} {A : Option Addr} {l : List Pt} (h : PtsAt w A l) (k : Nat) : PtsAt w A (l.take k) := fun hne => by
  obtain ⟨b, off, e, hlt, hc⟩ := h (by intro e; subst e; simp at hne)
  exact ⟨b, off, e, hlt, hc.take k⟩

/-- A slice of the call's own: blocks from base on. -/
def PtsOwn (w : World) (base : Nat) (v : Value) (l : List Pt) : Prop := w.ownsRow base 33 2 v l.length (ptsV l)

theorem PtsOwn.slice {w : World} {base : Nat} {v : Value} {l : List Pt} (h : PtsOwn w base v l) :
    ∃ A c, v = .slice A l.length c ∧ l.length ≤ c ∧ PtsAt w A l ∧ (∀ a, A = some a → base ≤ a.block) := by
  rcases h.2 with ⟨rfl, hn⟩ | ⟨g, cap, cur, rfl, hb, hg, hnc, _, hsz, ht⟩
  · refine ⟨none, 0, by rw [hn], by omega, fun hne => absurd (List.eq_nil_of_length_eq_zero hn) hne, fun a ha => by cases ha⟩
  · refine ⟨_, cap, rfl, hnc, fun _ => ⟨g, 0, rfl, (Array.getElem?_eq_some_iff.1 hg).1, fun i p hp => ?_⟩, fun a ha => by cases ha; exact hb⟩
    obtain ⟨h1, h2⟩ := ptsV_get l i p hp
    rw [← ht, List.getElem?_take] at h1 h2
    constructor
    · rw [Nat.zero_add, cell_of_row w g _ cur _ (0, 0) hg]
      split at h1
      · simpa using h1
      · cases h1
    · rw [Nat.zero_add, cell_of_row w g _ cur _ (0, 0) hg]
      split at h2
      · simpa using h2
      · cases h2

theorem PtsOwn.empty (w : World) : PtsOwn (w.alloc (.cells #[] 33)) w.heap.size (.slice (some ⟨w.heap.size, 0, none⟩) 0 0) [] :=
  World.ownsRow_made w #[] 0 (Nat.le_refl _) (by simp [maxLen]) rfl

theorem info_pt : (Try.prog.info? 33).map (fun i => (i.zero, i.size, i.bytes)) = some (some (.agg #[.int .i64 0, .int .i64 0]), 2, 16) := by kernel_rfl
theorem info_pparts {o : Option TypeInfo} {z : Value} {s b : Nat} (h : o.map (fun i => (i.zero, i.size, i.bytes)) = some (some z, s, b)) : ∃ i, o = some i ∧ i.zero = some z ∧ i.size = s ∧ i.bytes = b := by
  cases o with
  | none => cases h
  | some i =>
    have e : (i.zero, i.size, i.bytes) = (some z, s, b) := by simpa using h
    simp only [Prod.mk.injEq] at e
    exact ⟨i, rfl, e.1, e.2.1, e.2.2⟩

/-- An append. -/
theorem papp_run {w : World} {base : Nat} {v : Value} {xs ys : List Pt} (h : PtsOwn w base v xs) {A : Option Addr} (c : Nat) (hy : PtsAt w A ys) (hlen : xs.length + ys.length ≤ 100000) (hb : base ≤ w.heap.size) (ty : TypeId) :
    ∃ v' w', (Builtin.append_ #[22, 22] ty #[v, .slice A ys.length c]).run Try.prog w = .ok v' w' ∧ PtsOwn w' base v' (xs ++ ys) ∧ w.grownBy w' v.ownBlock ∧
      (v'.ownBlock = v.ownBlock ∨ v'.ownBlock = some w.heap.size) := by
  obtain ⟨i0, hi0, hz0, hz1, hz2⟩ := info_pparts info_pt
  have e2 : (xs ++ ys).length = xs.length + ys.length := by simp
  have fin : ∀ ad : Addr, A = some ad → (∀ j u, (ptsV ys)[j]? = some u → w.cell? (ad.add j) = some u) →
      ∃ v' w', (Builtin.append_ #[22, 22] ty #[v, .slice A ys.length c]).run Try.prog w = .ok v' w' ∧ PtsOwn w' base v' (xs ++ ys) ∧ w.grownBy w' v.ownBlock ∧ (v'.ownBlock = v.ownBlock ∨ v'.ownBlock = some w.heap.size) := by
    intro ad e hc
    subst e
    obtain ⟨v', w', hr, h2, h3, _, h5⟩ := run_append_own_at (P := Try.prog) w base 22 ty 33 i0 _ 2 16 Try.underlying22 hi0 hz0 hz1 hz2 rfl (by omega) v xs.length (ptsV xs) h ad ys.length c (ptsV ys) (ptsV_length ys) hc (ptsV_cell ys) (by simp [maxLen]; omega) (by omega) hb
    exact ⟨v', w', hr, by unfold PtsOwn; rw [e2, ptsV_append]; exact h2, h3, h5⟩
  cases ys with
  | nil =>
    cases A with
    | none =>
      refine ⟨v, w, ?_, by simpa using h, World.grownBy.refl w _, .inl rfl⟩
      rcases h.2 with ⟨rfl, hn⟩ | ⟨g, cap, cur, rfl, _, _, hnc, _⟩
      · simp [Builtin.append_, run_underlying Try.underlying22, sizeOf, typeInfo, hi0, Builtin.lenOf, Builtin.firstCells]
      · simp [Builtin.append_, run_underlying Try.underlying22, sizeOf, typeInfo, hi0, Builtin.lenOf, Builtin.firstCells, hnc, storeCells]
    | some ad => exact fin ad rfl (fun j u hu => by simp [ptsV] at hu)
  | cons y ys =>
    obtain ⟨b, off, rfl, _, hc⟩ := hy (by simp)
    refine fin _ rfl fun j u hu => ?_
    have e : (⟨b, off, none⟩ : Addr).add j = ⟨b, off + j, none⟩ := by unfold Addr.add; split <;> simp_all
    rw [e]
    exact ptsV_at _ _ hc j u hu

theorem wpList_papp {w : World} {ops : Array Oper} {rest : List Oper} {o : Oper} {a : Act} {Q : Exit → Act → World → Prop} (hgd : o.guard = none) (s x : Operand)
    (ho : o.op = .call { callee := .builtin .append, args := #[s, x], argTypes := #[22, 22] }) (base : Nat) (v : Value) (xs ys : List Pt) (A : Option Addr) (m c : Nat)
    (hs : a.eval s = v) (hx : a.eval x = .slice A m c) (hown : PtsOwn w base v xs) (hm : ys.length = m) (hy : PtsAt w A ys) (hlen : xs.length + ys.length ≤ 100000) (hb : base ≤ w.heap.size)
    (h : ∀ v' w', PtsOwn w' base v' (xs ++ ys) → w.grownBy w' v.ownBlock → (v'.ownBlock = v.ownBlock ∨ v'.ownBlock = some w.heap.size) → wpList Try.prog ops Q rest (a.put o.dst v') w') : wpList Try.prog ops Q (o :: rest) a w :=
  wpList_plain hgd fun _ hK => by
    subst hm
    obtain ⟨v', w', hr, h2, h3, h4⟩ := papp_run hown c hy hlen hb o.type
    unfold Oper.wp execOp
    simp only [ho, resolve, invoke, builtin, Sem.run_bind, Sem.run_pure, Result.andThen_ok, List.map_toArray, List.map_cons, List.map_nil, hs, hx, hr]
    exact hK _ _ (h v' w' h2 h3 h4)
end Go.Proofs.Ytnijcdphmibjaaa
