/- For the laws' made: appends of one arc in regions that draw; the ring makes a graph live. -/
import Derived.Test.YtddejjilfmphbaaGreatDoorStepsMath
namespace Go.Proofs.YtddejjilfmphbaaGreatDoor
open Go.RowKit Go.Sort

/-- An append as one step of a region that draws its order. -/
theorem step_aapp {w : World} {ops : Array Oper} {o : Oper} {a : Act} {K : Act → World → Prop} {Q : Exit → Act → World → Prop} {E : Prop} (hgd : o.guard = none) (s x : Operand)
    (ho : o.op = .call { callee := .builtin .append, args := #[s, x], argTypes := #[22, 22] }) (base : Nat) (v : Value) (xs ys : List Arc) (A : Option Addr) (m c : Nat)
    (hs : a.eval s = v) (hx : a.eval x = .slice A m c) (hown : ArcsOwn w base v xs) (hm : ys.length = m) (hy : ArcsAt w A ys) (hlen : xs.length + ys.length ≤ 100000) (hb : base ≤ w.heap.size)
    (h : ∀ v' w', ArcsOwn w' base v' (xs ++ ys) → w.grownBy w' v.ownBlock → (v'.ownBlock = v.ownBlock ∨ v'.ownBlock = some w.heap.size) → K (a.put o.dst v') w') :
    if Region.wanted o (yielded ops a.tmps) = true then Oper.wp Tryz.prog o a w K Q else E := by
  have hw : Region.wanted o (yielded ops a.tmps) = true := by simp [Region.wanted, hgd]
  rw [if_pos hw]
  subst hm
  obtain ⟨v', w', hr, h2, h3, h4⟩ := aapp_run hown c hy hlen hb o.type
  unfold Oper.wp execOp
  simp only [ho, resolve, invoke, builtin, Sem.run_bind, Sem.run_pure, Result.andThen_ok, List.map_toArray, List.map_cons, List.map_nil, hs, hx, hr]
  exact h v' w' h2 h3 h4
theorem ArcsOwn.alloc {w : World} {base : Nat} {v : Value} {l : List Arc} (h : ArcsOwn w base v l) (o : Obj) : ArcsOwn (w.alloc o) base v l := by
  refine ⟨h.1, ?_⟩
  rcases h.2 with h2 | ⟨g, cap, cur, e, hb, hg, r⟩
  · exact .inl h2
  · exact .inr ⟨g, cap, cur, e, hb, (Below.heap_alloc w o g (Array.getElem?_eq_some_iff.1 hg).1).trans hg, r⟩
theorem ArcsOwn.base {w : World} {base : Nat} {v : Value} {l : List Arc} (h : ArcsOwn w base v l) : ∀ k, v.ownBlock = some k → base ≤ k ∧ k < w.heap.size := by
  rcases h.2 with ⟨rfl, -⟩ | ⟨g, cap, cur, rfl, hb, hg, -⟩
  · intro k hk; cases hk
  · intro k hk; cases hk; exact ⟨hb, (Array.getElem?_eq_some_iff.1 hg).1⟩
theorem ArcsOwn.nil (w : World) (base : Nat) : ArcsOwn w base (.slice none 0 0) [] := World.ownsRow_nil _ _ _ _
theorem arcs_one (w : World) (f t d : Int) : ArcsAt (w.alloc (.cells #[.int .i64 f, .int .i64 t, .int .i64 d] 56)) (some ⟨w.heap.size, 0, none⟩) [⟨f, t, d⟩] := fun _ => by
  refine ⟨_, _, rfl, by simp, fun i a ha => ?_⟩
  have hb := Blk.new w 56 #[.int .i64 f, .int .i64 t, .int .i64 d]
  match i, ha with
  | 0, ha =>
    obtain rfl : (⟨f, t, d⟩ : Arc) = a := by simpa using ha
    exact ⟨by rw [hb.cell]; rfl, by rw [hb.cell]; rfl, by rw [hb.cell]; rfl⟩

/-- The ring's arcs: from i to the next, for all i below k. -/
def ringTo (m k : Nat) (l : List Arc) : Prop := ∀ i, i < k → ∃ a ∈ l, a.t = (((i + 1) % m : Nat) : Int)
theorem ringTo.snoc {m k : Nat} {l : List Arc} (h : ringTo m k l) {f d : Int} : ringTo m (k + 1) (l ++ [⟨f, (((k + 1) % m : Nat) : Int), d⟩]) := fun i hi => by
  by_cases e : i = k
  · subst e; exact ⟨_, List.mem_append_right _ List.mem_cons_self, rfl⟩
  · obtain ⟨a, ha, h2⟩ := h i (by omega)
    exact ⟨a, List.mem_append_left _ ha, h2⟩
theorem live_ring {m : Nat} {l : List Arc} (h : ringTo m m l) : liveB m l = true := by
  unfold liveB
  rw [List.all_eq_true]
  intro j hj
  have hj : j < m := List.mem_range.1 hj
  unfold toB
  rw [List.any_eq_true]
  by_cases e : j = 0
  · obtain ⟨a, ha, h2⟩ := h (m - 1) (by omega)
    refine ⟨a, ha, ?_⟩
    rw [h2, show m - 1 + 1 = m by omega, Nat.mod_self, e]; rfl
  · obtain ⟨a, ha, h2⟩ := h (j - 1) (by omega)
    refine ⟨a, ha, ?_⟩
    rw [h2, show j - 1 + 1 = j by omega, Nat.mod_eq_of_lt hj]; simp
end Go.Proofs.YtddejjilfmphbaaGreatDoor
