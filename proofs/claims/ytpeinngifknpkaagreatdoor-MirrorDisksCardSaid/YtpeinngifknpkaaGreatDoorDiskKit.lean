/- Disks in memory. -/
import Derived.Test.YtpeinngifknpkaaGreatDoorByteKit
namespace Go.Proofs.YtpeinngifknpkaaGreatDoor
open Go.RowKit Go.Sort

/-- The block that a slice may write (one of no capacity: none). -/
def rowOf : Value → Option Nat
  | .slice (some a) _ (_ + 1) => some a.block
  | _ => none
theorem rowOf_own {v : Value} {k : Nat} (h : rowOf v = some k) : v.ownBlock = some k := by
  unfold rowOf at h
  split at h
  · exact h
  · cases h
/-- Bytes of the call's own. -/
def ByOwn (w : World) (base : Nat) (v : Value) (xs : List UInt8) : Prop := ByRow w base v xs ∨ (xs = [] ∧ ∃ a, v = .slice (some a) 0 0)

theorem ByOwn.slice {w : World} {base : Nat} {v : Value} {xs : List UInt8} (h : ByOwn w base v xs) : ∃ A c, v = .slice A xs.length c ∧ xs.length ≤ c ∧ ByAt w A xs := by
  rcases h with h | ⟨rfl, a, rfl⟩
  · obtain ⟨A, c, h1, h2, h3, -⟩ := h.slice
    exact ⟨A, c, h1, h2, h3⟩
  · exact ⟨_, 0, rfl, Nat.le_refl _, ByAt.nil _ _⟩

theorem append_none {w : World} {a : Addr} {X : Value} {n : Nat} (hn : (Builtin.lenOf X).run Tryz.prog w = .ok (n + 1) w) (hs : n + 1 ≤ 100000) (ty : TypeId) :
    (Builtin.append_ #[28, 28] ty #[.slice (some a) 0 0, X]).run Tryz.prog w = (Builtin.append_ #[28, 28] ty #[.slice none 0 0, X]).run Tryz.prog w := by
  obtain ⟨i0, hi0, hz0, hz1, hz2⟩ := info_bparts info_by
  have e1 : ∀ W, (Builtin.firstCells 1 0 (.slice (some a) 0 0)).run Tryz.prog W = .ok #[] W := fun W => rfl
  have e2 : ∀ W, (Builtin.firstCells 1 0 (.slice none 0 0)).run Tryz.prog W = .ok #[] W := fun W => rfl
  have e3 : Builtin.nextslicecap (n + 1) 0 = n + 1 := by simp [Builtin.nextslicecap]
  have e4 : ¬ (281474976710656 < n + 1) := by omega
  have e5 : ¬ ((9223372036854775807 : Int) < (n : Int) + 1) := by omega
  unfold Builtin.append_
  simp [run_underlying Tryz.underlying28, sizeOf, typeInfo, hi0, hn, hz1, hz2, e1, e2, e3, e4, e5]

/-- An append. -/
theorem bapp_run {w : World} {base : Nat} {v : Value} {xs ys : List UInt8} (h : ByOwn w base v xs) {A : Option Addr} (c : Nat) (hy : ByAt w A ys) (hlen : xs.length + ys.length ≤ 100000) (hb : base ≤ w.heap.size) (ty : TypeId) :
    ∃ v' w', (Builtin.append_ #[28, 28] ty #[v, .slice A ys.length c]).run Tryz.prog w = .ok v' w' ∧ ByOwn w' base v' (xs ++ ys) ∧ w.grownBy w' (rowOf v) ∧
      (rowOf v' = rowOf v ∨ rowOf v' = some w.heap.size ∨ rowOf v' = none) := by
  have late : ∀ {v v' : Value}, (v'.ownBlock = v.ownBlock ∨ v'.ownBlock = some w.heap.size) → (v.ownBlock = rowOf v) → (rowOf v' = rowOf v ∨ rowOf v' = some w.heap.size ∨ rowOf v' = none) := by
    intro v v' h1 h2
    cases hr : rowOf v' with
    | none => exact .inr (.inr rfl)
    | some k =>
      have := rowOf_own hr
      rw [this, h2] at h1
      rcases h1 with h1 | h1
      · exact .inl h1
      · exact .inr (.inl h1)
  have empty : ∀ (a : Addr), xs = [] → v = .slice (some a) 0 0 → ∃ v' w', (Builtin.append_ #[28, 28] ty #[v, .slice A ys.length c]).run Tryz.prog w = .ok v' w' ∧ ByOwn w' base v' (xs ++ ys) ∧ w.grownBy w' (rowOf v) ∧
      (rowOf v' = rowOf v ∨ rowOf v' = some w.heap.size ∨ rowOf v' = none) := by
    rintro a rfl rfl
    cases ys with
    | nil =>
      obtain ⟨i0, hi0, hz0, hz1, hz2⟩ := info_bparts info_by
      refine ⟨.slice (some a) 0 0, w, ?_, .inr ⟨rfl, a, rfl⟩, World.grownBy.refl w _, .inl rfl⟩
      have e1 : ∀ (p : Addr), (loadCells p 0).run Tryz.prog w = .ok #[] w := fun p => rfl
      cases A <;> simp [Builtin.append_, run_underlying Tryz.underlying28, sizeOf, typeInfo, hi0, Builtin.lenOf, Builtin.firstCells, storeCells, e1]
    | cons y ys =>
      rw [append_none (n := ys.length) (by simp [Builtin.lenOf]) (by simpa using hlen)]
      obtain ⟨v', w', h1, h2, h3, h4⟩ := brow_run (w := w) (base := base) (v := .slice none 0 0) (xs := []) (World.ownsRow_nil _ _ _ _) c hy (by simpa using hlen) hb ty
      exact ⟨v', w', h1, .inl h2, h3, late (v := .slice none 0 0) h4 rfl⟩
  rcases h with h | ⟨e, a, ea⟩
  · rcases h.2 with ⟨rfl, hn⟩ | ⟨g, cap, cur, rfl, hg, r⟩
    · obtain ⟨v', w', h1, h2, h3, h4⟩ := brow_run h c hy hlen hb ty
      exact ⟨v', w', h1, .inl h2, h3, late h4 rfl⟩
    · cases cap with
      | zero =>
        have hn : xs.length = 0 := Nat.le_zero.1 r.2.1
        exact empty ⟨g, 0, none⟩ (List.eq_nil_of_length_eq_zero hn) (by rw [hn])
      | succ cap =>
        obtain ⟨v', w', h1, h2, h3, h4⟩ := brow_run h c hy hlen hb ty
        exact ⟨v', w', h1, .inl h2, h3, late h4 rfl⟩
  · exact empty a e ea

theorem wpList_bapp {w : World} {ops : Array Oper} {rest : List Oper} {o : Oper} {a : Act} {Q : Exit → Act → World → Prop} (hgd : o.guard = none) (s x : Operand)
    (ho : o.op = .call { callee := .builtin .append, args := #[s, x], argTypes := #[28, 28] }) (base : Nat) (v : Value) (xs ys : List UInt8) (A : Option Addr) (m c : Nat)
    (hs : a.eval s = v) (hx : a.eval x = .slice A m c) (hown : ByOwn w base v xs) (hm : ys.length = m) (hy : ByAt w A ys) (hlen : xs.length + ys.length ≤ 100000) (hb : base ≤ w.heap.size)
    (h : ∀ v' w', ByOwn w' base v' (xs ++ ys) → w.grownBy w' (rowOf v) → (rowOf v' = rowOf v ∨ rowOf v' = some w.heap.size ∨ rowOf v' = none) → wpList Tryz.prog ops Q rest (a.put o.dst v') w') : wpList Tryz.prog ops Q (o :: rest) a w :=
  wpList_plain hgd fun _ hK => by
    subst hm
    obtain ⟨v', w', hr, h2, h3, h4⟩ := bapp_run hown c hy hlen hb o.type
    unfold Oper.wp execOp
    simp only [ho, resolve, invoke, builtin, Sem.run_bind, Sem.run_pure, Result.andThen_ok, List.map_toArray, List.map_cons, List.map_nil, hs, hx, hr]
    exact hK _ _ (h v' w' h2 h3 h4)

theorem ByOwn.nil (w : World) (base : Nat) : ByOwn w base (.slice none 0 0) [] := .inl (World.ownsRow_nil _ _ _ _)
theorem ByOwn.row {w : World} {base : Nat} {v : Value} {xs : List UInt8} (h : ByOwn w base v xs) {k : Nat} (hk : rowOf v = some k) : base ≤ k ∧ k < w.heap.size ∧ ∃ cur, w.heap[k]? = some (.cells cur 5 (0, 0)) := by
  rcases h with h | ⟨-, a, rfl⟩
  · rcases h.2 with ⟨rfl, -⟩ | ⟨g, cap, cur, rfl, hg, hc, -⟩
    · cases hk
    · have := rowOf_own hk
      simp only [Value.ownBlock, Option.some.injEq] at this
      subst this
      exact ⟨hg, (Array.getElem?_eq_some_iff.1 hc).1, cur, hc⟩
  · cases hk
/-- They stay if their block does. -/
theorem ByOwn.kept {w w' : World} {base : Nat} {v : Value} {xs : List UInt8} (h : ByOwn w base v xs) (hk : ∀ k, rowOf v = some k → w'.heap[k]? = w.heap[k]?) : ByOwn w' base v xs := by
  rcases h with h | h
  · rcases h.2 with ⟨rfl, hn⟩ | ⟨g, cap, cur, rfl, hg, hc, r⟩
    · exact .inl ⟨h.1, .inl ⟨rfl, hn⟩⟩
    · cases cap with
      | zero =>
        have hn : xs.length = 0 := Nat.le_zero.1 r.1
        exact .inr ⟨List.eq_nil_of_length_eq_zero hn, _, by rw [hn]⟩
      | succ cap => exact .inl ⟨h.1, .inr ⟨g, cap + 1, cur, rfl, hg, by rw [hk g rfl]; exact hc, r⟩⟩
  · exact .inr h
theorem ByOwn.low {w : World} {base base' : Nat} {v : Value} {xs : List UInt8} (h : ByOwn w base v xs) (hb : base' ≤ base) : ByOwn w base' v xs := by
  rcases h with h | h
  · refine .inl ⟨h.1, ?_⟩
    rcases h.2 with h2 | ⟨g, cap, cur, e, hg, r⟩
    · exact .inl h2
    · exact .inr ⟨g, cap, cur, e, Nat.le_trans hb hg, r⟩
  · exact .inr h
/-- The first of them. -/
theorem ByOwn.take {w : World} {base : Nat} {A : Option Addr} {c : Nat} {xs : List UInt8} (h : ByOwn w base (.slice A xs.length c) xs) {m : Nat} (hm : m ≤ xs.length) : ByOwn w base (.slice A m c) (xs.take m) := by
  rcases h with h | ⟨rfl, a, e⟩
  · have hl : (xs.take m).length = m := by simp [hm]
    rcases h.2 with ⟨e, hn⟩ | ⟨g, cap, cur, e, hg, hc, h1, h2, h3, h4⟩
    · simp only [Value.slice.injEq] at e
      obtain ⟨rfl, -, rfl⟩ := e
      have hm0 : m = 0 := by omega
      subst hm0
      exact ByOwn.nil _ _
    · simp only [Value.slice.injEq, true_and] at e
      obtain ⟨rfl, rfl⟩ := e
      refine .inl ⟨by simp [bV, hm], .inr ⟨g, c, cur, by rw [hl], hg, hc, by rw [hl]; omega, h2, h3, ?_⟩⟩
      rw [hl]
      have h4' : cur.toList.take xs.length = bV xs := by simpa using h4
      have : bV (xs.take m) = (bV xs).take m := by simp [bV, List.map_take]
      rw [this, ← h4', List.take_take, Nat.mul_one, Nat.min_eq_left hm]
  · simp only [Value.slice.injEq] at e
    obtain ⟨rfl, -, rfl⟩ := e
    have hm0 : m = 0 := by simpa using hm
    subst hm0
    exact .inr ⟨rfl, a, rfl⟩

/-- What a disk is. -/
structure Dk where
  bytes : List UInt8
  safe : Nat
  down : Bool
  lost : Bool
  left : Nat

def Dk.cells (d : Dk) (g : Nat) (v : Value) : Array Value := #[.pointer (some ⟨g, 0, none⟩), v, .int .i64 (d.safe : Int), .bool d.down, .bool d.lost, .int .i64 (d.left : Int)]
structure DiskAt (w : World) (base g : Nat) (v : Value) (d : Dk) : Prop where
  low : base ≤ g
  obj : w.heap[g]? = some (.cells (d.cells g v) 92 (0, 0))
  own : ByOwn w base v d.bytes
  safe : d.safe ≤ d.bytes.length
  most : d.bytes.length ≤ 65536
  left : d.left ≤ 9223372036854775807

theorem DiskAt.lt {w : World} {base g : Nat} {v : Value} {d : Dk} (h : DiskAt w base g v d) : g < w.heap.size := (Array.getElem?_eq_some_iff.1 h.obj).1
theorem DiskAt.cell {w : World} {base g : Nat} {v : Value} {d : Dk} (h : DiskAt w base g v d) (i : Nat) : w.cell? ⟨g, i, none⟩ = (d.cells g v)[i]? := cell_of_row w g i _ _ (0, 0) h.obj
theorem DiskAt.frozen {w : World} {base g : Nat} {v : Value} {d : Dk} (h : DiskAt w base g v d) (i : Nat) : w.frozen? ⟨g, i, none⟩ = false := by simp [World.frozen?, h.obj]
theorem DiskAt.six {w : World} {base g : Nat} {v : Value} {d : Dk} (h : DiskAt w base g v d) :
    w.cell? ⟨g, 0, none⟩ = some (.pointer (some ⟨g, 0, none⟩)) ∧ w.cell? ⟨g, 1, none⟩ = some v ∧ w.cell? ⟨g, 2, none⟩ = some (.int .i64 (d.safe : Int)) ∧ w.cell? ⟨g, 3, none⟩ = some (.bool d.down) ∧ w.cell? ⟨g, 4, none⟩ = some (.bool d.lost) ∧ w.cell? ⟨g, 5, none⟩ = some (.int .i64 (d.left : Int)) := by
  simp only [h.cell]; exact ⟨rfl, rfl, rfl, rfl, rfl, rfl⟩
/-- The disk's own block is not the one of its bytes. -/
theorem DiskAt.row_ne {w : World} {base g : Nat} {v : Value} {d : Dk} (h : DiskAt w base g v d) : rowOf v ≠ some g := fun e => by
  obtain ⟨-, -, cur, hc⟩ := h.own.row e
  rw [h.obj] at hc
  simp only [Option.some.injEq, Obj.cells.injEq] at hc
  exact absurd hc.2.1 (of_decide_eq_false (by kernel_rfl))
/-- What an act on a disk turns. -/
structure Turn (w w' : World) (g : Nat) (row : Option Nat) : Prop where
  os : w'.os = w.os
  tape : w'.tape = w.tape
  output : w'.output = w.output
  size : w.heap.size ≤ w'.heap.size
  block : ∀ k, k < w.heap.size → k ≠ g → some k ≠ row → w'.heap[k]? = w.heap[k]?
theorem Turn.below {w w' : World} {g : Nat} {row : Option Nat} (h : Turn w w' g row) {base : Nat} (hg : base ≤ g) (hr : ∀ k, row = some k → base ≤ k) (hs : base ≤ w.heap.size) : Below base w w' :=
  ⟨h.os, h.tape, h.output, h.size, fun k hk => h.block k (by omega) (by omega) (fun e => by have := hr k e.symm; omega)⟩

theorem eq_ptr (W : World) (a : Addr) : (binOp .eql 23 (.pointer (some a)) (.pointer (some a))).run Tryz.prog W = .ok (.bool true) W := by
  obtain ⟨j, hj⟩ : ∃ j, Tryz.prog.info? 92 = some j := Option.isSome_iff_exists.1 (by kernel_rfl)
  exact run_eql_ptr_same W a Tryz.underlying23 hj
end Go.Proofs.YtpeinngifknpkaaGreatDoor
