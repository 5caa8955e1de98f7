/- Disks: the document's own in memory. -/
import Derived.Test.YtpeinngifknpkaaGreatDoorDiskRef
namespace Go.Proofs.YtpeinngifknpkaaGreatDoor
open Go.RowKit Go.Sort

theorem two_of {w w2 : World} {X Y : Array Value} {T T' : TypeId} (hb : Below ((w.alloc (.cells X T)).alloc (.cells Y T')).heap.size ((w.alloc (.cells X T)).alloc (.cells Y T')) w2) :
    w2.heap[w.heap.size]? = some (.cells X T (0, 0)) ∧ w2.heap[w.heap.size + 1]? = some (.cells Y T' (0, 0)) ∧ Below w.heap.size w w2 := by
  refine ⟨(hb.block w.heap.size (by simp; omega)).trans ?_, (hb.block (w.heap.size + 1) (by simp)).trans ?_, (((Below.refl _ w).alloc (Nat.le_refl _) _).alloc (by simp) _).trans (hb.mono (by simp; omega))⟩
  · show ((w.heap.push _).push _)[w.heap.size]? = _
    rw [Array.getElem?_push]
    simp
  · show ((w.heap.push _).push _)[w.heap.size + 1]? = _
    rw [Array.getElem?_push]
    simp
theorem six_of {w : World} {g : Nat} {a b c d e f : Value} {T : TypeId} (h : w.heap[g]? = some (.cells #[a, b, c, d, e, f] T (0, 0))) :
    (w.cell? ⟨g, 0, none⟩ = some a ∧ w.cell? ⟨g, 1, none⟩ = some b ∧ w.cell? ⟨g, 2, none⟩ = some c ∧ w.cell? ⟨g, 3, none⟩ = some d ∧ w.cell? ⟨g, 4, none⟩ = some e ∧ w.cell? ⟨g, 5, none⟩ = some f) ∧ ∀ i, w.frozen? ⟨g, i, none⟩ = false :=
  ⟨⟨cell_of_row w g 0 _ _ (0, 0) h, cell_of_row w g 1 _ _ (0, 0) h, cell_of_row w g 2 _ _ (0, 0) h, cell_of_row w g 3 _ _ (0, 0) h, cell_of_row w g 4 _ _ (0, 0) h, cell_of_row w g 5 _ _ (0, 0) h⟩, fun i => by simp [World.frozen?, h]⟩

/-- A struct of six cells is stored. -/
theorem wpList_put6 {w : World} {ops : Array Oper} {rest : List Oper} {o : Oper} {a : Act} {Q : Exit → Act → World → Prop} (hgd : o.guard = none) (hds : o.dst = none) (p x : Operand)
    (ho : o.op = .store 26 p x) (g : Nat) (u0 u1 u2 u3 u4 u5 : Value) (s : ByteArray) (safe : Int) (down lost armed : Bool) (left : Int)
    (hp : a.eval p = .pointer (some ⟨g, 0, none⟩)) (hx : a.eval x = .agg #[.string s, .int .i64 safe, .bool down, .bool lost, .bool armed, .int .i64 left])
    (hb : w.heap[g]? = some (.cells #[u0, u1, u2, u3, u4, u5] 26 (0, 0)))
    (h : ∀ w' : World, w'.heap[g]? = some (.cells #[.string s, .int .i64 safe, .bool down, .bool lost, .bool armed, .int .i64 left] 26 (0, 0)) → (∀ k, k ≠ g → w'.heap[k]? = w.heap[k]?) → Turn w w' g none → wpList Tryz.prog ops Q rest a w') : wpList Tryz.prog ops Q (o :: rest) a w :=
  wpList_plain hgd fun _ hK => by
    obtain ⟨⟨c0, c1, c2, c3, c4, c5⟩, f⟩ := six_of hb
    have h' := h ((((((w.setCell ⟨g, 0, none⟩ (.string s)).setCell ⟨g, 1, none⟩ (.int .i64 safe)).setCell ⟨g, 2, none⟩ (.bool down)).setCell ⟨g, 3, none⟩ (.bool lost)).setCell ⟨g, 4, none⟩ (.bool armed)).setCell ⟨g, 5, none⟩ (.int .i64 left)) (by simp [World.setCell, Array.getElem?_modify, hb])
      (fun k hk => by rw [Below.heap_setCell _ _ _ _ hk, Below.heap_setCell _ _ _ _ hk, Below.heap_setCell _ _ _ _ hk, Below.heap_setCell _ _ _ _ hk, Below.heap_setCell _ _ _ _ hk, Below.heap_setCell _ _ _ _ hk])
      ((((((Turn.set _ _ _ _ none).trans (Turn.set _ _ _ _ none) (fun _ h => by cases h)).trans (Turn.set _ _ _ _ none) (fun _ h => by cases h)).trans (Turn.set _ _ _ _ none) (fun _ h => by cases h)).trans (Turn.set _ _ _ _ none) (fun _ h => by cases h)).trans (Turn.set _ _ _ _ none) (fun _ h => by cases h))
    clear h hb
    unfold Oper.wp execOp
    simp only [ho, hp, hx, hds]
    simp [go_sem, hds, c0, c1, c2, c3, c4, c5, f]
    exact hK _ _ h'
end Go.Proofs.YtpeinngifknpkaaGreatDoor
