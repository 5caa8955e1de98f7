/- Parts of the proof, one after the other: TileCap. -/
import Derived.Test.YtlekncamokiekaaGreatDoorTw4
import Derived.Maps.AppendAt
import Derived.Deep.AppendLies
import Derived.OwnWalk
import Derived.Laws.Rows
/- An append of one cutter to no cutters. -/
namespace Go.Proofs.YtlekncamokiekaaGreatDoor
open Go.RowKit Go.Sort

theorem info_cut : (Tryz.prog.info? 24).map (fun i => (i.zero, i.size, i.bytes)) = some (some (.agg #[.slice none 0 0, .bool false, .bool false]), 3, 32) := by kernel_rfl
theorem capp_run {w : World} {b : Nat} {u0 u1 u2 : Value} (h0 : w.cell? ⟨b, 0, none⟩ = some u0) (h1 : w.cell? ⟨b, 1, none⟩ = some u1) (h2 : w.cell? ⟨b, 2, none⟩ = some u2) (o0 : u0.oneCell' = true) (o1 : u1.oneCell' = true) (o2 : u2.oneCell' = true) (ty : TypeId) :
    ∃ g c w', (Builtin.append_ #[27, 27] ty #[.slice none 0 0, .slice (some ⟨b, 0, none⟩) 1 1]).run Tryz.prog w = .ok (.slice (some ⟨g, 0, none⟩) 1 c) w' ∧ w.heap.size ≤ g ∧
      (w'.cell? ⟨g, 0, none⟩ = some u0 ∧ w'.cell? ⟨g, 1, none⟩ = some u1 ∧ w'.cell? ⟨g, 2, none⟩ = some u2) ∧ w.grownBy w' none := by
  obtain ⟨i0, hi0, hz0, hz1, hz2⟩ := info_pparts info_cut
  have hc : ∀ j u, [u0, u1, u2][j]? = some u → w.cell? ((⟨b, 0, none⟩ : Addr).add j) = some u := by
    intro j u hu
    have e : (⟨b, 0, none⟩ : Addr).add j = ⟨b, 0 + j, none⟩ := by unfold Addr.add; split <;> simp_all
    rw [e, Nat.zero_add]
    match j, hu with
    | 0, hu => obtain rfl : u0 = u := by simpa using hu
               exact h0
    | 1, hu => obtain rfl : u1 = u := by simpa using hu
               exact h1
    | 2, hu => obtain rfl : u2 = u := by simpa using hu
               exact h2
    | j + 3, hu => simp at hu
  obtain ⟨v', w', hr, h2', h3, _, h5⟩ := run_append_own_at (P := Tryz.prog) w w.heap.size 27 ty 24 i0 _ 3 32 Tryz.underlying27 hi0 hz0 hz1 hz2 rfl (by omega) (.slice none 0 0) 0 [] (World.ownsRow_nil _ _ _ _) ⟨b, 0, none⟩ 1 1 [u0, u1, u2] rfl hc
    (fun u hu => by simp only [List.mem_cons, List.not_mem_nil, or_false] at hu; rcases hu with rfl | rfl | rfl <;> assumption) (by simp [maxLen]) (by omega) (Nat.le_refl _)
  rcases h2'.2 with ⟨_, hn⟩ | ⟨g, cap, cur, rfl, hb, hg, hnc, _, hsz, ht⟩
  · omega
  · have hat : ∀ j u, [u0, u1, u2][j]? = some u → w'.cell? ⟨g, j, none⟩ = some u := by
      intro j u hu
      have hj : j < 3 := (List.getElem?_eq_some_iff.1 hu).1
      rw [cell_of_row w' g j cur _ (0, 0) hg]
      have : (cur.toList.take ((0 + 1) * 3))[j]? = some u := by rw [ht]; simpa using hu
      rw [List.getElem?_take, if_pos (by omega)] at this
      simpa using this
    exact ⟨g, cap, w', hr, hb, ⟨hat 0 u0 rfl, hat 1 u1 rfl, hat 2 u2 rfl⟩, h3⟩

theorem wpList_capp {w : World} {ops : Array Oper} {rest : List Oper} {o : Oper} {a : Act} {Q : Exit → Act → World → Prop} (hgd : o.guard = none) (s x : Operand)
    (ho : o.op = .call { callee := .builtin .append, args := #[s, x], argTypes := #[27, 27] }) (b : Nat) (u0 u1 u2 : Value)
    (hs : a.eval s = .slice none 0 0) (hx : a.eval x = .slice (some ⟨b, 0, none⟩) 1 1) (h0 : w.cell? ⟨b, 0, none⟩ = some u0) (h1 : w.cell? ⟨b, 1, none⟩ = some u1) (h2 : w.cell? ⟨b, 2, none⟩ = some u2) (o0 : u0.oneCell' = true) (o1 : u1.oneCell' = true) (o2 : u2.oneCell' = true)
    (h : ∀ g c w', w.heap.size ≤ g → (w'.cell? ⟨g, 0, none⟩ = some u0 ∧ w'.cell? ⟨g, 1, none⟩ = some u1 ∧ w'.cell? ⟨g, 2, none⟩ = some u2) → w.grownBy w' none → wpList Tryz.prog ops Q rest (a.put o.dst (.slice (some ⟨g, 0, none⟩) 1 c)) w') : wpList Tryz.prog ops Q (o :: rest) a w :=
  wpList_plain hgd fun _ hK => by
    obtain ⟨g, c, w', hr, hg, hcs, hw⟩ := capp_run h0 h1 h2 o0 o1 o2 o.type
    unfold Oper.wp execOp
    simp only [ho, resolve, invoke, builtin, Sem.run_bind, Sem.run_pure, Result.andThen_ok, List.map_toArray, List.map_cons, List.map_nil, hs, hx, hr]
    exact hK _ _ (h g c w' hg hcs hw)
end Go.Proofs.YtlekncamokiekaaGreatDoor
