/- Slices of points, and points, that came in: what they read as. -/
import Derived.Test.YtnijcdphmibjaaaDevPts
import Derived.ChangeSlices
import Derived.OpenShut
import Derived.ProofKit
import Derived.Deep.SlicePairs
import Derived.Lib.SmallJoins
namespace Go.Proofs.Ytnijcdphmibjaaa
open Go.ChangeShapes Go.WideShapes Go.ChangeAt Go.RowKit Go.Deep

theorem cells_pt : Try.prog.cellsOf 33 = 2 := by kernel_rfl
theorem cells_int1 : Try.prog.cellsOf 3 = 1 := by kernel_rfl

set_option maxRecDepth 100000 in
theorem fields_pt : ∃ f0 f1 : Field, Try.prog.underlying 33 = some (.struct #[f0, f1]) ∧ f0.offset = 0 ∧ f1.offset = 1 ∧ f0.type = 3 ∧ f1.type = 3 := by
  have h : Try.prog.underlying 33 = some (.struct (Try.prog.fieldsOf 33)) := by kernel_rfl
  have k : (Try.prog.fieldsOf 33).toList.map (fun f => (f.type, f.offset)) = [(3, 0), (3, 1)] := by kernel_rfl
  generalize Try.prog.fieldsOf 33 = fs at *
  obtain ⟨l⟩ := fs
  match l, k with
  | [f0, f1], k =>
    simp only [List.map_cons, List.map_nil, List.cons.injEq, Prod.mk.injEq, and_true] at k
    exact ⟨f0, f1, h, k.1.2, k.2.2, k.1.1, k.2.1⟩

set_option maxRecDepth 100000 in
theorem pts_open {H : Type} {enc : TypeId × Value → H} {W : World} {A : Option Addr} {n c : Nat} {d : DataW H} {p : List MemPlace} (h : DataW.Trod enc Try.prog W 0 (fun _ => true) true 22 (.slice A n c) d p) :
    ∃ xs : List Pt, xs.length = n ∧ n ≤ c ∧ n ≤ 9223372036854775807 ∧ (∀ x ∈ xs, (-9223372036854775808 ≤ x.1 ∧ x.1 ≤ 9223372036854775807) ∧ (-9223372036854775808 ≤ x.2 ∧ x.2 ≤ 9223372036854775807)) ∧ PtsAt W A xs := by
  obtain ⟨fuel, hf⟩ := h
  obtain ⟨f0, f1, hs, o0, o1, t0, t1⟩ := fields_pt
  rcases open_slice_pairs Try.underlying22 hs cells_pt o0 o1 (by rw [t0]; exact cells_int1) (by rw [t1]; exact cells_int1) hf with ⟨hcs, hx⟩ | ⟨a, len, cap, m, n', V0, V1, D0, D1, P0, P1, hcs, hb, hl, hm, hmm, hx, hi⟩
  · simp [Value.cells] at hcs
    obtain ⟨rfl, rfl, rfl⟩ := hcs
    exact ⟨[], rfl, Nat.le_refl _, by omega, by simp, PtsAt.nil _ _⟩
  · simp [Value.cells] at hcs
    obtain ⟨e0, e1, e2⟩ := hcs
    subst e0
    have e1' : n = len := by first | exact e1 | exact e1.symm
    have e2' : c = cap := by first | exact e2 | exact e2.symm
    clear e1 e2
    subst e1' e2'
    simp only [if_true] at hmm
    subst m
    simp only [maxLen] at hm
    rw [t0, t1] at hi
    have each : ∀ i, i < c → ∃ q : Pt, W.cell? (a.add (i * 2)) = some (.int .i64 q.1) ∧ W.cell? (a.add (i * 2 + 1)) = some (.int .i64 q.2) ∧ ((-9223372036854775808 ≤ q.1 ∧ q.1 ≤ 9223372036854775807) ∧ (-9223372036854775808 ≤ q.2 ∧ q.2 ≤ 9223372036854775807)) := by
      intro i hic
      obtain ⟨c0, c1, d0, d1⟩ := hi i hic
      obtain ⟨x, e0, _, w0⟩ := DataW.trod_int Try.underlying3 d0
      obtain ⟨y, e1, _, w1⟩ := DataW.trod_int Try.underlying3 d1
      simp only [List.cons.injEq, and_true] at e0 e1
      rw [e0] at c0
      rw [e1] at c1
      exact ⟨(x, y), c0, c1, bounds_i64 w0, bounds_i64 w1⟩
    obtain ⟨q, hq⟩ := choose_lt each
    refine ⟨(List.range n).map q, by simp, hl, by omega, fun x hx => ?_, fun hne => ?_⟩
    · obtain ⟨i, hi', rfl⟩ := List.mem_map.1 hx
      exact (hq i (by have := List.mem_range.1 hi'; omega)).2.2
    · have hn : 0 < n := by
        rcases Nat.eq_zero_or_pos n with h0 | h0
        · subst h0; simp at hne
        · exact h0
      obtain ⟨b, off, key⟩ := a
      have hk : key = none := by simpa [Addr.add] using World.cell?_spot ((hq 0 (by omega)).1)
      subst hk
      have e : ∀ j, (⟨b, off, none⟩ : Addr).add j = ⟨b, off + j, none⟩ := fun j => by unfold Addr.add; split <;> simp_all
      refine ⟨b, off, rfl, ?_, fun i p hp => ?_⟩
      · have := (hq 0 (by omega)).1
        rw [e] at this
        exact World.block_lt_of_cell? W _ this
      · rw [List.getElem?_map] at hp
        have hin : i < n := by
          rcases Nat.lt_or_ge i n with g | g
          · exact g
          · rw [List.getElem?_eq_none (by simpa using g)] at hp; cases hp
        rw [List.getElem?_range hin] at hp
        obtain rfl : q i = p := by simpa using hp
        obtain ⟨c0, c1, _⟩ := hq i (by omega)
        rw [e] at c0 c1
        exact ⟨by simpa [Nat.add_assoc] using c0, by simpa [Nat.add_assoc] using c1⟩

set_option maxRecDepth 100000 in
theorem pt_open {H : Type} {enc : TypeId × Value → H} {W : World} {r : Reach} {b0 : Nat} {v : Value} {d : DataW H} {p : List MemPlace} (hv : Value.okWide Try.prog W r b0 33 v) (h : DataW.Trod enc Try.prog W 0 (fun _ => true) true 33 v d p) :
    ∃ a b : Int, v = .agg #[.int .i64 a, .int .i64 b] ∧ d = .agg [.lit (.int .i64 a), .lit (.int .i64 b)] ∧ p = [] ∧ (Lit.int .i64 a).wf = true ∧ (Lit.int .i64 b).wf = true := by
  obtain ⟨f0, f1, hs, o0, o1, t0, t1⟩ := fields_pt
  have hone : oneCellFields Try.prog #[f0, f1] = true := by
    have : (Try.prog.underlying 33).map (fun u => match u with | .struct fs => oneCellFields Try.prog fs | _ => false) = some true := by kernel_rfl
    rw [hs] at this
    simpa using this
  obtain ⟨v0, v1, y0, y1, n, rfl, rfl, rfl, g0, g1⟩ := Go.Joins.open_agg2 hs hone cells_pt hv h
  rw [t0] at g0
  rw [t1] at g1
  obtain ⟨x, e0, k0, w0⟩ := DataW.trod_int Try.underlying3 g0
  obtain ⟨y, e1, k1, w1⟩ := DataW.trod_int Try.underlying3 g1
  simp only [List.cons.injEq, and_true] at e0 e1
  subst e0 e1 k0 k1
  exact ⟨x, y, rfl, rfl, rfl, w0, w1⟩
end Go.Proofs.Ytnijcdphmibjaaa
