/- Nets and arrays of three ints that came in: what they read as. -/
import Derived.Test.YtddejjilfmphbaaGreatDoorNewDelays
import Derived.ChangeSlices
import Derived.OpenShut
import Derived.ProofKit
import Derived.Deep.Slices
import Derived.Deep.SlicePairs
import Derived.Lib.SmallJoins
namespace Go.Proofs.YtddejjilfmphbaaGreatDoor
open Go.ChangeShapes Go.WideShapes Go.ChangeAt Go.RowKit Go.Deep

theorem cells_arc3 : Tryz.prog.cellsOf 56 = 3 := by kernel_rfl
theorem cells_net2 : Tryz.prog.cellsOf 24 = 2 := by kernel_rfl
theorem cells_intA : Tryz.prog.cellsOf 3 = 1 := by kernel_rfl
instance : Inhabited Arc := ⟨⟨0, 0, 0⟩⟩
def I64 (x : Int) : Prop := -9223372036854775808 ≤ x ∧ x ≤ 9223372036854775807

set_option maxRecDepth 100000 in
theorem fields_arc : ∃ f0 f1 f2 : Field, Tryz.prog.underlying 56 = some (.struct #[f0, f1, f2]) ∧ (f0.type = 3 ∧ f0.offset = 0) ∧ (f1.type = 3 ∧ f1.offset = 1) ∧ (f2.type = 3 ∧ f2.offset = 2) := by
  have h : Tryz.prog.underlying 56 = some (.struct (Tryz.prog.fieldsOf 56)) := by kernel_rfl
  have k : (Tryz.prog.fieldsOf 56).toList.map (fun f => (f.type, f.offset)) = [(3, 0), (3, 1), (3, 2)] := by kernel_rfl
  generalize Tryz.prog.fieldsOf 56 = fs at *
  obtain ⟨l⟩ := fs
  match l, k with
  | [f0, f1, f2], k =>
    simp only [List.map_cons, List.map_nil, List.cons.injEq, Prod.mk.injEq, and_true] at k
    exact ⟨f0, f1, f2, h, k.1, k.2.1, k.2.2⟩
set_option maxRecDepth 100000 in
theorem fields_net : ∃ f0 f1 : Field, Tryz.prog.underlying 24 = some (.struct #[f0, f1]) ∧ (f0.type = 3 ∧ f0.offset = 0) ∧ (f1.type = 22 ∧ f1.offset = 1) := by
  have h : Tryz.prog.underlying 24 = some (.struct (Tryz.prog.fieldsOf 24)) := by kernel_rfl
  have k : (Tryz.prog.fieldsOf 24).toList.map (fun f => (f.type, f.offset)) = [(3, 0), (22, 1)] := by kernel_rfl
  generalize Tryz.prog.fieldsOf 24 = fs at *
  obtain ⟨l⟩ := fs
  match l, k with
  | [f0, f1], k =>
    simp only [List.map_cons, List.map_nil, List.cons.injEq, Prod.mk.injEq, and_true] at k
    exact ⟨f0, f1, h, k.1, k.2⟩

set_option maxRecDepth 100000 in
theorem arcs_open {H : Type} {enc : TypeId × Value → H} {W : World} {fuel : Nat} {v : Value} {x : DataW H × List MemPlace} (hf : DataW.trod enc Tryz.prog W 0 (fun _ => true) true fuel 22 [v] = some x) :
    ∃ (A : Option Addr) (n c : Nat) (l : List Arc), v = .slice A n c ∧ l.length = n ∧ n ≤ c ∧ n ≤ 9223372036854775807 ∧ (∀ a ∈ l, I64 a.f ∧ I64 a.t ∧ I64 a.d) ∧ ArcsAt W A l := by
  obtain ⟨f0, f1, f2, hs, ⟨t0, o0⟩, ⟨t1, o1⟩, ⟨t2, o2⟩⟩ := fields_arc
  rcases open_slice Tryz.underlying22 hf with ⟨hcs, -⟩ | ⟨a, len, cap, m, n', D, Pl, hcs, hb, hl, hm, hmm, -, hi⟩
  · simp only [List.cons.injEq, and_true] at hcs
    exact ⟨none, 0, 0, [], hcs, rfl, Nat.le_refl _, by omega, (fun _ h => nomatch h), fun h => absurd rfl h⟩
  · simp only [List.cons.injEq, and_true] at hcs
    subst hcs
    simp only [if_true] at hmm
    subst m
    simp only [maxLen] at hm
    have each : ∀ i, i < cap → ∃ q : Arc, W.cell? (a.add (i * 3)) = some (.int .i64 q.f) ∧ W.cell? ((a.add (i * 3)).add 1) = some (.int .i64 q.t) ∧ W.cell? ((a.add (i * 3)).add 2) = some (.int .i64 q.d) ∧ I64 q.f ∧ I64 q.t ∧ I64 q.d := by
      intro i hic
      obtain ⟨cs', h1, h2⟩ := hi i hic
      rw [cells_arc3] at h1
      obtain ⟨_, hlen, hcell⟩ := World.cells?_some h1
      obtain ⟨ys, k, hk, hxy, _, hxl, hff⟩ := DataW.trod_struct hs h2
      match ys, hxl, cs', hlen with
      | [y0, y1, y2], _, [v0, v1, v2], _ =>
        have g0 := hff 0 f0 rfl
        have g1 := hff 1 f1 rfl
        have g2 := hff 2 f2 rfl
        rw [t0, o0, cells_intA] at g0
        rw [t1, o1, cells_intA] at g1
        rw [t2, o2, cells_intA] at g2
        simp at g0 g1 g2
        have q0 := hcell 0 (by omega)
        have q1 := hcell 1 (by omega)
        have q2 := hcell 2 (by omega)
        obtain ⟨z0, e0, -, w0⟩ := DataW.trod_int Tryz.underlying3 g0
        obtain ⟨z1, e1, -, w1⟩ := DataW.trod_int Tryz.underlying3 g1
        obtain ⟨z2, e2, -, w2⟩ := DataW.trod_int Tryz.underlying3 g2
        simp only [List.cons.injEq, and_true] at e0 e1 e2
        subst e0 e1 e2
        have q0' : W.cell? (a.add (i * 3)) = some (.int .i64 z0) := by
          have e : (a.add (i * 3)).add 0 = a.add (i * 3) := by unfold Addr.add; split <;> simp_all
          rw [← e]; simpa using q0
        exact ⟨⟨z0, z1, z2⟩, q0', by simpa using q1, by simpa using q2, bounds_i64 w0, bounds_i64 w1, bounds_i64 w2⟩
    obtain ⟨q, hq⟩ := choose_lt each
    refine ⟨some a, len, cap, (List.range len).map q, rfl, by simp, hl, by omega, fun x hx => ?_, fun hne => ?_⟩
    · obtain ⟨i, hi2, rfl⟩ := List.mem_map.1 hx
      have := hq i (by have := List.mem_range.1 hi2; omega)
      exact this.2.2.2
    · have hn : 0 < len := by
        rcases Nat.eq_zero_or_pos len with h0 | h0
        · subst h0; simp at hne
        · exact h0
      obtain ⟨b, off, key⟩ := a
      have hk : key = none := by simpa [Addr.add] using World.cell?_spot (hq 0 (by omega)).1
      subst hk
      have e : ∀ o j, (⟨b, o, none⟩ : Addr).add j = ⟨b, o + j, none⟩ := fun o j => by unfold Addr.add; split <;> simp_all
      refine ⟨b, off, rfl, ?_, fun i p hp => ?_⟩
      · have := (hq 0 (by omega)).1
        rw [e] at this
        exact World.block_lt_of_cell? W _ this
      · rw [List.getElem?_map] at hp
        have hin : i < len := by
          rcases Nat.lt_or_ge i len with g | g
          · exact g
          · rw [List.getElem?_eq_none (by simpa using g)] at hp; cases hp
        rw [List.getElem?_range hin] at hp
        obtain rfl : q i = p := by simpa using hp
        obtain ⟨h1, h2, h3, -⟩ := hq i (by omega)
        rw [e] at h1 h2 h3
        rw [e] at h2 h3
        exact ⟨h1, h2, h3⟩
set_option maxRecDepth 100000 in
theorem net_open {H : Type} {enc : TypeId × Value → H} {W : World} {r : Reach} {b0 : Nat} {v : Value} {d : DataW H} {p : List MemPlace} (hv : Value.okWide Tryz.prog W r b0 24 v) (h : DataW.Trod enc Tryz.prog W 0 (fun _ => true) true 24 v d p) :
    ∃ (gn : Int) (A : Option Addr) (n c : Nat) (l : List Arc), v = .agg #[.int .i64 gn, .slice A n c] ∧ I64 gn ∧ l.length = n ∧ n ≤ c ∧ n ≤ 9223372036854775807 ∧ (∀ a ∈ l, I64 a.f ∧ I64 a.t ∧ I64 a.d) ∧ ArcsAt W A l := by
  obtain ⟨f0, f1, hs, ⟨t0, o0⟩, t1, o1⟩ := fields_net
  have hone : oneCellFields Tryz.prog #[f0, f1] = true := by
    have : (Tryz.prog.underlying 24).map (fun u => match u with | .struct fs => oneCellFields Tryz.prog fs | _ => false) = some true := by kernel_rfl
    rw [hs] at this
    simpa using this
  obtain ⟨v0, v1, y0, y1, n, rfl, rfl, rfl, g0, g1⟩ := Go.Joins.open_agg2 hs hone cells_net2 hv h
  rw [t0] at g0
  rw [t1] at g1
  obtain ⟨x, e0, k0, w0⟩ := DataW.trod_int Tryz.underlying3 g0
  simp only [List.cons.injEq, and_true] at e0
  subst e0
  obtain ⟨A, n, c, l, rfl, a1, a2, a3, a4, a5⟩ := arcs_open g1
  exact ⟨x, A, n, c, l, rfl, bounds_i64 w0, a1, a2, a3, a4, a5⟩
set_option maxRecDepth 100000 in
theorem int3_open {H : Type} {enc : TypeId × Value → H} {W : World} {r : Reach} {b0 : Nat} {v : Value} {d : DataW H} {p : List MemPlace} (hv : Value.okWide Tryz.prog W r b0 38 v) (h : DataW.Trod enc Tryz.prog W 0 (fun _ => true) true 38 v d p) :
    ∃ a b c : Int, v = .agg #[.int .i64 a, .int .i64 b, .int .i64 c] ∧ I64 a ∧ I64 b ∧ I64 c := by
  have hu : Tryz.prog.underlying 38 = some (.array 3 3) := Tryz.underlying38
  have h2 : Tryz.prog.cellsOf 38 = 3 := by kernel_rfl
  have hv' : ∃ cs : Array Value, v = .agg cs ∧ cs.size = 3 := by
    simp only [Value.okWide, hu] at hv
    obtain ⟨cs, e1, e2, _⟩ := hv
    exact ⟨cs, e1, by rw [e2, h2]⟩
  obtain ⟨cs, rfl, hsz⟩ := hv'
  obtain ⟨l⟩ := cs
  match l, hsz with
  | [c0, c1, c2], _ =>
    obtain ⟨fuel, hf⟩ := h
    cases fuel with
    | zero => simp [DataW.trod] at hf
    | succ m =>
      rw [DataW.trod_step] at hf
      unfold DataW.trodStep at hf
      simp only [hu, Value.cells, cells_intA] at hf
      rw [if_pos (by rw [h2]; rfl)] at hf
      simp only [Option.map_eq_some_iff] at hf
      obtain ⟨ys, hy, e1⟩ := hf
      simp only [List.range_succ, List.range_zero, List.nil_append, List.cons_append, List.mapM_cons, List.mapM_nil, bind, Option.bind_eq_some_iff, pure, Option.some.injEq] at hy
      obtain ⟨y0, hy0, ys1, ⟨y1, hy1, ys2, ⟨y2, hy2, ys3, rfl, rfl⟩, rfl⟩, rfl⟩ := hy
      obtain ⟨a, ea, -, wa⟩ := DataW.trod_int Tryz.underlying3 hy0
      obtain ⟨b, eb, -, wb⟩ := DataW.trod_int Tryz.underlying3 hy1
      obtain ⟨c, ec, -, wc⟩ := DataW.trod_int Tryz.underlying3 hy2
      simp at ea eb ec
      exact ⟨a, b, c, by rw [ea, eb, ec], bounds_i64 wa, bounds_i64 wb, bounds_i64 wc⟩
end Go.Proofs.YtddejjilfmphbaaGreatDoor
