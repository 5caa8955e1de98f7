/- States and delays as values: arrays of 16 and of 256 ints. -/
import Derived.Laws.CopyOwn
import Derived.ChangeKeysEq
import Derived.WalkKit
import Derived.WalkSpells
import Derived.WalkLawsBesides
import Derived.Handy
import Derived.Lib.Hide
import Derived.Deep.Draws
import Derived.RegionTactic
import Derived.Deep.CutBlock
import Derived.BigQuiet
import Derived.Lib.QuietBelow
import Derived.StillTailTactics
import Derived.Deep.RegionHeld3
import Derived.Deep.RegionWith
import Derived.Deep.DeepCutAuto
import Derived.Deep.MidRow
import Derived.Deep.WholeRow
import Derived.Test.YtddejjilfmphbaaGreatDoorBagCut
import Derived.Test.YtddejjilfmphbaaGreatDoorMaxPlus
namespace Go.Proofs.YtddejjilfmphbaaGreatDoor
open Go.RowKit Go.Sort

abbrev tState : TypeId := 50
abbrev tDelays : TypeId := 69
theorem u_state : Tryz.prog.underlying 50 = some (.array 16 3) := Tryz.underlying50
theorem u_delays : Tryz.prog.underlying 69 = some (.array 16 49) := Tryz.underlying69
theorem u_row : Tryz.prog.underlying 49 = some (.array 16 3) := Tryz.underlying49
theorem i_state : (Tryz.prog.info? 50).map (·.size) = some 16 := by kernel_rfl
theorem i_delays : (Tryz.prog.info? 69).map (·.size) = some 256 := by kernel_rfl
theorem i_row : (Tryz.prog.info? 49).map (·.size) = some 16 := by kernel_rfl

/-- A time as a value. -/
def tV (a : Option Int) : Value := .int .i64 (MP.enc a)
def sV (x : Nat → Option Int) : List Value := (List.range 16).map fun i => tV (x i)
def mV (D : Nat → Nat → Option Int) : List Value := (List.range 256).map fun k => tV (D (k / 16) (k % 16))
theorem sV_length (x : Nat → Option Int) : (sV x).length = 16 := by simp [sV]
theorem mV_length (D : Nat → Nat → Option Int) : (mV D).length = 256 := by simp [mV]
theorem sV_get (x : Nat → Option Int) {i : Nat} (h : i < 16) : (sV x)[i]? = some (tV (x i)) := by simp [sV, h]
theorem mV_get (D : Nat → Nat → Option Int) {i j : Nat} (h : i < 16) (k : j < 16) : (mV D)[16 * i + j]? = some (tV (D i j)) := by
  have h1 : 16 * i + j < 256 := by omega
  have h2 : (16 * i + j) / 16 = i := by omega
  have h3 : (16 * i + j) % 16 = j := by omega
  simp [mV, h1, h2, h3]
theorem tV_cell (a : Option Int) : (tV a).oneCell' = true := rfl
theorem sV_cell (x : Nat → Option Int) : ∀ v ∈ sV x, v.oneCell' = true := fun v h => by
  simp only [sV, List.mem_map] at h
  obtain ⟨i, -, rfl⟩ := h
  rfl
theorem mV_cell (D : Nat → Nat → Option Int) : ∀ v ∈ mV D, v.oneCell' = true := fun v h => by
  simp only [mV, List.mem_map] at h
  obtain ⟨i, -, rfl⟩ := h
  rfl
theorem sV_congr {x y : Nat → Option Int} (h : ∀ i, i < 16 → x i = y i) : sV x = sV y := by
  refine List.map_congr_left fun i hi => ?_
  rw [h i (List.mem_range.1 hi)]
theorem sV_ext {l : List Value} {x : Nat → Option Int} (hl : l.length = 16) (h : ∀ i, i < 16 → l[i]? = some (tV (x i))) : l = sV x := by
  apply List.ext_getElem?
  intro i
  rcases Nat.lt_or_ge i 16 with g | g
  · rw [h i g, sV_get x g]
  · rw [List.getElem?_eq_none (by omega), List.getElem?_eq_none (by rw [sV_length]; omega)]
/-- A row of delays. -/
theorem mV_row (D : Nat → Nat → Option Int) {i : Nat} (h : i < 16) : ((mV D).drop (16 * i)).take 16 = sV (D i) := by
  apply sV_ext
  · simp [mV_length]; omega
  · intro j hj
    rw [List.getElem?_take, if_pos hj, List.getElem?_drop, mV_get D h hj]

theorem zero_state : ∃ z, Tryz.prog.info? 50 = some z ∧ z.zero = some (.agg (List.replicate 16 (.int .i64 0)).toArray) ∧ z.size = 16 := by
  have h : (Tryz.prog.info? 50).map (fun i => (i.zero, i.size)) = some (some (.agg (List.replicate 16 (.int .i64 0)).toArray), 16) := by kernel_rfl
  obtain ⟨z, hz, e⟩ := Option.map_eq_some_iff.1 h
  simp only [Prod.mk.injEq] at e
  exact ⟨z, hz, e.1, e.2⟩
theorem Blk.newAt (w : World) (t : TypeId) (cs : Array Value) {g : Nat} (h : g = w.heap.size) : Blk (w.alloc (.cells cs t)) g t cs := by subst h; exact Blk.new w t cs
/-- A whole array is stored into a block of its own. -/
theorem wpList_putrow {w : World} {ops : Array Oper} {rest : List Oper} {o : Oper} {a : Act} {Q : Exit → Act → World → Prop} (hgd : o.guard = none) (ty : TypeId) (x y : Operand) (ho : o.op = .store ty x y)
    (g : Nat) (cells : List Value) (hx : a.eval x = .pointer (some ⟨g, 0, none⟩)) (hy : a.eval y = .agg cells.toArray) (t : TypeId) (old : List Value) (hg : w.heap[g]? = some (.cells old.toArray t (0, 0)))
    (hi : (Tryz.prog.info? ty).map (·.size) = some cells.length) (hold : old.length = cells.length) (h1 : ∀ v ∈ cells, v.oneCell' = true) (B : Nat) (w0 : World) (hb : Below B w0 w) (hBg : B ≤ g)
    (h : ∀ w', Hid (w'.heap[g]? = some (.cells cells.toArray t (0, 0))) → Hid (∀ k, k ≠ g → w'.heap[k]? = w.heap[k]?) → Hid (Below B w0 w') → wpList Tryz.prog ops Q rest (a.put o.dst undef) w') : wpList Tryz.prog ops Q (o :: rest) a w :=
  wpList_plain hgd fun _ hK => wp_store_row ty x y ho g cells.toArray hx hy t old.toArray hg (by simpa using hi) (by simpa using hold) (all_oneCell_toArray h1)
    (hK _ _ (h _ (Lib.hid (setRow_heap w g _ _ t _ hg)) (Lib.hid fun k hk => setRow_other w g k _ hk) (Lib.hid (below_setRow hb hBg _))))
theorem size_int1 (W : World) : (sizeOf 3).run Tryz.prog W = .ok 1 W := by
  have h : (Tryz.prog.info? 3).map (·.size) = some 1 := by kernel_rfl
  obtain ⟨i, hi, e⟩ := Option.map_eq_some_iff.1 h
  simp [sizeOf, typeInfo, hi, e]
theorem len_state : Tryz.prog.arrayLen 50 = 16 := by kernel_rfl
theorem elem_state : Tryz.prog.elem 50 = 3 := by kernel_rfl
/-- A slice of a whole array, of its first elements. -/
theorem slice_all (W : World) (g : Nat) : (Instr.sliceAt 50 (.pointer (some ⟨g, 0, none⟩)) none none none).run Tryz.prog W = .ok (.slice (some ⟨g, 0, none⟩) 16 16) W := by
  rw [run_sliceAt_array_all W _ _ (by rw [len_state, elem_state]; exact u_state), len_state, elem_state, size_int1]
  rfl
theorem slice_to (W : World) (g : Nat) (n : Int) (h0 : 0 ≤ n) (h : n ≤ 16) : (Instr.sliceAt 50 (.pointer (some ⟨g, 0, none⟩)) none (some (.int .i64 n)) none).run Tryz.prog W = .ok (.slice (some ⟨g, 0, none⟩) n.toNat 16) W := by
  rw [run_sliceAt_array_h W _ _ (by rw [len_state, elem_state]; exact u_state) _ _ h0 (by rw [len_state]; exact h), len_state, elem_state, size_int1]
  simp [slicedAt, Addr.add, Result.andThen]
/-- A place of a state, a row of delays. -/
theorem index_state (t : TypeId) (hu : Tryz.prog.underlying t = some (.array 16 3)) (x : Nat → Option Int) (k : Nat) (hk : k < 16) (W : World) : (Instr.index t (.agg (sV x).toArray) (.int .i64 (k : Int))).run Tryz.prog W = .ok (tV (x k)) W := by
  have hp : Tryz.prog.plainKey 3 = true := by kernel_rfl
  have h1 : (0 : Int) ≤ (k : Int) ∧ (k : Int) < ((16 : Nat) : Int) := by omega
  have h2 := run_part_plain W (P := Tryz.prog) hp (xs := (sV x).toArray) (off := k) (v := tV (x k)) (by simpa using sV_get x hk)
  unfold Instr.index
  simp [asIntOf, run_underlying hu, h1, size_int1, h2]
  intro h; omega
theorem agg_row (W : World) : (isAgg 49).run Tryz.prog W = .ok true W := by
  unfold isAgg
  rw [Sem.run_bind, run_underlying u_row W]
  rfl
theorem size_row (W : World) : (sizeOf 49).run Tryz.prog W = .ok 16 W := by
  obtain ⟨i, hi, e⟩ := Option.map_eq_some_iff.1 i_row
  simp [sizeOf, typeInfo, hi, e]
theorem index_delays (D : Nat → Nat → Option Int) (k : Nat) (hk : k < 16) (W : World) : (Instr.index 69 (.agg (mV D).toArray) (.int .i64 (k : Int))).run Tryz.prog W = .ok (.agg (sV (D k)).toArray) W := by
  have h1 : (0 : Int) ≤ (k : Int) ∧ (k : Int) < ((16 : Nat) : Int) := by omega
  have h2 : List.take 16 (List.drop (k * 16) (mV D)) = sV (D k) := by rw [Nat.mul_comm]; exact mV_row D hk
  unfold Instr.index Go.part
  simp [asIntOf, run_underlying u_delays, h1, size_row, agg_row, h2]
  omega
end Go.Proofs.YtddejjilfmphbaaGreatDoor
