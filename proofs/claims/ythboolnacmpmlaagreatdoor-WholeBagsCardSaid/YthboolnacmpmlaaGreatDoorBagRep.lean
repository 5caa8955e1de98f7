/- Bags: slices.Repeat of one number. -/
import Derived.Shelf.Bits.Mul64
import Derived.Ground.Names2Prog
import Derived.Laws.CopyRow
import Derived.Laws.CopyOwn
import Derived.RegionTactic
import Derived.Test.YthboolnacmpmlaaGreatDoorBagSame
namespace Go.Proofs
open Go.Shelf
def Tryz.lays264_ren : Go.Shelf.Ren := ⟨fun | 264 => 41 | n => n, fun | 53 => 83 | 46 => 60 | n => n, fun | n => n⟩
theorem Tryz.lays264 : Go.Proofs.Lays.n264 Tryz.prog Tryz.lays264_ren := {
  mixed := by kernel_rfl
  f264 := Tryz.func41.trans (congrArg some (by kernel_rfl))
  t46 := Tryz.underlying60
  a46 := Tryz.isAgg60
  z46 := Tryz.sizeOf60
  v46 := Tryz.zeroValue60
  t53 := Tryz.underlying83
  a53 := Tryz.isAgg83
  z53 := Tryz.sizeOf83
  v53 := Tryz.zeroValue83 }
namespace YthboolnacmpmlaaGreatDoor
open Go.RowKit Go.Shelf Go.Sort

theorem mul64_one (y : Nat) (hy : y ≤ 2000000) (w : World) :
    Calls Tryz.prog 41 #[.int .u64 1, .int .u64 y] w fun e w' => e = .returned (.tuple #[.int .u64 0, .int .u64 y]) ∧ w = w' := by
  refine (Any.bits_Mul64 Tryz.lays264 1 y (by omega) (by omega) w).mono fun e w' ⟨he, hw⟩ => ⟨?_, hw.symm⟩
  rw [he, Nat.one_mul, Nat.div_eq_of_lt (by omega), Nat.mod_eq_of_lt (by omega)]
  rfl

theorem mul_one_any (y : Nat) (hy : y ≤ 2000000) (w : World) :
    Calls Tryz.prog 34 #[.int .u64 1, .int .u64 y] w fun e w' => e = .returned (.tuple #[.int .u64 0, .int .u64 y]) ∧ w = w' := by
  have K := fun w => Lib.hid (mul64_one y hy w)
  go_enter Tryz.func34, Tryz.ntmps34
  go_wp2_with (go_at_call 41; refine ((K _).out).mono ?_; rintro e w' ⟨rfl, rfl⟩)
  go_ret2
  exact ⟨rfl, rfl⟩

/-- A slice that is a whole block of the call's own. -/
def Fresh (w : World) (xs : List Int) (e : Ending) (w' : World) : Prop :=
  ∃ g : Nat, e = .returned (.slice (some ⟨g, 0, none⟩) xs.length xs.length) ∧ w.heap.size ≤ g ∧ Blk w' g 3 (cellsOf xs) ∧ Below w.heap.size w w'

/-- The first k cells are v, the others 0. -/
def part (v : Int) (k m : Nat) : List Int := List.replicate k v ++ List.replicate (m - k) 0
theorem part_length {v : Int} {k m : Nat} (h : k ≤ m) : (part v k m).length = m := by simp [part]; omega
theorem part_get {v : Int} {k m j : Nat} (h : j < k) : (part v k m)[j]? = some v := by
  simp only [part]
  rw [List.getElem?_append_left (by simpa using h)]
  simp [h]
theorem part_full (v : Int) (m : Nat) : part v m m = List.replicate m v := by simp [part]
/-- What a copy of j of the first k cells behind them makes. -/
theorem part_copy {v : Int} {k m j : Nat} (h : k + j ≤ m) :
    ((cellsOf (part v k m)).toList.take k ++ (List.replicate j v).map (fun x => Value.int .i64 x) ++ (cellsOf (part v k m)).toList.drop (k + ((List.replicate j v).map (fun x => Value.int .i64 x)).length)).toArray = cellsOf (part v (k + j) m) := by
  simp only [cellsOf, List.length_map, List.length_replicate, ← List.map_take, ← List.map_drop]
  congr 1
  rw [← List.map_append, ← List.map_append]
  congr 1
  simp only [part]
  rw [List.take_append_of_le_length (by simp), List.take_of_length_le (by simp), List.drop_append, List.drop_of_length_le (by simp)]
  simp only [List.nil_append, List.length_replicate, List.drop_replicate]
  rw [List.replicate_append_replicate]
  congr 2
  omega

theorem info_int : (Tryz.prog.info? 3).map (·.size) = some 1 := by kernel_rfl

theorem Blk.setRow {w : World} {g : Nat} {t : TypeId} {cs : Array Value} (h : Blk w g t cs) (ds : Array Value) : Blk (w.setRow g ds) g t ds := setRow_heap w g cs ds t _ h

theorem info_int' : (Tryz.prog.info? 3).map (fun i => (i.zero, i.size, i.bytes)) = some (some (.int .i64 0), 1, 8) := by kernel_rfl
theorem made_zero (m : Nat) : madeCells #[Value.int .i64 0] m = cellsOf (List.replicate m 0) := by
  apply Array.ext
  · simp [madeCells, cellsOf]
  · intro i h1 h2
    simp [madeCells, cellsOf, Nat.mod_one]
theorem make_ints (m : Nat) (hm : m ≤ 2000000) (W : World) : (Instr.makeSlice 22 (.int .i64 (m : Int)) (.int .i64 (m : Int))).run Tryz.prog W =
    .ok (.slice (some ⟨W.heap.size, 0, none⟩) m m) (W.alloc (.cells (cellsOf (List.replicate m 0)) 3)) := by
  obtain ⟨i0, hi0, hz0, hz1, hz2⟩ := info_parts info_int'
  have h := run_makeSlice (P := Tryz.prog) W 22 3 i0 _ Tryz.underlying22 hi0 hz0 .i64 .i64 m m (by omega) (Int.le_refl _) (by rw [hz1]; omega) (by rw [hz2]; omega) (by omega)
  rw [h, hz1, Nat.mul_one, Int.toNat_natCast]
  rw [show (Value.int .i64 0).cells = #[Value.int .i64 0] from rfl, made_zero]

/-- The built-in copy into a block that is known whole. -/
theorem copy_row {W : World} {g : Nat} {cs : Array Value} (hg : Blk W g 3 cs) (o dLen dCap : Nat) (b off sLen sCap : Nat) (v : Int) (j : Nat) (hj : j = Nat.min sLen dLen)
    (hsrc : ∀ i, i < j → W.cell? ⟨b, off + i, none⟩ = some (.int .i64 v)) (hfit : o + j ≤ cs.size) :
    (Builtin.copy_ #[22, 22] 3 #[.slice (some ⟨g, o, none⟩) dLen dCap, .slice (some ⟨b, off, none⟩) sLen sCap]).run Tryz.prog W =
      .ok (.int .i64 j) (W.setRow g (cs.toList.take o ++ (List.replicate j v).map (fun x => Value.int .i64 x) ++ cs.toList.drop (o + ((List.replicate j v).map (fun x => Value.int .i64 x)).length)).toArray) := by
  have h := run_copy_row (P := Tryz.prog) W 22 22 3 3 g o dLen dCap ⟨b, off, none⟩ sLen sCap cs 3 ((List.replicate j v).map (fun x => Value.int .i64 x)) Tryz.underlying22 info_int hg (by simp [hj])
    (fun i u hu => by
      simp only [List.getElem?_map, Option.map_eq_some_iff] at hu
      obtain ⟨x, hx, rfl⟩ := hu
      rw [List.getElem?_replicate] at hx
      split at hx
      · rename_i hlt
        obtain rfl := Option.some.inj hx
        have e : (⟨b, off, none⟩ : Addr).add i = ⟨b, off + i, none⟩ := by unfold Addr.add; split <;> simp_all
        rw [e]
        exact hsrc i hlt
      · cases hx)
    (by simpa using hfit) (fun u hu => by
      simp only [List.map_replicate, List.mem_replicate] at hu
      rw [hu.2]; rfl)
  rw [h]
  simp [goInt]

theorem cellsOf_size (xs : List Int) : (cellsOf xs).size = xs.length := by simp [cellsOf]

set_option maxHeartbeats 1000000 in
set_option maxRecDepth 100000 in
theorem repeat_any (b off c : Nat) (v : Int) (m : Nat) (w : World) (hm : 1 ≤ m ∧ m ≤ 2000000) (hv : w.cell? ⟨b, off, none⟩ = some (.int .i64 v)) (hb : b < w.heap.size) :
    Calls Tryz.prog 22 #[.slice (some ⟨b, off, none⟩) 1 c, .int .i64 m] w (Fresh w (List.replicate m v)) := by
  obtain ⟨hm1, hm2⟩ := hm
  have K := fun w => Lib.hid (mul_one_any m (by omega) w)
  have hmk := make_ints m (by omega)
  have hB0 : Blk (w.alloc (.cells (cellsOf (List.replicate m 0)) 3)) w.heap.size 3 (cellsOf (part v 0 m)) := by
    have := Blk.new w 3 (cellsOf (List.replicate m 0))
    simpa [part] using this
  have hcp := copy_row hB0 0 m m b off 1 c v 1 (by simp [Nat.min_def]; omega) (fun i hi => by
    obtain rfl : i = 0 := by omega
    rw [World.cell?_alloc_lt _ _ _ hb]
    simpa using hv) (by rw [cellsOf_size, part_length (by omega)]; omega)
  rw [show (0 : Nat) = 0 + 0 from rfl, part_copy (j := 1) (by omega)] at hcp
  have hB1 : Blk ((w.alloc (.cells (cellsOf (List.replicate m 0)) 3)).setRow w.heap.size (cellsOf (part v (0 + 1) m))) w.heap.size 3 (cellsOf (part v (0 + 1) m)) := hB0.setRow _
  have HB1 := Lib.hid hB1
  clear hB0 hB1 hv
  go_enter Tryz.func22, Tryz.ntmps22
  go_wp2_with (go_at_call 34; refine ((K _).out).mono ?_; rintro e w' ⟨rfl, rfl⟩)
  go_loopw [8] (fun n wr => ∃ k : Nat, 1 ≤ k ∧ k ≤ m ∧ n = .int .i64 k ∧ Blk wr w.heap.size 3 (cellsOf (part v k m)) ∧ Below w.heap.size w wr) (fun n _ => m - (intOf n).toNat)
  case atStart =>
    refine ⟨1, Nat.le_refl _, hm1, rfl, by simpa using HB1.out, below_setRow ((Below.refl _ _).alloc (Nat.le_refl _) _) (Nat.le_refl _) _⟩
  case round =>
    clear hcp hmk K
    obtain ⟨k, hk1, hk, rfl, hB, hbw⟩ := hrel
    by_cases hlt : k < m
    · have hcp := copy_row hB.drew k (m - k) (m - k) w.heap.size 0 k m v (min k (m - k)) (by simp [Nat.min_def]) (fun i hi => by
        rw [hB.drew.cell, cellsOf_get, Nat.zero_add, part_get (by omega)]; rfl) (by rw [cellsOf_size, part_length (by omega)]; omega)
      simp only [part_copy (v := v) (show k + min k (m - k) ≤ m by omega)] at hcp
      have hB2 : Blk (wr.drew.setRow w.heap.size (cellsOf (part v (k + min k (m - k)) m))) w.heap.size 3 (cellsOf (part v (k + min k (m - k)) m)) := hB.drew.setRow _
      have HB2 := Lib.hid hB2
      clear hB2
      generalize hj : min k (m - k) = j at *
      have hj1 : 1 ≤ j := by omega
      have hj2 : k + j ≤ m := by omega
      clear hj
      have hne : (m = k) = False := by simp; omega
      go_wp2_with fail
      go_region
      all_goals
        go_wp2_with fail
        go_roundw
        case rel => exact ⟨k + j, by omega, hj2, by go_num, HB2.out, below_setRow hbw.drew (Nat.le_refl _) _⟩
        case measure => simp [intOf]; omega
    · obtain rfl : k = m := by omega
      go_wp2_with fail
      go_ret
      exact ⟨w.heap.size, by simp, Nat.le_refl _, by rw [← part_full]; exact hB, hbw⟩

end YthboolnacmpmlaaGreatDoor
end Go.Proofs
