/- Bags: slices.Repeat of one number. -/
import Derived.Shelf.Bits.Mul64
import Derived.Ground.Names2Prog
import Derived.Laws.CopyRow
import Derived.Laws.CopyOwn
import Derived.RegionTactic
import Derived.Test.YtddejjilfmphbaaGreatDoorBagSame
namespace Go.Proofs
open Go.Shelf
def Tryz.lays264_ren : Go.Shelf.Ren := ⟨fun | 264 => 86 | n => n, fun | 53 => 127 | 46 => 145 | n => n, fun | n => n⟩
theorem Tryz.lays264 : Go.Proofs.Lays.n264 Tryz.prog Tryz.lays264_ren := {
  mixed := by kernel_rfl
  f264 := Tryz.func86.trans (congrArg some (by kernel_rfl))
  t46 := Tryz.underlying145
  a46 := Tryz.isAgg145
  z46 := Tryz.sizeOf145
  v46 := Tryz.zeroValue145
  t53 := Tryz.underlying127
  a53 := Tryz.isAgg127
  z53 := Tryz.sizeOf127
  v53 := Tryz.zeroValue127 }
namespace YtddejjilfmphbaaGreatDoor
open Go.RowKit Go.Shelf Go.Sort

theorem mul64_one (y : Nat) (hy : y ≤ 2000000) (w : World) :
    Calls Tryz.prog 86 #[.int .u64 1, .int .u64 y] w fun e w' => e = .returned (.tuple #[.int .u64 0, .int .u64 y]) ∧ w = w' := by
  refine (Any.bits_Mul64 Tryz.lays264 1 y (by omega) (by omega) w).mono fun e w' ⟨he, hw⟩ => ⟨?_, hw.symm⟩
  rw [he, Nat.one_mul, Nat.div_eq_of_lt (by omega), Nat.mod_eq_of_lt (by omega)]
  rfl

theorem mul_one_any (y : Nat) (hy : y ≤ 2000000) (w : World) :
    Calls Tryz.prog 133 #[.int .u64 1, .int .u64 y] w fun e w' => e = .returned (.tuple #[.int .u64 0, .int .u64 y]) ∧ w = w' := by
  have K := fun w => Lib.hid (mul64_one y hy w)
  go_enter Tryz.func133, Tryz.ntmps133
  go_wp2_with (go_at_call 86; refine ((K _).out).mono ?_; rintro e w' ⟨rfl, rfl⟩)
  go_ret2
  exact ⟨rfl, rfl⟩

/-- A slice that is a whole block of the call's own. -/
def Fresh (w : World) (xs : List Int) (e : Ending) (w' : World) : Prop :=
  ∃ g : Nat, e = .returned (.slice (some ⟨g, 0, none⟩) xs.length xs.length) ∧ w.heap.size ≤ g ∧ Blk w' g 3 (cellsOf xs) ∧ Below w.heap.size w w'

/-- The first k cells are v, the others 0. -/
def part (v : Int) (k m : Nat) : List Int := List.replicate k v ++ List.replicate (m - k) 0
theorem part_length {v : Int} {k m : Nat} (h : k ≤ m) : (part v k m).length = m := by simp [part]; omega
theorem part_get {v : Int} {k m j : Nat} (h : j < k) : (part v k m)[j]? = some v := by
  simp only [part]
  rw [List.getElem?_append_left (by simpa using h)]
  simp [h]
theorem part_full (v : Int) (m : Nat) : part v m m = List.replicate m v := by simp [part]
/-- What a copy of j of the first k cells behind them makes. -/
theorem part_copy {v : Int} {k m j : Nat} (h : k + j ≤ m) :
    ((cellsOf (part v k m)).toList.take k ++ (List.replicate j v).map (fun x => Value.int .i64 x) ++ (cellsOf (part v k m)).toList.drop (k + ((List.replicate j v).map (fun x => Value.int .i64 x)).length)).toArray = cellsOf (part v (k + j) m) := by
  simp only [cellsOf, List.length_map, List.length_replicate, ← List.map_take, ← List.map_drop]
  congr 1
  rw [← List.map_append, ← List.map_append]
  congr 1
  simp only [part]
  rw [List.take_append_of_le_length (by simp), List.take_of_length_le (by simp), List.drop_append, List.drop_of_length_le (by simp)]
  simp only [List.nil_append, List.length_replicate, List.drop_replicate]
  rw [List.replicate_append_replicate]
  congr 2
  omega

theorem info_int : (Tryz.prog.info? 3).map (·.size) = some 1 := by kernel_rfl

theorem Blk.setRow {w : World} {g : Nat} {t : TypeId} {cs : Array Value} (h : Blk w g t cs) (ds : Array Value) : Blk (w.setRow g ds) g t ds := setRow_heap w g cs ds t _ h

theorem info_int' : (Tryz.prog.info? 3).map (fun i => (i.zero, i.size, i.bytes)) = some (some (.int .i64 0), 1, 8) := by kernel_rfl
theorem made_zero (m : Nat) : madeCells #[Value.int .i64 0] m = cellsOf (List.replicate m 0) := by
  apply Array.ext
  · simp [madeCells, cellsOf]
  · intro i h1 h2
    simp [madeCells, cellsOf, Nat.mod_one]
theorem make_ints (m : Nat) (hm : m ≤ 2000000) (W : World) : (Instr.makeSlice 25 (.int .i64 (m : Int)) (.int .i64 (m : Int))).run Tryz.prog W =
    .ok (.slice (some ⟨W.heap.size, 0, none⟩) m m) (W.alloc (.cells (cellsOf (List.replicate m 0)) 3)) := by
  obtain ⟨i0, hi0, hz0, hz1, hz2⟩ := info_parts info_int'
  have h := run_makeSlice (P := Tryz.prog) W 25 3 i0 _ Tryz.underlying25 hi0 hz0 .i64 .i64 m m (by omega) (Int.le_refl _) (by rw [hz1]; omega) (by rw [hz2]; omega) (by omega)
  rw [h, hz1, Nat.mul_one, Int.toNat_natCast]
  rw [show (Value.int .i64 0).cells = #[Value.int .i64 0] from rfl, made_zero]

/-- The built-in copy into a block that is known whole. -/
theorem copy_row {W : World} {g : Nat} {cs : Array Value} (hg : Blk W g 3 cs) (o dLen dCap : Nat) (b off sLen sCap : Nat) (v : Int) (j : Nat) (hj : j = Nat.min sLen dLen)
    (hsrc : ∀ i, i < j → W.cell? ⟨b, off + i, none⟩ = some (.int .i64 v)) (hfit : o + j ≤ cs.size) :
    (Builtin.copy_ #[25, 25] 3 #[.slice (some ⟨g, o, none⟩) dLen dCap, .slice (some ⟨b, off, none⟩) sLen sCap]).run Tryz.prog W =
      .ok (.int .i64 j) (W.setRow g (cs.toList.take o ++ (List.replicate j v).map (fun x => Value.int .i64 x) ++ cs.toList.drop (o + ((List.replicate j v).map (fun x => Value.int .i64 x)).length)).toArray) := by
  have h := run_copy_row (P := Tryz.prog) W 25 25 3 3 g o dLen dCap ⟨b, off, none⟩ sLen sCap cs 3 ((List.replicate j v).map (fun x => Value.int .i64 x)) Tryz.underlying25 info_int hg (by simp [hj])
    (fun i u hu => by
      simp only [List.getElem?_map, Option.map_eq_some_iff] at hu
      obtain ⟨x, hx, rfl⟩ := hu
      rw [List.getElem?_replicate] at hx
      split at hx
      · rename_i hlt
        obtain rfl := Option.some.inj hx
        have e : (⟨b, off, none⟩ : Addr).add i = ⟨b, off + i, none⟩ := by unfold Addr.add; split <;> simp_all
        rw [e]
        exact hsrc i hlt
      · cases hx)
    (by simpa using hfit) (fun u hu => by
      simp only [List.map_replicate, List.mem_replicate] at hu
      rw [hu.2]; rfl)
  rw [h]
  simp [goInt]

theorem cellsOf_size (xs : List Int) : (cellsOf xs).size = xs.length := by simp [cellsOf]

end YtddejjilfmphbaaGreatDoor
end Go.Proofs
