/- What the evaluator asks of the program: its tables, its functions without a text. -/
import Derived.Test.YthboolnacmpmlaaGreatDoorEngD
import Derived.Test.YthboolnacmpmlaaGreatDoorChecked
import Derived.KernelRfl
import Derived.Lib.LaidTab
namespace Go.Proofs.YthboolnacmpmlaaGreatDoor
open Go.RowKit (Below)

def pow10 : List Nat := [1, 10, 100, 1000, 10000, 100000, 1000000, 10000000, 100000000, 1000000000, 10000000000, 100000000000, 1000000000000, 10000000000000, 100000000000000, 1000000000000000, 10000000000000000, 100000000000000000, 1000000000000000000, 10000000000000000000]
def tabs : List (Nat × IntKind × List Nat) := [(1, .u64, pow10)]

theorem eng_names : Eng.namesB Tryz.prog = true := by kernel_rfl
theorem eng_index : Eng.Entry Tryz.prog 219 Extern.BytealgIndexByte.indexByte := ⟨fun fn h => by
  obtain rfl := Option.some.inj (Tryz.func219.symm.trans h)
  exact ⟨by kernel_rfl, by kernel_rfl, by kernel_rfl, by kernel_rfl⟩⟩
theorem eng_add : Eng.Entry Tryz.prog 155 add64Entry := ⟨fun fn h => by
  obtain rfl := Option.some.inj (Tryz.func155.symm.trans h)
  exact ⟨by kernel_rfl, by kernel_rfl, by kernel_rfl, by kernel_rfl⟩⟩
theorem eng_sub : Eng.Entry Tryz.prog 193 Eng.subEntry := ⟨fun fn h => by
  obtain rfl := Option.some.inj (Tryz.func193.symm.trans h)
  exact ⟨by kernel_rfl, by kernel_rfl, by kernel_rfl, by kernel_rfl⟩⟩
noncomputable def eng_prims : Eng.Base := Eng.bareOf 219 155 193
theorem eng_ok {ro : Eng.Lo} : Eng.ProgOk Tryz.prog ro (Eng.bareOf 219 155 193) := Eng.progOk Tryz.checked.mixed eng_names eng_index eng_add eng_sub

/-- The evaluator reads the variables below this number. -/
def eng_ro : Nat := 1 + 1
theorem tabs_lt : ∀ p ∈ tabs, p.1 < eng_ro := fun p hp => by
  simp only [tabs, List.mem_singleton] at hp
  subst hp
  exact of_decide_eq_true (by kernel_rfl)
theorem tabs_size {w : World} (h : Eng.Tabs tabs w) : eng_ro ≤ w.heap.size := by
  have := h _ (List.mem_singleton.2 rfl) 0 1 rfl
  exact World.block_lt_of_cell? w _ this
theorem tabs_below {w w' : World} (h : Eng.Tabs tabs w) (hb : Below w.heap.size w w') : Eng.Tabs tabs w' := fun p hp i n hn =>
  (hb.cell (World.block_lt_of_cell? w _ (h p hp i n hn))).trans (h p hp i n hn)
/-- What the row's condition on the listed variable gives. -/
theorem tabs_of {w : World} (h : Lib.TabIs Tryz.prog w "internal/strconv.uint64pow10" .u64 (pow10.map Int.ofNat)) : Eng.Tabs tabs w := fun p hp i n hn => by
  simp only [tabs, List.mem_singleton] at hp
  subst hp
  have hi : i < (pow10.map Int.ofNat).length := by
    rw [List.length_map]
    exact (List.getElem?_eq_some_iff.1 hn).1
  have := h.cell (g := 1) (by kernel_rfl) i hi
  rw [this]
  congr 2
  have hn' : pow10[i]? = some n := hn
  simp [List.getD, List.getElem?_map, hn']
end Go.Proofs.YthboolnacmpmlaaGreatDoor
