/- Parts of the proof, one after the other: Lives1. -/
import Derived.Test.YteicddmekhdjeaaGreatDoorEm1
/- The run of layer 1's lives: at every start in which the table of powers of ten lies in memory it hands back true, and of what was there nothing turns. -/
namespace Go.Proofs.YteicddmekhdjeaaGreatDoor
open Go.RowKit (Below)

theorem lives1_run : Eng.isTrue (Eng.call Tryz.prog (Eng.lo eng_ro) eng_prims 100000 5 [] (Eng.heapOf tabs .nil) eng_ro) = true := by kernel_rfl

theorem lives1_any (w : World) (hT : Eng.Tabs tabs w) :
    Calls Tryz.prog 5 #[] w fun e w' => e = .returned (.bool true) ∧ Below w.heap.size w w' :=
  Eng.runs_true eng_ok lives1_run tabs_lt Tryz.func5 (by kernel_rfl) (tabs_size hT) (Nat.le_refl _) hT (by simp [Eng.relL])

end Go.Proofs.YteicddmekhdjeaaGreatDoor
#print axioms Go.Proofs.YteicddmekhdjeaaGreatDoor.lives1_any
