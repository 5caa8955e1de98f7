/- The run of layer 9's lives: at every start in which the table of powers of ten lies in memory, in whatever order maps are gone through, it hands back true, and of what was there nothing turns. -/
import Derived.Test.YtpeinngifknpkaaGreatDoorEngAt9
namespace Go.Proofs.YtpeinngifknpkaaGreatDoor
open Go.RowKit (Below)

theorem lives9_run : Eng.isTrue (Eng.call Tryz.prog (Eng.lo eng_ro) eng9_prims 100000 14 [] (Eng.heapOf tabs .nil) eng_ro) = true := by kernel_rfl

theorem lives9_any (w : World) (hT : Eng.Tabs tabs w) :
    Calls Tryz.prog 14 #[] w fun e w' => e = .returned (.bool true) ∧ Below w.heap.size w w' :=
  Eng.runs_true eng9_ok lives9_run tabs_lt Tryz.func14 (by kernel_rfl) (tabs_size hT) (Nat.le_refl _) hT (by simp [Eng.relL])

end Go.Proofs.YtpeinngifknpkaaGreatDoor
