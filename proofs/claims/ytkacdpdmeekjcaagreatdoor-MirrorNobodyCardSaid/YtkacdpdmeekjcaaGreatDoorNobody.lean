/- MirrorNobody: one run of the evaluator at names: of the string nothing is known but that it is one, of the number nothing at all. -/
import Derived.Test.YtkacdpdmeekjcaaGreatDoorEngAt9
namespace Go.Proofs.YtkacdpdmeekjcaaGreatDoor
open Go.RowKit (Below)

theorem nobody_run : Eng.isTrue (Eng.call Tryz.prog (Eng.lo eng_ro) eng9_prims 100000 4 [.sym 1000, .any] (Eng.heapOf tabs .nil) eng_ro) = true := by kernel_rfl

theorem nobody_any (s : ByteArray) (n : Int) (w : World) (hT : Eng.Tabs tabs w) :
    Calls Tryz.prog 4 #[.string s, .int .i64 n] w fun e w' => e = .returned (.bool true) ∧ Below w.heap.size w w' := by
  letI : Eng.Syms := Eng.strs fun _ => s
  exact Eng.runs_true eng9_ok nobody_run tabs_lt Tryz.func4 (by kernel_rfl) (tabs_size hT) (Nat.le_refl _) hT
    (Eng.relL_cons (by simp only [Eng.V.rel]; rfl) (Eng.relL_cons (by simp only [Eng.V.rel]; exact ⟨fun _ => by simp, fun _ => by simp⟩) Eng.relL_nil))

end Go.Proofs.YtkacdpdmeekjcaaGreatDoor
