/- The run of layer 4's lives: at every start it hands back true, and of what was there nothing turns. -/
import Derived.Test.YtnijcdphmibjaaaEngD
import Derived.Test.YtnijcdphmibjaaaChecked
import Derived.KernelRfl
namespace Go.Proofs.Ytnijcdphmibjaaa
open Go.RowKit (Below)

theorem eng_names : Eng.namesB Try.prog = true := by kernel_rfl
theorem eng_none (f : FuncId) (e : Array Value → Sem Value) (h : (Try.prog.funcs[f]?).isNone = true) : Eng.Entry Try.prog f e := ⟨fun fn h' => by rw [h'] at h; cases h⟩
noncomputable def eng_prims : Eng.Base := Eng.bareOf 1000000 1000001 1000002
theorem eng_ok {ro : Eng.Lo} : Eng.ProgOk Try.prog ro eng_prims :=
  Eng.progOk Try.checked.mixed eng_names (eng_none _ _ (by kernel_rfl)) (eng_none _ _ (by kernel_rfl)) (eng_none _ _ (by kernel_rfl))

theorem lives4_run : Eng.isTrue (Eng.call Try.prog (Eng.lo 0) eng_prims 100000 24 [] (Eng.heapOf [] .nil) 0) = true := by kernel_rfl

theorem lives4_any (w : World) :
    Calls Try.prog 24 #[] w fun e w' => e = .returned (.bool true) ∧ Below w.heap.size w w' :=
  Eng.runs_true (tabs := []) eng_ok lives4_run (by simp) Try.func24 (by kernel_rfl) (Nat.zero_le _) (Nat.le_refl _) (by intro p hp; cases hp) (by simp [Eng.relL])

end Go.Proofs.Ytnijcdphmibjaaa
#print axioms Go.Proofs.Ytnijcdphmibjaaa.lives4_any
