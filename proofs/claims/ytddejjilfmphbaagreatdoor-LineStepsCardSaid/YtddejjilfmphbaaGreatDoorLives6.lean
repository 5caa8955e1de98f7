/- The run of layer 6's lives. -/
import Derived.Test.YtddejjilfmphbaaGreatDoorEnts6E
namespace Go.Proofs.YtddejjilfmphbaaGreatDoor
open Go.RowKit (Below)

theorem gents6_ok : ∀ e ∈ [gent0], ∃ b fuel, Eng.ProgOk Tryz.prog ⟨eng_ro, e.nx⟩ b ∧ Eng.entOk Tryz.prog eng_ro b fuel 42 e = true := fun e he => by
  simp only [List.mem_cons, List.not_mem_nil, or_false] at he
  subst he
  exact ⟨_, _, prims6s_ok, gent0_ok⟩
noncomputable def prims6 : Eng.Base := prims6s.with (Eng.knownOf 42 [gent0])
theorem lives6_run : Eng.isTrue (Eng.call Tryz.prog (Eng.lo eng_ro) prims6 100000 10 [] (Eng.heapOf tabs .nil) 16) = true := by kernel_rfl

theorem lives6_any (w : World) (hT : Eng.Tabs tabs w) :
    Calls Tryz.prog 10 #[] w fun e w' => e = .returned (.bool true) ∧ Below w.heap.size w w' :=
  Eng.runs_true (nx := 16) (Eng.ProgOk.with prims6s_ok gents6_ok) lives6_run tabs_lt Tryz.func10 (by kernel_rfl) (tabs_size hT) (Nat.le_of_ble_eq_true (by kernel_rfl)) hT (by simp [Eng.relL])

end Go.Proofs.YtddejjilfmphbaaGreatDoor
