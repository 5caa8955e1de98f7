/- The run of layer 3's lives. -/
import Derived.Test.YthboolnacmpmlaaGreatDoorEnts3A
import Derived.Test.YthboolnacmpmlaaGreatDoorEnts3B
import Derived.Test.YthboolnacmpmlaaGreatDoorEnts3C
import Derived.Test.YthboolnacmpmlaaGreatDoorEnts3D
import Derived.Test.YthboolnacmpmlaaGreatDoorEnts3E
namespace Go.Proofs.YthboolnacmpmlaaGreatDoor
open Go.RowKit (Below)

noncomputable def ents3 : List Eng.Ent := [ent0, ent1, ent2, ent3, ent4, ent5, ent6, ent7, ent8, ent9]
theorem ents3_ok : ∀ e ∈ ents3, ∃ b fuel, Eng.ProgOk Tryz.prog ⟨eng_ro, e.nx⟩ b ∧ Eng.entOk Tryz.prog eng_ro b fuel 134 e = true := fun e he => by
  simp only [ents3, List.mem_cons, List.not_mem_nil, or_false] at he
  rcases he with rfl | rfl | rfl | rfl | rfl | rfl | rfl | rfl | rfl | rfl
  · exact ⟨_, _, eng_ok, ent0_ok⟩
  · exact ⟨_, _, eng_ok, ent1_ok⟩
  · exact ⟨_, _, eng_ok, ent2_ok⟩
  · exact ⟨_, _, eng_ok, ent3_ok⟩
  · exact ⟨_, _, eng_ok, ent4_ok⟩
  · exact ⟨_, _, eng_ok, ent5_ok⟩
  · exact ⟨_, _, eng_ok, ent6_ok⟩
  · exact ⟨_, _, eng_ok, ent7_ok⟩
  · exact ⟨_, _, eng_ok, ent8_ok⟩
  · exact ⟨_, _, eng_ok, ent9_ok⟩

noncomputable def prims3 : Eng.Base := eng_prims.with (Eng.knownOf 134 ents3)
theorem lives3_run : Eng.isTrue (Eng.call Tryz.prog (Eng.lo eng_ro) prims3 100000 10 [] (Eng.heapOf tabs .nil) 16) = true := by kernel_rfl

theorem lives3_any (w : World) (hT : Eng.Tabs tabs w) :
    Calls Tryz.prog 10 #[] w fun e w' => e = .returned (.bool true) ∧ Below w.heap.size w w' :=
  Eng.runs_true (nx := 16) (Eng.ProgOk.with eng_ok ents3_ok) lives3_run tabs_lt Tryz.func10 (by kernel_rfl) (tabs_size hT) (Nat.le_of_ble_eq_true (by kernel_rfl)) hT (by simp [Eng.relL])

end Go.Proofs.YthboolnacmpmlaaGreatDoor
#print axioms Go.Proofs.YthboolnacmpmlaaGreatDoor.lives3_any
