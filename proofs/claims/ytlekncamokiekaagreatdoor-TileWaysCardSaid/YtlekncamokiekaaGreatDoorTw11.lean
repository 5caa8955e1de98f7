/- Parts of the proof, one after the other: Lives5. -/
import Derived.Test.YtlekncamokiekaaGreatDoorTw10
/- The run of layer 5's lives: at every start in which the table of powers of ten lies in memory it hands back true, and of what was there nothing turns. -/
namespace Go.Proofs.YtlekncamokiekaaGreatDoor
open Go.RowKit (Below)

noncomputable def ents5 : List Eng.Ent := [ent0, ent1, ent2, ent3, ent4]
theorem ents5_ok : ∀ e ∈ ents5, ∃ b fuel, Eng.ProgOk Tryz.prog ⟨eng_ro, e.nx⟩ b ∧ Eng.entOk Tryz.prog eng_ro b fuel 64 e = true := fun e he => by
  simp only [ents5, List.mem_cons, List.not_mem_nil, or_false] at he
  rcases he with rfl | rfl | rfl | rfl | rfl
  · exact ⟨_, _, eng_ok, ent0_ok⟩
  · exact ⟨_, _, eng_ok, ent1_ok⟩
  · exact ⟨_, _, eng_ok, ent2_ok⟩
  · exact ⟨_, _, eng_ok, ent3_ok⟩
  · exact ⟨_, _, eng_ok, ent4_ok⟩

noncomputable def prims5 : Eng.Base := Eng.Base.with eng_prims (Eng.knownOf 64 ents5)
theorem lives5_run : Eng.isTrue (Eng.call Tryz.prog (Eng.lo eng_ro) prims5 100000 7 [] (Eng.heapOf tabs .nil) 16) = true := by kernel_rfl

theorem lives5_any (w : World) (hT : Eng.Tabs tabs w) :
    Calls Tryz.prog 7 #[] w fun e w' => e = .returned (.bool true) ∧ Below w.heap.size w w' :=
  Eng.runs_true (nx := 16) (Eng.ProgOk.with eng_ok ents5_ok) lives5_run tabs_lt Tryz.func7 (by kernel_rfl) (tabs_size hT) (Nat.le_of_ble_eq_true (by kernel_rfl)) hT (by simp [Eng.relL])

end Go.Proofs.YtlekncamokiekaaGreatDoor
