/- Calls of critical in layer 6's lives. -/
import Derived.Test.YtddejjilfmphbaaGreatDoorEnts6A
import Derived.Test.YtddejjilfmphbaaGreatDoorEnts6B
namespace Go.Proofs.YtddejjilfmphbaaGreatDoor

noncomputable def ents6 : List Eng.Ent := [ent0, ent1, ent2, ent3]
theorem ents6_ok : ∀ e ∈ ents6, ∃ b fuel, Eng.ProgOk Tryz.prog ⟨eng_ro, e.nx⟩ b ∧ Eng.entOk Tryz.prog eng_ro b fuel 50 e = true := fun e he => by
  simp only [ents6, List.mem_cons, List.not_mem_nil, or_false] at he
  rcases he with rfl | rfl | rfl | rfl
  · exact ⟨_, _, eng6_ok, ent0_ok⟩
  · exact ⟨_, _, eng6_ok, ent1_ok⟩
  · exact ⟨_, _, eng6_ok, ent2_ok⟩
  · exact ⟨_, _, eng6_ok, ent3_ok⟩
noncomputable def prims6r : Eng.Base := eng6_prims.with (Eng.knownOf 50 ents6)
theorem cent0_ok : Eng.entOk Tryz.prog eng_ro prims6r 100000 38 cent0 = true := by kernel_rfl
theorem cent1_ok : Eng.entOk Tryz.prog eng_ro prims6r 100000 38 cent1 = true := by kernel_rfl
theorem cents6_ok : ∀ e ∈ [cent0, cent1], ∃ b fuel, Eng.ProgOk Tryz.prog ⟨eng_ro, e.nx⟩ b ∧ Eng.entOk Tryz.prog eng_ro b fuel 38 e = true := fun e he => by
  simp only [List.mem_cons, List.not_mem_nil, or_false] at he
  rcases he with rfl | rfl
  · exact ⟨_, _, Eng.ProgOk.with eng6_ok ents6_ok, cent0_ok⟩
  · exact ⟨_, _, Eng.ProgOk.with eng6_ok ents6_ok, cent1_ok⟩

end Go.Proofs.YtddejjilfmphbaaGreatDoor
