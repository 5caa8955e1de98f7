/- Calls of blend.Solve in layer 3's lives: what they answer. -/
import Derived.Test.YthboolnacmpmlaaGreatDoorEnts3
namespace Go.Proofs.YthboolnacmpmlaaGreatDoor

theorem ent0_ok : Eng.entOk Tryz.prog eng_ro eng_prims 100000 134 ent0 = true := by kernel_rfl
theorem ent1_ok : Eng.entOk Tryz.prog eng_ro eng_prims 100000 134 ent1 = true := by kernel_rfl

end Go.Proofs.YthboolnacmpmlaaGreatDoor
