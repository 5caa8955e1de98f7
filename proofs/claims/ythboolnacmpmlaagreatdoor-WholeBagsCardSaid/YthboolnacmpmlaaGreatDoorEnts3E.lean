/- Calls of blend.Solve in layer 3's lives: what they answer. -/
import Derived.Test.YthboolnacmpmlaaGreatDoorEnts3
namespace Go.Proofs.YthboolnacmpmlaaGreatDoor

theorem ent8_ok : Eng.entOk Tryz.prog eng_ro eng_prims 100000 134 ent8 = true := by kernel_rfl
theorem ent9_ok : Eng.entOk Tryz.prog eng_ro eng_prims 100000 134 ent9 = true := by kernel_rfl

end Go.Proofs.YthboolnacmpmlaaGreatDoor
