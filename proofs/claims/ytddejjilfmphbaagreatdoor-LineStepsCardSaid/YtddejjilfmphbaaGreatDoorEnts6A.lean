/- Calls of line.reach in layer 6's lives. -/
import Derived.Test.YtddejjilfmphbaaGreatDoorEnts6
namespace Go.Proofs.YtddejjilfmphbaaGreatDoor

theorem ent0_ok : Eng.entOk Tryz.prog eng_ro eng6_prims 100000 50 ent0 = true := by kernel_rfl
theorem ent1_ok : Eng.entOk Tryz.prog eng_ro eng6_prims 100000 50 ent1 = true := by kernel_rfl

end Go.Proofs.YtddejjilfmphbaaGreatDoor
