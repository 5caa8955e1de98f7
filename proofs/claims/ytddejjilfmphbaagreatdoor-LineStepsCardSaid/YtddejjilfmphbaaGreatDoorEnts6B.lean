/- Calls of line.reach in layer 6's lives. -/
import Derived.Test.YtddejjilfmphbaaGreatDoorEnts6
namespace Go.Proofs.YtddejjilfmphbaaGreatDoor

theorem ent2_ok : Eng.entOk Tryz.prog eng_ro eng6_prims 100000 50 ent2 = true := by kernel_rfl
theorem ent3_ok : Eng.entOk Tryz.prog eng_ro eng6_prims 100000 50 ent3 = true := by kernel_rfl

end Go.Proofs.YtddejjilfmphbaaGreatDoor
