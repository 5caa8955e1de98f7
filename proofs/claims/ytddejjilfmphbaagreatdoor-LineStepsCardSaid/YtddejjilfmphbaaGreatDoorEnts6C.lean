/- The call of power in layer 6's lives. -/
import Derived.Test.YtddejjilfmphbaaGreatDoorEnts6
namespace Go.Proofs.YtddejjilfmphbaaGreatDoor

theorem pent0_ok : Eng.entOk Tryz.prog eng_ro eng6_prims 100000 34 pent0 = true := by kernel_rfl

end Go.Proofs.YtddejjilfmphbaaGreatDoor
