/- MirrorNobody returns true for every string and every int, and changes nothing: mirrors and disks that are nil, or that no function returned, answer as the document says. Conditions: the row's own (the five listed variables of the library lie as the program's text lays them). -/
import Derived.Test.YtkacdpdmeekjcaaGreatDoorNobodyFrame
import Derived.Test.YtkacdpdmeekjcaaGreatDoorNobodyFacts
import Derived.Test.YtkacdpdmeekjcaaGreatDoorNobody
namespace Go.Proofs.YtkacdpdmeekjcaaGreatDoor

theorem mirrorNobody_holds : Rows.MirrorNobodyCardSaid :=
  mirrorNobody.card_of mirrorNobody.joined fun s n w hT => nobody_any s n w hT

end Go.Proofs.YtkacdpdmeekjcaaGreatDoor
#print axioms Go.Proofs.YtkacdpdmeekjcaaGreatDoor.mirrorNobody_holds
