/- WholeBags returns true for every slice of ints and every number, and leaves the slice as it was: whole.Bags answers as the reference does. Conditions: the row's own (the three listed tables of the library lie as the program's text lays them). -/
import Derived.Test.YtpgcmfkoglbelaaGreatDoorBagsFrame
import Derived.Test.YtpgcmfkoglbelaaGreatDoorBagsFacts
import Derived.Test.YtpgcmfkoglbelaaGreatDoorBagsLaw
namespace Go.Proofs.YtpgcmfkoglbelaaGreatDoor

theorem wholeBags_holds : Rows.WholeBagsCardSaid :=
  wholeBags.card_of wholeBags.joined fun A0 n0 c0 xs0 a1 w h1 h2 h3 _ h5 ha hT => bags_law A0 n0 c0 xs0 a1 w h1 h2 h3 h5 (bounds_i64 ha) hT

end Go.Proofs.YtpgcmfkoglbelaaGreatDoor
#print axioms Go.Proofs.YtpgcmfkoglbelaaGreatDoor.wholeBags_holds
