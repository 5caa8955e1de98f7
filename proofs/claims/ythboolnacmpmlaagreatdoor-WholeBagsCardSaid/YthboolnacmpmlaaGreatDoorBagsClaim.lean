/- WholeBags returns true for every slice of ints and every number, and leaves the slice as it was: whole.Bags answers as the reference does. Conditions: the row's own (the three listed tables of the library lie as the program's text lays them). -/
import Derived.Test.YthboolnacmpmlaaGreatDoorBagsFrame
import Derived.Test.YthboolnacmpmlaaGreatDoorBagsFacts
import Derived.Test.YthboolnacmpmlaaGreatDoorBagsLaw
namespace Go.Proofs.YthboolnacmpmlaaGreatDoor

theorem wholeBags_holds : Rows.WholeBagsCardSaid :=
  wholeBags.card_of wholeBags.joined fun A0 n0 c0 xs0 a1 w h1 h2 h3 _ h5 ha hT => bags_law A0 n0 c0 xs0 a1 w h1 h2 h3 h5 (bounds_i64 ha) hT

end Go.Proofs.YthboolnacmpmlaaGreatDoor
#print axioms Go.Proofs.YthboolnacmpmlaaGreatDoor.wholeBags_holds
