/- WholeAperies returns true for every slice of ints, and leaves it as it was: whole.Apery and whole.Frobenius answer as the reference does, for sizes of any kind. Conditions: the row's own (the three listed tables of the library lie as the program's text lays them). -/
import Derived.Test.YthboolnacmpmlaaGreatDoorAperiesFrame
import Derived.Test.YthboolnacmpmlaaGreatDoorAperiesFacts
import Derived.Test.YthboolnacmpmlaaGreatDoorAperies
namespace Go.Proofs.YthboolnacmpmlaaGreatDoor

theorem wholeAperies_holds : Rows.WholeAperiesCardSaid :=
  wholeAperies.card_of wholeAperies.joined fun A n c xs w h1 h2 h3 h4 h5 hT => aperies_any A n c xs w h1 h2 h3 h5 h4 hT

end Go.Proofs.YthboolnacmpmlaaGreatDoor
#print axioms Go.Proofs.YthboolnacmpmlaaGreatDoor.wholeAperies_holds
