/- WholeMade returns true for all slices and numbers, and leaves the slices as they were: a total can be made exactly if it is at least Apery's number of its remainder, and the counts of Bags make it with the fewest bags. Conditions: the row's own (the three listed tables of the library lie as the program's text lays them). -/
import Derived.Test.YthboolnacmpmlaaGreatDoorMadeFrame
import Derived.Test.YthboolnacmpmlaaGreatDoorMadeFacts
import Derived.Test.YthboolnacmpmlaaGreatDoorMadeLaw
namespace Go.Proofs.YthboolnacmpmlaaGreatDoor

theorem wholeMade_holds : Rows.WholeMadeCardSaid :=
  wholeMade.card_of wholeMade.joined fun A0 n0 c0 xs0 a1 A2 n2 c2 xs2 w h1 _ h3 h4 h5 ha k1 _ k3 k4 k5 hT => made_law A0 n0 c0 xs0 a1 A2 n2 c2 xs2 w h1 h3 h4 h5 (bounds_i64 ha) k1 k3 k4 k5 hT

end Go.Proofs.YthboolnacmpmlaaGreatDoor
#print axioms Go.Proofs.YthboolnacmpmlaaGreatDoor.wholeMade_holds
