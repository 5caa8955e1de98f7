/- WholeSylvester returns true for all numbers: the greatest total that two sizes without a common divisor can't make is the one that W6 names, and half of the totals up to it can't be made. Conditions: the row's own (the three listed tables of the library lie as the program's text lays them). -/
import Derived.Test.YthboolnacmpmlaaGreatDoorSylvesterFrame
import Derived.Test.YthboolnacmpmlaaGreatDoorSylvesterFacts
import Derived.Test.YthboolnacmpmlaaGreatDoorSylvester
namespace Go.Proofs.YthboolnacmpmlaaGreatDoor

theorem wholeSylvester_holds : Rows.WholeSylvesterCardSaid :=
  wholeSylvester.card_of wholeSylvester.joined fun a b w ha hb hT => sylvester_any a b w (bounds_i64 ha) (bounds_i64 hb) hT

end Go.Proofs.YthboolnacmpmlaaGreatDoor
#print axioms Go.Proofs.YthboolnacmpmlaaGreatDoor.wholeSylvester_holds
