/- ExactMakes returns true for every two ints, and changes nothing: Make returns their quotient in lowest terms, as the document's own arithmetic writes it, or ErrZero. Conditions: the row's own (the three listed variables of the library lie as the program's text lays them). -/
import Derived.Test.YteicddmekhdjeaaGreatDoorEm8
import Derived.Test.YteicddmekhdjeaaGreatDoorExactMakesFacts
import Derived.Test.YteicddmekhdjeaaGreatDoorEm15
import Derived.Test.YteicddmekhdjeaaGreatDoorEm16
namespace Go.Proofs.YteicddmekhdjeaaGreatDoor

theorem exactMakes_holds : Rows.ExactMakesCardSaid :=
  exactMakes.card_of exactMakes.joined fun a b w ha hb hT hP => makes_law a b w (bounds_i64 ha) (bounds_i64 hb) (makes_ok hP) (fun V hV => lives1_any V (tabs_below hT hV))

end Go.Proofs.YteicddmekhdjeaaGreatDoor
#print axioms Go.Proofs.YteicddmekhdjeaaGreatDoor.exactMakes_holds
