/- ShapePick returns true for all slices of points and all vectors, and leaves the slice as it was: twice the area of the simple polygon that the law makes of the points is 2·inside + border - 2; all three stay the same if it is moved, and the other way round the area has the other sign. Conditions: the row's own. -/
import Derived.Test.YtlmdmgbhfoehgaaPk1
import Derived.Test.YtlmdmgbhfoehgaaPickFacts
import Derived.Test.YtlmdmgbhfoehgaaPk7
namespace Go.Proofs.Ytlmdmgbhfoehgaa

theorem shapePick_holds : Rows.ShapePickSaid :=
  shapePick.over shapePick.joined fun A0 n0 c0 xs0 px py w h1 _ h3 h4 h5 _ _ => pick_law A0 n0 c0 xs0 px py w h1 h3 h4 h5

end Go.Proofs.Ytlmdmgbhfoehgaa
#print axioms Go.Proofs.Ytlmdmgbhfoehgaa.shapePick_holds
