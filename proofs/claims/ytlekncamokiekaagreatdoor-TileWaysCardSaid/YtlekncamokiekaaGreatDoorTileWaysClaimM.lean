/- TileWays returns true for every cutter, and changes nothing: Ways returns the orientations of a cutter in order, or ErrArg. Conditions: the row's own (the three listed variables of the library lie as the program's text lays them). -/
import Derived.Test.YtlekncamokiekaaGreatDoorTw2
import Derived.Test.YtlekncamokiekaaGreatDoorTileWaysFacts
import Derived.Test.YtlekncamokiekaaGreatDoorTw7
import Derived.Test.YtlekncamokiekaaGreatDoorTw9
import Derived.Test.YtlekncamokiekaaGreatDoorTw10
import Derived.Test.YtlekncamokiekaaGreatDoorTw11
namespace Go.Proofs.YtlekncamokiekaaGreatDoor

theorem tileWays_holds : Rows.TileWaysCardSaid :=
  tileWays.card_of tileWays.joined fun A n c l t f w hn hc hbig hx hT => tiles_law sortsPts few5_any A n c l t f w (fun W hb => lives5_any W (tabs_below hT hb)) hn hc hbig hx

end Go.Proofs.YtlekncamokiekaaGreatDoor
#print axioms Go.Proofs.YtlekncamokiekaaGreatDoor.tileWays_holds
