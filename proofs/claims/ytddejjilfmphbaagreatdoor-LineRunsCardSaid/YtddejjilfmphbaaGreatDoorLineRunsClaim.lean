/- LineRuns returns true for every graph, state and number of steps, and changes nothing: Run returns the state after some steps, or the error that the document names. Conditions: the row's own (the three listed variables of the library lie as the program's text lays them). -/
import Derived.Test.YtddejjilfmphbaaGreatDoorLineRunsFrame
import Derived.Test.YtddejjilfmphbaaGreatDoorLineRunsFacts
import Derived.Test.YtddejjilfmphbaaGreatDoorLineRunsLaw
import Derived.Test.YtddejjilfmphbaaGreatDoorLives6
namespace Go.Proofs.YtddejjilfmphbaaGreatDoor

theorem lineRuns_holds : Rows.LineRunsCardSaid :=
  lineRuns.card_of lineRuns.joined fun gn A n c l X nx cx xs k w _ hn hc hbig _ hA hxn hxc hxb _ hx _ hT => runs_law gn A n c l X nx cx xs k w (fun W hb => lives6_any W (tabs_below hT hb)) hn hc hbig hA hxn hxc hxb hx

end Go.Proofs.YtddejjilfmphbaaGreatDoor
#print axioms Go.Proofs.YtddejjilfmphbaaGreatDoor.lineRuns_holds
