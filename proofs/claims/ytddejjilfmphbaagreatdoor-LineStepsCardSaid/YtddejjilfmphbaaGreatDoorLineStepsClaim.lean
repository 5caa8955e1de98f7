/- LineSteps returns true for every graph, state and numbers of steps, and changes nothing: a steps and then b steps are a + b steps, and a number that is added to all elements of a state is added to all states after it. Conditions: the row's own (the three listed variables of the library lie as the program's text lays them). -/
import Derived.Test.YtddejjilfmphbaaGreatDoorLineStepsFrame
import Derived.Test.YtddejjilfmphbaaGreatDoorLineStepsFacts
import Derived.Test.YtddejjilfmphbaaGreatDoorLineStepsLaw
import Derived.Test.YtddejjilfmphbaaGreatDoorLives6
namespace Go.Proofs.YtddejjilfmphbaaGreatDoor

theorem lineSteps_holds : Rows.LineStepsCardSaid :=
  lineSteps.card_of lineSteps.joined fun gn A n c l X nx cx xs n0 n1 n2 w hgn hn hc hbig hW hA hxn hxc hxb hxw hx h0 h1 h2 hT => steps_law gn A n c l X nx cx xs n0 n1 n2 w (fun W hb => lives6_any W (tabs_below hT hb)) hgn hn hc hbig hW hA hxn hxc hxb hxw hx h0 h1 h2

end Go.Proofs.YtddejjilfmphbaaGreatDoor
#print axioms Go.Proofs.YtddejjilfmphbaaGreatDoor.lineSteps_holds
