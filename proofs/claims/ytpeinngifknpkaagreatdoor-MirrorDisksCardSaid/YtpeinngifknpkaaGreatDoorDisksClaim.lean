/- MirrorDisks returns true for every list of acts, and changes nothing: a disk does every act, in any order, as the document says, and a clone is independent. Conditions: the row's own (the five listed variables of the library lie as the program's text lays them). -/
import Derived.Test.YtpeinngifknpkaaGreatDoorDisksFrame
import Derived.Test.YtpeinngifknpkaaGreatDoorDisksFacts
import Derived.Test.YtpeinngifknpkaaGreatDoorDiskLaw
namespace Go.Proofs.YtpeinngifknpkaaGreatDoor

theorem mirrorDisks_holds : Rows.MirrorDisksCardSaid :=
  mirrorDisks.card_of mirrorDisks.joined fun A n c w hA hT => disks_law w hT A n c hA

end Go.Proofs.YtpeinngifknpkaaGreatDoor
#print axioms Go.Proofs.YtpeinngifknpkaaGreatDoor.mirrorDisks_holds
