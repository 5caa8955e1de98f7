/-
  DERIVED. GIVEN WITH THE SEED: THE CARDS: each row of YtpeinngifknpkaaGreatDoorRows.lean that lists a variable, with what it lists TIED to the program's text (the seventh form; the later family's looks); each row that meets fmt, with fmt's text TOLD by the authors' own Lean function (tested against real Go, not proved from fmt's source: count such statements apart). THE CARD IS WHAT COUNTS. Prove the row's statement (the work); the ties are given (YtpeinngifknpkaaGreatDoorTie.lean); close each card by the builder's one call (the guide's Derived/Test/ToyasCard.lean, 'card_holds'). Laid BY PROGRAM, IN A SANDBOX (cutbox-door.mjs). By AI agents, Wed Nov 11 2026. No macro, syntax, notation, axiom, sorry.
-/
import Derived.Test.YtpeinngifknpkaaGreatDoorRows
import GoSem.ClaimSeven
namespace Go.Proofs.YtpeinngifknpkaaGreatDoor
namespace Rows

/-- THE TIED CARD OF 'cracknellaw09.MirrorDisks'. -/
def mirrorDisksCard : Claim7 := { stood := { row := mirrorDisksRow, standIns := [], harness := (true, "45476e73ff7786caddf1d1525816aca3392bfd4403396319d9a365eaa663fcf7"), looks := true }, kinds := [], alts := [], laidByText := true, laidKinds := [.data, .data, .data, .sentinel, .sentinel], laidTests := true, laidLooks := .later }
def MirrorDisksCardSaid : Prop := Claim7.holds Tryz.pinned (.plain (OpenSpec.ofChange mirrorDisksSpec)) mirrorDisksCard

/-- THE TIED CARD OF 'cracknellaw09.MirrorPlays'. -/
def mirrorPlaysCard : Claim7 := { stood := { row := mirrorPlaysRow, standIns := [], harness := (true, "45476e73ff7786caddf1d1525816aca3392bfd4403396319d9a365eaa663fcf7"), looks := true }, kinds := [], alts := [], laidByText := true, laidKinds := [.data, .data, .data, .sentinel, .sentinel], laidTests := true, laidLooks := .later }
def MirrorPlaysCardSaid : Prop := Claim7.holds Tryz.pinned (.plain (OpenSpec.ofChange mirrorPlaysSpec)) mirrorPlaysCard

/-- THE TIED CARD OF 'cracknellaw09.MirrorFormats'. -/
def mirrorFormatsCard : Claim7 := { stood := { row := mirrorFormatsRow, standIns := [], harness := (true, "45476e73ff7786caddf1d1525816aca3392bfd4403396319d9a365eaa663fcf7"), looks := true }, kinds := [], alts := [], laidByText := true, laidKinds := [.data, .data, .data, .sentinel, .sentinel], laidTests := true, laidLooks := .later }
def MirrorFormatsCardSaid : Prop := Claim7.holds Tryz.pinned (.plain (OpenSpec.ofChange mirrorFormatsSpec)) mirrorFormatsCard

/-- THE TIED CARD OF 'cracknellaw09.MirrorOpens'. -/
def mirrorOpensCard : Claim7 := { stood := { row := mirrorOpensRow, standIns := [], harness := (true, "45476e73ff7786caddf1d1525816aca3392bfd4403396319d9a365eaa663fcf7"), looks := true }, kinds := [], alts := [], laidByText := true, laidKinds := [.data, .data, .data, .sentinel, .sentinel], laidTests := true, laidLooks := .later }
def MirrorOpensCardSaid : Prop := Claim7.holds Tryz.pinned (.plain (OpenSpec.ofChange mirrorOpensSpec)) mirrorOpensCard

/-- THE TIED CARD OF 'cracknellaw09.MirrorAway'. -/
def mirrorAwayCard : Claim7 := { stood := { row := mirrorAwayRow, standIns := [], harness := (true, "45476e73ff7786caddf1d1525816aca3392bfd4403396319d9a365eaa663fcf7"), looks := true }, kinds := [], alts := [], laidByText := true, laidKinds := [.data, .data, .data, .sentinel, .sentinel], laidTests := true, laidLooks := .later }
def MirrorAwayCardSaid : Prop := Claim7.holds Tryz.pinned (.plain (OpenSpec.ofChange mirrorAwaySpec)) mirrorAwayCard

/-- THE TIED CARD OF 'cracknellaw09.MirrorLost'. -/
def mirrorLostCard : Claim7 := { stood := { row := mirrorLostRow, standIns := [], harness := (true, "45476e73ff7786caddf1d1525816aca3392bfd4403396319d9a365eaa663fcf7"), looks := true }, kinds := [], alts := [], laidByText := true, laidKinds := [.data, .data, .data, .sentinel, .sentinel], laidTests := true, laidLooks := .later }
def MirrorLostCardSaid : Prop := Claim7.holds Tryz.pinned (.plain (OpenSpec.ofChange mirrorLostSpec)) mirrorLostCard

/-- THE TIED CARD OF 'cracknellaw09.MirrorPairs'. -/
def mirrorPairsCard : Claim7 := { stood := { row := mirrorPairsRow, standIns := [], harness := (true, "45476e73ff7786caddf1d1525816aca3392bfd4403396319d9a365eaa663fcf7"), looks := true }, kinds := [], alts := [], laidByText := true, laidKinds := [.data, .data, .data, .sentinel, .sentinel], laidTests := true, laidLooks := .later }
def MirrorPairsCardSaid : Prop := Claim7.holds Tryz.pinned (.plain (OpenSpec.ofChange mirrorPairsSpec)) mirrorPairsCard

/-- THE TIED CARD OF 'cracknellaw09.MirrorFull'. -/
def mirrorFullCard : Claim7 := { stood := { row := mirrorFullRow, standIns := [], harness := (true, "45476e73ff7786caddf1d1525816aca3392bfd4403396319d9a365eaa663fcf7"), looks := true }, kinds := [], alts := [], laidByText := true, laidKinds := [.data, .data, .data, .sentinel, .sentinel], laidTests := true, laidLooks := .later }
def MirrorFullCardSaid : Prop := Claim7.holds Tryz.pinned (.plain (OpenSpec.ofChange mirrorFullSpec)) mirrorFullCard

/-- THE TIED CARD OF 'cracknellaw09.MirrorRefused'. -/
def mirrorRefusedCard : Claim7 := { stood := { row := mirrorRefusedRow, standIns := [], harness := (true, "45476e73ff7786caddf1d1525816aca3392bfd4403396319d9a365eaa663fcf7"), looks := true }, kinds := [], alts := [], laidByText := true, laidKinds := [.data, .data, .data, .sentinel, .sentinel], laidTests := true, laidLooks := .later }
def MirrorRefusedCardSaid : Prop := Claim7.holds Tryz.pinned (.plain (OpenSpec.ofChange mirrorRefusedSpec)) mirrorRefusedCard

/-- THE TIED CARD OF 'cracknellaw09.MirrorCloned'. -/
def mirrorClonedCard : Claim7 := { stood := { row := mirrorClonedRow, standIns := [], harness := (true, "45476e73ff7786caddf1d1525816aca3392bfd4403396319d9a365eaa663fcf7"), looks := true }, kinds := [], alts := [], laidByText := true, laidKinds := [.data, .data, .data, .sentinel, .sentinel], laidTests := true, laidLooks := .later }
def MirrorClonedCardSaid : Prop := Claim7.holds Tryz.pinned (.plain (OpenSpec.ofChange mirrorClonedSpec)) mirrorClonedCard

/-- THE SECOND FORM's CARD OF 'cracknellaw09.MirrorDisks'. -/
def mirrorDisksUptoCard : Claim7 := { stood := { row := mirrorDisksUptoRow, standIns := [], harness := (true, "45476e73ff7786caddf1d1525816aca3392bfd4403396319d9a365eaa663fcf7"), looks := true }, kinds := [], alts := [], laidByText := true, laidKinds := [.data, .data, .data, .sentinel, .sentinel], laidTests := true, laidLooks := .later }
def MirrorDisksUptoCardSaid : Prop := Claim7.holds Tryz.pinned (.plain (OpenSpec.upto mirrorDisksSpec)) mirrorDisksUptoCard

/-- THE SECOND FORM's CARD OF 'cracknellaw09.MirrorPlays'. -/
def mirrorPlaysUptoCard : Claim7 := { stood := { row := mirrorPlaysUptoRow, standIns := [], harness := (true, "45476e73ff7786caddf1d1525816aca3392bfd4403396319d9a365eaa663fcf7"), looks := true }, kinds := [], alts := [], laidByText := true, laidKinds := [.data, .data, .data, .sentinel, .sentinel], laidTests := true, laidLooks := .later }
def MirrorPlaysUptoCardSaid : Prop := Claim7.holds Tryz.pinned (.plain (OpenSpec.upto mirrorPlaysSpec)) mirrorPlaysUptoCard

/-- THE SECOND FORM's CARD OF 'cracknellaw09.MirrorFormats'. -/
def mirrorFormatsUptoCard : Claim7 := { stood := { row := mirrorFormatsUptoRow, standIns := [], harness := (true, "45476e73ff7786caddf1d1525816aca3392bfd4403396319d9a365eaa663fcf7"), looks := true }, kinds := [], alts := [], laidByText := true, laidKinds := [.data, .data, .data, .sentinel, .sentinel], laidTests := true, laidLooks := .later }
def MirrorFormatsUptoCardSaid : Prop := Claim7.holds Tryz.pinned (.plain (OpenSpec.upto mirrorFormatsSpec)) mirrorFormatsUptoCard

/-- THE SECOND FORM's CARD OF 'cracknellaw09.MirrorOpens'. -/
def mirrorOpensUptoCard : Claim7 := { stood := { row := mirrorOpensUptoRow, standIns := [], harness := (true, "45476e73ff7786caddf1d1525816aca3392bfd4403396319d9a365eaa663fcf7"), looks := true }, kinds := [], alts := [], laidByText := true, laidKinds := [.data, .data, .data, .sentinel, .sentinel], laidTests := true, laidLooks := .later }
def MirrorOpensUptoCardSaid : Prop := Claim7.holds Tryz.pinned (.plain (OpenSpec.upto mirrorOpensSpec)) mirrorOpensUptoCard

/-- THE SECOND FORM's CARD OF 'cracknellaw09.MirrorAway'. -/
def mirrorAwayUptoCard : Claim7 := { stood := { row := mirrorAwayUptoRow, standIns := [], harness := (true, "45476e73ff7786caddf1d1525816aca3392bfd4403396319d9a365eaa663fcf7"), looks := true }, kinds := [], alts := [], laidByText := true, laidKinds := [.data, .data, .data, .sentinel, .sentinel], laidTests := true, laidLooks := .later }
def MirrorAwayUptoCardSaid : Prop := Claim7.holds Tryz.pinned (.plain (OpenSpec.upto mirrorAwaySpec)) mirrorAwayUptoCard

/-- THE SECOND FORM's CARD OF 'cracknellaw09.MirrorLost'. -/
def mirrorLostUptoCard : Claim7 := { stood := { row := mirrorLostUptoRow, standIns := [], harness := (true, "45476e73ff7786caddf1d1525816aca3392bfd4403396319d9a365eaa663fcf7"), looks := true }, kinds := [], alts := [], laidByText := true, laidKinds := [.data, .data, .data, .sentinel, .sentinel], laidTests := true, laidLooks := .later }
def MirrorLostUptoCardSaid : Prop := Claim7.holds Tryz.pinned (.plain (OpenSpec.upto mirrorLostSpec)) mirrorLostUptoCard

/-- THE SECOND FORM's CARD OF 'cracknellaw09.MirrorPairs'. -/
def mirrorPairsUptoCard : Claim7 := { stood := { row := mirrorPairsUptoRow, standIns := [], harness := (true, "45476e73ff7786caddf1d1525816aca3392bfd4403396319d9a365eaa663fcf7"), looks := true }, kinds := [], alts := [], laidByText := true, laidKinds := [.data, .data, .data, .sentinel, .sentinel], laidTests := true, laidLooks := .later }
def MirrorPairsUptoCardSaid : Prop := Claim7.holds Tryz.pinned (.plain (OpenSpec.upto mirrorPairsSpec)) mirrorPairsUptoCard

/-- THE SECOND FORM's CARD OF 'cracknellaw09.MirrorFull'. -/
def mirrorFullUptoCard : Claim7 := { stood := { row := mirrorFullUptoRow, standIns := [], harness := (true, "45476e73ff7786caddf1d1525816aca3392bfd4403396319d9a365eaa663fcf7"), looks := true }, kinds := [], alts := [], laidByText := true, laidKinds := [.data, .data, .data, .sentinel, .sentinel], laidTests := true, laidLooks := .later }
def MirrorFullUptoCardSaid : Prop := Claim7.holds Tryz.pinned (.plain (OpenSpec.upto mirrorFullSpec)) mirrorFullUptoCard

/-- THE SECOND FORM's CARD OF 'cracknellaw09.MirrorRefused'. -/
def mirrorRefusedUptoCard : Claim7 := { stood := { row := mirrorRefusedUptoRow, standIns := [], harness := (true, "45476e73ff7786caddf1d1525816aca3392bfd4403396319d9a365eaa663fcf7"), looks := true }, kinds := [], alts := [], laidByText := true, laidKinds := [.data, .data, .data, .sentinel, .sentinel], laidTests := true, laidLooks := .later }
def MirrorRefusedUptoCardSaid : Prop := Claim7.holds Tryz.pinned (.plain (OpenSpec.upto mirrorRefusedSpec)) mirrorRefusedUptoCard

/-- THE SECOND FORM's CARD OF 'cracknellaw09.MirrorCloned'. -/
def mirrorClonedUptoCard : Claim7 := { stood := { row := mirrorClonedUptoRow, standIns := [], harness := (true, "45476e73ff7786caddf1d1525816aca3392bfd4403396319d9a365eaa663fcf7"), looks := true }, kinds := [], alts := [], laidByText := true, laidKinds := [.data, .data, .data, .sentinel, .sentinel], laidTests := true, laidLooks := .later }
def MirrorClonedUptoCardSaid : Prop := Claim7.holds Tryz.pinned (.plain (OpenSpec.upto mirrorClonedSpec)) mirrorClonedUptoCard
end Rows
end Go.Proofs.YtpeinngifknpkaaGreatDoor
