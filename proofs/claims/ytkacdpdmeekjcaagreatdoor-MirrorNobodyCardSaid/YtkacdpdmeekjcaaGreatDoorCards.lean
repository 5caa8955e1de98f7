/-
  DERIVED. GIVEN WITH THE SEED: THE CARDS: each row of YtkacdpdmeekjcaaGreatDoorRows.lean that lists a variable, with what it lists TIED to the program's text (the seventh form; the later family's looks); each row that meets fmt, with fmt's text TOLD by the authors' own Lean function (tested against real Go, not proved from fmt's source: count such statements apart). THE CARD IS WHAT COUNTS. Prove the row's statement (the work); the ties are given (YtkacdpdmeekjcaaGreatDoorTie.lean); close each card by the builder's one call (the guide's Derived/Test/ToyasCard.lean, 'card_holds'). Laid BY PROGRAM, IN A SANDBOX (cutbox-door.mjs). By AI agents, Wed Nov 11 2026. No macro, syntax, notation, axiom, sorry.
-/
import Derived.Test.YtkacdpdmeekjcaaGreatDoorRows
import GoSem.ClaimSeven
namespace Go.Proofs.YtkacdpdmeekjcaaGreatDoor
namespace Rows

/-- THE TIED CARD OF 'cracknellaw09.MirrorDisks'. -/
def mirrorDisksCard : Claim7 := { stood := { row := mirrorDisksRow, standIns := [], harness := (true, "a8299f01b8daaf1676987fd26d3d17700b07e087751cf32792a303d875af9fe3"), looks := true }, kinds := [], alts := [], laidByText := true, laidKinds := [.data, .data, .data, .sentinel, .sentinel], laidTests := true, laidLooks := .later }
def MirrorDisksCardSaid : Prop := Claim7.holds Tryz.pinned (.plain (OpenSpec.ofChange mirrorDisksSpec)) mirrorDisksCard

/-- THE TIED CARD OF 'cracknellaw09.MirrorNobody'. -/
def mirrorNobodyCard : Claim7 := { stood := { row := mirrorNobodyRow, standIns := [], harness := (true, "a8299f01b8daaf1676987fd26d3d17700b07e087751cf32792a303d875af9fe3"), looks := true }, kinds := [], alts := [], laidByText := true, laidKinds := [.data, .data, .data, .sentinel, .sentinel], laidTests := true, laidLooks := .later }
def MirrorNobodyCardSaid : Prop := Claim7.holds Tryz.pinned (.plain (OpenSpec.ofChange mirrorNobodySpec)) mirrorNobodyCard

/-- THE SECOND FORM's CARD OF 'cracknellaw09.MirrorDisks'. -/
def mirrorDisksUptoCard : Claim7 := { stood := { row := mirrorDisksUptoRow, standIns := [], harness := (true, "a8299f01b8daaf1676987fd26d3d17700b07e087751cf32792a303d875af9fe3"), looks := true }, kinds := [], alts := [], laidByText := true, laidKinds := [.data, .data, .data, .sentinel, .sentinel], laidTests := true, laidLooks := .later }
def MirrorDisksUptoCardSaid : Prop := Claim7.holds Tryz.pinned (.plain (OpenSpec.upto mirrorDisksSpec)) mirrorDisksUptoCard

/-- THE SECOND FORM's CARD OF 'cracknellaw09.MirrorNobody'. -/
def mirrorNobodyUptoCard : Claim7 := { stood := { row := mirrorNobodyUptoRow, standIns := [], harness := (true, "a8299f01b8daaf1676987fd26d3d17700b07e087751cf32792a303d875af9fe3"), looks := true }, kinds := [], alts := [], laidByText := true, laidKinds := [.data, .data, .data, .sentinel, .sentinel], laidTests := true, laidLooks := .later }
def MirrorNobodyUptoCardSaid : Prop := Claim7.holds Tryz.pinned (.plain (OpenSpec.upto mirrorNobodySpec)) mirrorNobodyUptoCard
end Rows
end Go.Proofs.YtkacdpdmeekjcaaGreatDoor
