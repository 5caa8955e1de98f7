/-
  DERIVED. GIVEN WITH THE SEED: THE CARDS: each row of YtddejjilfmphbaaGreatDoorRows.lean that lists a variable, with what it lists TIED to the program's text (the seventh form; the later family's looks); each row that meets fmt, with fmt's text TOLD by the authors' own Lean function (tested against real Go, not proved from fmt's source: count such statements apart). THE CARD IS WHAT COUNTS. Prove the row's statement (the work); the ties are given (YtddejjilfmphbaaGreatDoorTie.lean); close each card by the builder's one call (the guide's Derived/Test/ToyasCard.lean, 'card_holds'). Laid BY PROGRAM, IN A SANDBOX (cutbox-door.mjs). By AI agents, Wed Nov 11 2026. No macro, syntax, notation, axiom, sorry.
-/
import Derived.Test.YtddejjilfmphbaaGreatDoorRows
import GoSem.ClaimSeven
namespace Go.Proofs.YtddejjilfmphbaaGreatDoor
namespace Rows

/-- THE TIED CARD OF 'cracknellaw06.LineRuns'. -/
def lineRunsCard : Claim7 := { stood := { row := lineRunsRow, standIns := [], harness := (true, "77854d163aac3ed2d7bc653d90da0a48b89a22bdd4aee0acc652b40604594f1f"), looks := false }, kinds := [], alts := [], laidByText := true, laidKinds := [.data, .data, .data], laidTests := true, laidLooks := .later }
def LineRunsCardSaid : Prop := Claim7.holds Tryz.pinned (.plain (OpenSpec.ofChange lineRunsSpec)) lineRunsCard

/-- THE TIED CARD OF 'cracknellaw06.LineSteps'. -/
def lineStepsCard : Claim7 := { stood := { row := lineStepsRow, standIns := [], harness := (true, "77854d163aac3ed2d7bc653d90da0a48b89a22bdd4aee0acc652b40604594f1f"), looks := false }, kinds := [], alts := [], laidByText := true, laidKinds := [.data, .data, .data], laidTests := true, laidLooks := .later }
def LineStepsCardSaid : Prop := Claim7.holds Tryz.pinned (.plain (OpenSpec.ofChange lineStepsSpec)) lineStepsCard

/-- THE SECOND FORM's CARD OF 'cracknellaw06.LineRuns'. -/
def lineRunsUptoCard : Claim7 := { stood := { row := lineRunsUptoRow, standIns := [], harness := (true, "77854d163aac3ed2d7bc653d90da0a48b89a22bdd4aee0acc652b40604594f1f"), looks := false }, kinds := [], alts := [], laidByText := true, laidKinds := [.data, .data, .data], laidTests := true, laidLooks := .later }
def LineRunsUptoCardSaid : Prop := Claim7.holds Tryz.pinned (.plain (OpenSpec.upto lineRunsSpec)) lineRunsUptoCard

/-- THE SECOND FORM's CARD OF 'cracknellaw06.LineSteps'. -/
def lineStepsUptoCard : Claim7 := { stood := { row := lineStepsUptoRow, standIns := [], harness := (true, "77854d163aac3ed2d7bc653d90da0a48b89a22bdd4aee0acc652b40604594f1f"), looks := false }, kinds := [], alts := [], laidByText := true, laidKinds := [.data, .data, .data], laidTests := true, laidLooks := .later }
def LineStepsUptoCardSaid : Prop := Claim7.holds Tryz.pinned (.plain (OpenSpec.upto lineStepsSpec)) lineStepsUptoCard
end Rows
end Go.Proofs.YtddejjilfmphbaaGreatDoor
