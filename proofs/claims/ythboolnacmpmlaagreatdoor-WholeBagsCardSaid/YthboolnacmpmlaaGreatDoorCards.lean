/-
  DERIVED. GIVEN WITH THE SEED: THE CARDS: each row of YthboolnacmpmlaaGreatDoorRows.lean that lists a variable, with what it lists TIED to the program's text (the seventh form; the later family's looks); each row that meets fmt, with fmt's text TOLD by the authors' own Lean function (tested against real Go, not proved from fmt's source: count such statements apart). THE CARD IS WHAT COUNTS. Prove the row's statement (the work); the ties are given (YthboolnacmpmlaaGreatDoorTie.lean); close each card by the builder's one call (the guide's Derived/Test/ToyasCard.lean, 'card_holds'). Laid BY PROGRAM, IN A SANDBOX (cutbox-door.mjs). By AI agents, Wed Nov 11 2026. No macro, syntax, notation, axiom, sorry.
-/
import Derived.Test.YthboolnacmpmlaaGreatDoorRows
import GoSem.ClaimSeven
namespace Go.Proofs.YthboolnacmpmlaaGreatDoor
namespace Rows

/-- THE TIED CARD OF 'cracknellaw03.WholeBags'. -/
def wholeBagsCard : Claim7 := { stood := { row := wholeBagsRow, standIns := [], harness := (true, "f6178100dc9d3f69852a39a68df13962d4c23401cff1a9cce7c8678c807d21db"), looks := true }, kinds := [], alts := [], laidByText := true, laidKinds := [.data, .data, .data], laidTests := true, laidLooks := .later }
def WholeBagsCardSaid : Prop := Claim7.holds Tryz.pinned (.plain (OpenSpec.ofChange wholeBagsSpec)) wholeBagsCard

/-- THE TIED CARD OF 'cracknellaw03.WholeAperies'. -/
def wholeAperiesCard : Claim7 := { stood := { row := wholeAperiesRow, standIns := [], harness := (true, "f6178100dc9d3f69852a39a68df13962d4c23401cff1a9cce7c8678c807d21db"), looks := true }, kinds := [], alts := [], laidByText := true, laidKinds := [.data, .data, .data], laidTests := true, laidLooks := .later }
def WholeAperiesCardSaid : Prop := Claim7.holds Tryz.pinned (.plain (OpenSpec.ofChange wholeAperiesSpec)) wholeAperiesCard

/-- THE TIED CARD OF 'cracknellaw03.WholeMade'. -/
def wholeMadeCard : Claim7 := { stood := { row := wholeMadeRow, standIns := [], harness := (true, "f6178100dc9d3f69852a39a68df13962d4c23401cff1a9cce7c8678c807d21db"), looks := true }, kinds := [], alts := [], laidByText := true, laidKinds := [.data, .data, .data], laidTests := true, laidLooks := .later }
def WholeMadeCardSaid : Prop := Claim7.holds Tryz.pinned (.plain (OpenSpec.ofChange wholeMadeSpec)) wholeMadeCard

/-- THE TIED CARD OF 'cracknellaw03.WholeSylvester'. -/
def wholeSylvesterCard : Claim7 := { stood := { row := wholeSylvesterRow, standIns := [], harness := (true, "f6178100dc9d3f69852a39a68df13962d4c23401cff1a9cce7c8678c807d21db"), looks := true }, kinds := [], alts := [], laidByText := true, laidKinds := [.data, .data, .data], laidTests := true, laidLooks := .later }
def WholeSylvesterCardSaid : Prop := Claim7.holds Tryz.pinned (.plain (OpenSpec.ofChange wholeSylvesterSpec)) wholeSylvesterCard

/-- THE SECOND FORM's CARD OF 'cracknellaw03.WholeBags'. -/
def wholeBagsUptoCard : Claim7 := { stood := { row := wholeBagsUptoRow, standIns := [], harness := (true, "f6178100dc9d3f69852a39a68df13962d4c23401cff1a9cce7c8678c807d21db"), looks := true }, kinds := [], alts := [], laidByText := true, laidKinds := [.data, .data, .data], laidTests := true, laidLooks := .later }
def WholeBagsUptoCardSaid : Prop := Claim7.holds Tryz.pinned (.plain (OpenSpec.upto wholeBagsSpec)) wholeBagsUptoCard

/-- THE SECOND FORM's CARD OF 'cracknellaw03.WholeAperies'. -/
def wholeAperiesUptoCard : Claim7 := { stood := { row := wholeAperiesUptoRow, standIns := [], harness := (true, "f6178100dc9d3f69852a39a68df13962d4c23401cff1a9cce7c8678c807d21db"), looks := true }, kinds := [], alts := [], laidByText := true, laidKinds := [.data, .data, .data], laidTests := true, laidLooks := .later }
def WholeAperiesUptoCardSaid : Prop := Claim7.holds Tryz.pinned (.plain (OpenSpec.upto wholeAperiesSpec)) wholeAperiesUptoCard

/-- THE SECOND FORM's CARD OF 'cracknellaw03.WholeMade'. -/
def wholeMadeUptoCard : Claim7 := { stood := { row := wholeMadeUptoRow, standIns := [], harness := (true, "f6178100dc9d3f69852a39a68df13962d4c23401cff1a9cce7c8678c807d21db"), looks := true }, kinds := [], alts := [], laidByText := true, laidKinds := [.data, .data, .data], laidTests := true, laidLooks := .later }
def WholeMadeUptoCardSaid : Prop := Claim7.holds Tryz.pinned (.plain (OpenSpec.upto wholeMadeSpec)) wholeMadeUptoCard

/-- THE SECOND FORM's CARD OF 'cracknellaw03.WholeSylvester'. -/
def wholeSylvesterUptoCard : Claim7 := { stood := { row := wholeSylvesterUptoRow, standIns := [], harness := (true, "f6178100dc9d3f69852a39a68df13962d4c23401cff1a9cce7c8678c807d21db"), looks := true }, kinds := [], alts := [], laidByText := true, laidKinds := [.data, .data, .data], laidTests := true, laidLooks := .later }
def WholeSylvesterUptoCardSaid : Prop := Claim7.holds Tryz.pinned (.plain (OpenSpec.upto wholeSylvesterSpec)) wholeSylvesterUptoCard
end Rows
end Go.Proofs.YthboolnacmpmlaaGreatDoor
