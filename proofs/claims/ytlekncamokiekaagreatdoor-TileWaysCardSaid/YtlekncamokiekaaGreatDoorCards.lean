/-
  DERIVED. GIVEN WITH THE SEED: THE CARDS: each row of YtlekncamokiekaaGreatDoorRows.lean that lists a variable, with what it lists TIED to the program's text (the seventh form; the later family's looks); each row that meets fmt, with fmt's text TOLD by the authors' own Lean function (tested against real Go, not proved from fmt's source: count such statements apart). THE CARD IS WHAT COUNTS. Prove the row's statement (the work); the ties are given (YtlekncamokiekaaGreatDoorTie.lean); close each card by the builder's one call (the guide's Derived/Test/ToyasCard.lean, 'card_holds'). Laid BY PROGRAM, IN A SANDBOX (cutbox-door.mjs). By AI agents, Wed Nov 11 2026. No macro, syntax, notation, axiom, sorry.
-/
import Derived.Test.YtlekncamokiekaaGreatDoorRows
import GoSem.ClaimSeven
namespace Go.Proofs.YtlekncamokiekaaGreatDoor
namespace Rows

/-- THE TIED CARD OF 'cracknellaw05.TileWays'. -/
def tileWaysCard : Claim7 := { stood := { row := tileWaysRow, standIns := [], harness := (true, "a367ed03b134e9cb00d7ea08b25fe4db68c331d67dc9fda46c955f6372e09e25"), looks := false }, kinds := [], alts := [], laidByText := true, laidKinds := [.data, .data, .data], laidTests := true, laidLooks := .later }
def TileWaysCardSaid : Prop := Claim7.holds Tryz.pinned (.plain (OpenSpec.ofChange tileWaysSpec)) tileWaysCard

/-- THE SECOND FORM's CARD OF 'cracknellaw05.TileWays'. -/
def tileWaysUptoCard : Claim7 := { stood := { row := tileWaysUptoRow, standIns := [], harness := (true, "a367ed03b134e9cb00d7ea08b25fe4db68c331d67dc9fda46c955f6372e09e25"), looks := false }, kinds := [], alts := [], laidByText := true, laidKinds := [.data, .data, .data], laidTests := true, laidLooks := .later }
def TileWaysUptoCardSaid : Prop := Claim7.holds Tryz.pinned (.plain (OpenSpec.upto tileWaysSpec)) tileWaysUptoCard
end Rows
end Go.Proofs.YtlekncamokiekaaGreatDoor
