/-
  DERIVED. GIVEN WITH THE SEED: THE CARDS: each row of YtjelacblnjbfgaaDoorRows.lean that lists a variable, with what it lists TIED to the program's text (the seventh form; the later family's looks); each row that meets fmt, with fmt's text TOLD by the authors' own Lean function (tested against real Go, not proved from fmt's source: count such statements apart). THE CARD IS WHAT COUNTS. Prove the row's statement (the work); the ties are given (YtjelacblnjbfgaaDoorTie.lean); close each card by the builder's one call (the guide's Derived/Test/ToyasCard.lean, 'card_holds'). Laid BY PROGRAM, IN A SANDBOX (cutbox-door.mjs). By AI agents, Wed Nov 11 2026. No macro, syntax, notation, axiom, sorry.
-/
import Derived.Test.YtjelacblnjbfgaaDoorRows
import GoSem.ClaimSeven
namespace Go.Proofs.YtjelacblnjbfgaaDoor
namespace Rows

/-- THE TIED CARD OF 'dominolaw10.BlockPlaces'. -/
def blockPlacesCard : Claim7 := { stood := { row := blockPlacesRow, standIns := [], harness := (true, "6885830a7f7ade2cabb0ecf3bc236fabbbf4aa62805db451c2e8e7c7b045780e"), looks := false }, kinds := [], alts := [], laidByText := true, laidKinds := [.widerDeep, .data, .data, .data], laidTests := true, laidLooks := .later }
def BlockPlacesCardSaid : Prop := Claim7.holds Tryd.pinned (.plain (OpenSpec.ofChange blockPlacesSpec)) blockPlacesCard

/-- THE SECOND FORM's CARD OF 'dominolaw10.BlockPlaces'. -/
def blockPlacesUptoCard : Claim7 := { stood := { row := blockPlacesUptoRow, standIns := [], harness := (true, "6885830a7f7ade2cabb0ecf3bc236fabbbf4aa62805db451c2e8e7c7b045780e"), looks := false }, kinds := [], alts := [], laidByText := true, laidKinds := [.widerDeep, .data, .data, .data], laidTests := true, laidLooks := .later }
def BlockPlacesUptoCardSaid : Prop := Claim7.holds Tryd.pinned (.plain (OpenSpec.upto blockPlacesSpec)) blockPlacesUptoCard
end Rows
end Go.Proofs.YtjelacblnjbfgaaDoor
