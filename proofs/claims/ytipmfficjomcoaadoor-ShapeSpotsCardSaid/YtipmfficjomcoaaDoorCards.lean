/-
  DERIVED. GIVEN WITH THE SEED: THE CARDS: each row of YtipmfficjomcoaaDoorRows.lean that lists a variable, with what it lists TIED to the program's text (the seventh form; the later family's looks); each row that meets fmt, with fmt's text TOLD by the authors' own Lean function (tested against real Go, not proved from fmt's source: count such statements apart). THE CARD IS WHAT COUNTS. Prove the row's statement (the work); the ties are given (YtipmfficjomcoaaDoorTie.lean); close each card by the builder's one call (the guide's Derived/Test/ToyasCard.lean, 'card_holds'). Laid BY PROGRAM, IN A SANDBOX (cutbox-door.mjs). By AI agents, Wed Nov 11 2026. No macro, syntax, notation, axiom, sorry.
-/
import Derived.Test.YtipmfficjomcoaaDoorRows
import GoSem.ClaimSeven
namespace Go.Proofs.YtipmfficjomcoaaDoor
namespace Rows

/-- THE TIED CARD OF 'dominolaw17.ShapeTasks'. -/
def shapeTasksCard : Claim7 := { stood := { row := shapeTasksRow, standIns := [], harness := (true, "b51c9af04704eea82f655a5f45461bda46be16b68d0798ec6033d81cff00a01d"), looks := false }, kinds := [], alts := [], laidByText := true, laidKinds := [.data, .data], laidTests := true, laidLooks := .later }
def ShapeTasksCardSaid : Prop := Claim7.holds Tryd.pinned (.plain (OpenSpec.ofChange shapeTasksSpec)) shapeTasksCard

/-- THE TIED CARD OF 'dominolaw17.ShapeSpots'. -/
def shapeSpotsCard : Claim7 := { stood := { row := shapeSpotsRow, standIns := [], harness := (true, "b51c9af04704eea82f655a5f45461bda46be16b68d0798ec6033d81cff00a01d"), looks := false }, kinds := [], alts := [], laidByText := true, laidKinds := [.data, .data], laidTests := true, laidLooks := .later }
def ShapeSpotsCardSaid : Prop := Claim7.holds Tryd.pinned (.plain (OpenSpec.ofChange shapeSpotsSpec)) shapeSpotsCard

/-- THE TIED CARD OF 'dominolaw17.ShapeOrder'. -/
def shapeOrderCard : Claim7 := { stood := { row := shapeOrderRow, standIns := [], harness := (true, "b51c9af04704eea82f655a5f45461bda46be16b68d0798ec6033d81cff00a01d"), looks := false }, kinds := [], alts := [], laidByText := true, laidKinds := [.data, .data], laidTests := true, laidLooks := .later }
def ShapeOrderCardSaid : Prop := Claim7.holds Tryd.pinned (.plain (OpenSpec.ofChange shapeOrderSpec)) shapeOrderCard

/-- THE TIED CARD OF 'dominolaw17.ShapeCounts'. -/
def shapeCountsCard : Claim7 := { stood := { row := shapeCountsRow, standIns := [], harness := (true, "b51c9af04704eea82f655a5f45461bda46be16b68d0798ec6033d81cff00a01d"), looks := false }, kinds := [], alts := [], laidByText := true, laidKinds := [.data, .data], laidTests := true, laidLooks := .later }
def ShapeCountsCardSaid : Prop := Claim7.holds Tryd.pinned (.plain (OpenSpec.ofChange shapeCountsSpec)) shapeCountsCard

/-- THE TIED CARD OF 'dominolaw17.ShapePublic'. -/
def shapePublicCard : Claim7 := { stood := { row := shapePublicRow, standIns := [], harness := (true, "b51c9af04704eea82f655a5f45461bda46be16b68d0798ec6033d81cff00a01d"), looks := false }, kinds := [], alts := [], laidByText := true, laidKinds := [.data, .data], laidTests := true, laidLooks := .later }
def ShapePublicCardSaid : Prop := Claim7.holds Tryd.pinned (.plain (OpenSpec.ofChange shapePublicSpec)) shapePublicCard

/-- THE SECOND FORM's CARD OF 'dominolaw17.ShapeTasks'. -/
def shapeTasksUptoCard : Claim7 := { stood := { row := shapeTasksUptoRow, standIns := [], harness := (true, "b51c9af04704eea82f655a5f45461bda46be16b68d0798ec6033d81cff00a01d"), looks := false }, kinds := [], alts := [], laidByText := true, laidKinds := [.data, .data], laidTests := true, laidLooks := .later }
def ShapeTasksUptoCardSaid : Prop := Claim7.holds Tryd.pinned (.plain (OpenSpec.upto shapeTasksSpec)) shapeTasksUptoCard

/-- THE SECOND FORM's CARD OF 'dominolaw17.ShapeSpots'. -/
def shapeSpotsUptoCard : Claim7 := { stood := { row := shapeSpotsUptoRow, standIns := [], harness := (true, "b51c9af04704eea82f655a5f45461bda46be16b68d0798ec6033d81cff00a01d"), looks := false }, kinds := [], alts := [], laidByText := true, laidKinds := [.data, .data], laidTests := true, laidLooks := .later }
def ShapeSpotsUptoCardSaid : Prop := Claim7.holds Tryd.pinned (.plain (OpenSpec.upto shapeSpotsSpec)) shapeSpotsUptoCard

/-- THE SECOND FORM's CARD OF 'dominolaw17.ShapeOrder'. -/
def shapeOrderUptoCard : Claim7 := { stood := { row := shapeOrderUptoRow, standIns := [], harness := (true, "b51c9af04704eea82f655a5f45461bda46be16b68d0798ec6033d81cff00a01d"), looks := false }, kinds := [], alts := [], laidByText := true, laidKinds := [.data, .data], laidTests := true, laidLooks := .later }
def ShapeOrderUptoCardSaid : Prop := Claim7.holds Tryd.pinned (.plain (OpenSpec.upto shapeOrderSpec)) shapeOrderUptoCard

/-- THE SECOND FORM's CARD OF 'dominolaw17.ShapeCounts'. -/
def shapeCountsUptoCard : Claim7 := { stood := { row := shapeCountsUptoRow, standIns := [], harness := (true, "b51c9af04704eea82f655a5f45461bda46be16b68d0798ec6033d81cff00a01d"), looks := false }, kinds := [], alts := [], laidByText := true, laidKinds := [.data, .data], laidTests := true, laidLooks := .later }
def ShapeCountsUptoCardSaid : Prop := Claim7.holds Tryd.pinned (.plain (OpenSpec.upto shapeCountsSpec)) shapeCountsUptoCard

/-- THE SECOND FORM's CARD OF 'dominolaw17.ShapePublic'. -/
def shapePublicUptoCard : Claim7 := { stood := { row := shapePublicUptoRow, standIns := [], harness := (true, "b51c9af04704eea82f655a5f45461bda46be16b68d0798ec6033d81cff00a01d"), looks := false }, kinds := [], alts := [], laidByText := true, laidKinds := [.data, .data], laidTests := true, laidLooks := .later }
def ShapePublicUptoCardSaid : Prop := Claim7.holds Tryd.pinned (.plain (OpenSpec.upto shapePublicSpec)) shapePublicUptoCard
end Rows
end Go.Proofs.YtipmfficjomcoaaDoor
