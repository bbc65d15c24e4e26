/-
  DERIVED. GIVEN WITH THE SEED: THE CARDS: each row of YtebkicikpeicmaaDoorRows.lean that lists a variable, with what it lists TIED to the program's text (the seventh form; the later family's looks); each row that meets fmt, with fmt's text TOLD by the authors' own Lean function (tested against real Go, not proved from fmt's source: count such statements apart). THE CARD IS WHAT COUNTS. Prove the row's statement (the work); the ties are given (YtebkicikpeicmaaDoorTie.lean); close each card by the builder's one call (the guide's Derived/Test/ToyasCard.lean, 'card_holds'). Laid BY PROGRAM, IN A SANDBOX (cutbox-door.mjs). By AI agents, Wed Nov 11 2026. No macro, syntax, notation, axiom, sorry.
-/
import Derived.Test.YtebkicikpeicmaaDoorRows
import GoSem.ClaimSeven
namespace Go.Proofs.YtebkicikpeicmaaDoor
namespace Rows

/-- THE TIED CARD OF 'dominolaw06.PolyTags'. -/
def polyTagsCard : Claim7 := { stood := { row := polyTagsRow, standIns := [], harness := (true, "9d09f719a415488d530ca78bf13ef0359f19f2341467271f1f7cb433901f189e"), looks := false }, kinds := [], alts := [], laidByText := true, laidKinds := [.data], laidTests := true, laidLooks := .later }
def PolyTagsCardSaid : Prop := Claim7.holds Tryd.pinned (.plain (OpenSpec.ofChange polyTagsSpec)) polyTagsCard

/-- THE TIED CARD OF 'dominolaw06.PolyEdges'. -/
def polyEdgesCard : Claim7 := { stood := { row := polyEdgesRow, standIns := [], harness := (true, "9d09f719a415488d530ca78bf13ef0359f19f2341467271f1f7cb433901f189e"), looks := false }, kinds := [], alts := [], laidByText := true, laidKinds := [.data], laidTests := true, laidLooks := .later }
def PolyEdgesCardSaid : Prop := Claim7.holds Tryd.pinned (.plain (OpenSpec.ofChange polyEdgesSpec)) polyEdgesCard

/-- THE TIED CARD OF 'dominolaw06.PolyOne'. -/
def polyOneCard : Claim7 := { stood := { row := polyOneRow, standIns := [], harness := (true, "9d09f719a415488d530ca78bf13ef0359f19f2341467271f1f7cb433901f189e"), looks := false }, kinds := [], alts := [], laidByText := true, laidKinds := [.data], laidTests := true, laidLooks := .later }
def PolyOneCardSaid : Prop := Claim7.holds Tryd.pinned (.plain (OpenSpec.ofChange polyOneSpec)) polyOneCard

/-- THE TIED CARD OF 'dominolaw06.PolyTwice'. -/
def polyTwiceCard : Claim7 := { stood := { row := polyTwiceRow, standIns := [], harness := (true, "9d09f719a415488d530ca78bf13ef0359f19f2341467271f1f7cb433901f189e"), looks := false }, kinds := [], alts := [], laidByText := true, laidKinds := [.data], laidTests := true, laidLooks := .later }
def PolyTwiceCardSaid : Prop := Claim7.holds Tryd.pinned (.plain (OpenSpec.ofChange polyTwiceSpec)) polyTwiceCard

/-- THE TIED CARD OF 'dominolaw06.PolyClamps'. -/
def polyClampsCard : Claim7 := { stood := { row := polyClampsRow, standIns := [], harness := (true, "9d09f719a415488d530ca78bf13ef0359f19f2341467271f1f7cb433901f189e"), looks := false }, kinds := [], alts := [], laidByText := true, laidKinds := [.data], laidTests := true, laidLooks := .later }
def PolyClampsCardSaid : Prop := Claim7.holds Tryd.pinned (.plain (OpenSpec.ofChange polyClampsSpec)) polyClampsCard

/-- THE TIED CARD OF 'dominolaw06.PolyParts'. -/
def polyPartsCard : Claim7 := { stood := { row := polyPartsRow, standIns := [], harness := (true, "9d09f719a415488d530ca78bf13ef0359f19f2341467271f1f7cb433901f189e"), looks := false }, kinds := [], alts := [], laidByText := true, laidKinds := [.data], laidTests := true, laidLooks := .later }
def PolyPartsCardSaid : Prop := Claim7.holds Tryd.pinned (.plain (OpenSpec.ofChange polyPartsSpec)) polyPartsCard

/-- THE SECOND FORM's CARD OF 'dominolaw06.PolyTags'. -/
def polyTagsUptoCard : Claim7 := { stood := { row := polyTagsUptoRow, standIns := [], harness := (true, "9d09f719a415488d530ca78bf13ef0359f19f2341467271f1f7cb433901f189e"), looks := false }, kinds := [], alts := [], laidByText := true, laidKinds := [.data], laidTests := true, laidLooks := .later }
def PolyTagsUptoCardSaid : Prop := Claim7.holds Tryd.pinned (.plain (OpenSpec.upto polyTagsSpec)) polyTagsUptoCard

/-- THE SECOND FORM's CARD OF 'dominolaw06.PolyEdges'. -/
def polyEdgesUptoCard : Claim7 := { stood := { row := polyEdgesUptoRow, standIns := [], harness := (true, "9d09f719a415488d530ca78bf13ef0359f19f2341467271f1f7cb433901f189e"), looks := false }, kinds := [], alts := [], laidByText := true, laidKinds := [.data], laidTests := true, laidLooks := .later }
def PolyEdgesUptoCardSaid : Prop := Claim7.holds Tryd.pinned (.plain (OpenSpec.upto polyEdgesSpec)) polyEdgesUptoCard

/-- THE SECOND FORM's CARD OF 'dominolaw06.PolyOne'. -/
def polyOneUptoCard : Claim7 := { stood := { row := polyOneUptoRow, standIns := [], harness := (true, "9d09f719a415488d530ca78bf13ef0359f19f2341467271f1f7cb433901f189e"), looks := false }, kinds := [], alts := [], laidByText := true, laidKinds := [.data], laidTests := true, laidLooks := .later }
def PolyOneUptoCardSaid : Prop := Claim7.holds Tryd.pinned (.plain (OpenSpec.upto polyOneSpec)) polyOneUptoCard

/-- THE SECOND FORM's CARD OF 'dominolaw06.PolyTwice'. -/
def polyTwiceUptoCard : Claim7 := { stood := { row := polyTwiceUptoRow, standIns := [], harness := (true, "9d09f719a415488d530ca78bf13ef0359f19f2341467271f1f7cb433901f189e"), looks := false }, kinds := [], alts := [], laidByText := true, laidKinds := [.data], laidTests := true, laidLooks := .later }
def PolyTwiceUptoCardSaid : Prop := Claim7.holds Tryd.pinned (.plain (OpenSpec.upto polyTwiceSpec)) polyTwiceUptoCard

/-- THE SECOND FORM's CARD OF 'dominolaw06.PolyClamps'. -/
def polyClampsUptoCard : Claim7 := { stood := { row := polyClampsUptoRow, standIns := [], harness := (true, "9d09f719a415488d530ca78bf13ef0359f19f2341467271f1f7cb433901f189e"), looks := false }, kinds := [], alts := [], laidByText := true, laidKinds := [.data], laidTests := true, laidLooks := .later }
def PolyClampsUptoCardSaid : Prop := Claim7.holds Tryd.pinned (.plain (OpenSpec.upto polyClampsSpec)) polyClampsUptoCard

/-- THE SECOND FORM's CARD OF 'dominolaw06.PolyParts'. -/
def polyPartsUptoCard : Claim7 := { stood := { row := polyPartsUptoRow, standIns := [], harness := (true, "9d09f719a415488d530ca78bf13ef0359f19f2341467271f1f7cb433901f189e"), looks := false }, kinds := [], alts := [], laidByText := true, laidKinds := [.data], laidTests := true, laidLooks := .later }
def PolyPartsUptoCardSaid : Prop := Claim7.holds Tryd.pinned (.plain (OpenSpec.upto polyPartsSpec)) polyPartsUptoCard
end Rows
end Go.Proofs.YtebkicikpeicmaaDoor
