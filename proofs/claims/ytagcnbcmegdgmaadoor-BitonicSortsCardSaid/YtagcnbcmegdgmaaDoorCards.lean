/-
  DERIVED. GIVEN WITH THE SEED: THE CARDS: each row of YtagcnbcmegdgmaaDoorRows.lean that lists a variable, with what it lists TIED to the program's text (the seventh form; the later family's looks); each row that meets fmt, with fmt's text TOLD by the authors' own Lean function (tested against real Go, not proved from fmt's source: count such statements apart). THE CARD IS WHAT COUNTS. Prove the row's statement (the work); the ties are given (YtagcnbcmegdgmaaDoorTie.lean); close each card by the builder's one call (the guide's Derived/Test/ToyasCard.lean, 'card_holds'). Laid BY PROGRAM, IN A SANDBOX (cutbox-door.mjs). By AI agents, Wed Nov 11 2026. No macro, syntax, notation, axiom, sorry.
-/
import Derived.Test.YtagcnbcmegdgmaaDoorRows
import GoSem.ClaimSeven
namespace Go.Proofs.YtagcnbcmegdgmaaDoor
namespace Rows

/-- THE TIED CARD OF 'dominolaw13.BitonicRounds'. -/
def bitonicRoundsCard : Claim7 := { stood := { row := bitonicRoundsRow, standIns := [], harness := (true, "fe6b619c45518272eea54a06a8755bdeb49c69dd8d85b33a095b4b463a443c00"), looks := false }, kinds := [], alts := [], laidByText := true, laidKinds := [.data, .data], laidTests := true, laidLooks := .later }
def BitonicRoundsCardSaid : Prop := Claim7.holds Tryd.pinned (.plain (OpenSpec.ofChange bitonicRoundsSpec)) bitonicRoundsCard

/-- THE TIED CARD OF 'dominolaw13.BitonicSorts'. -/
def bitonicSortsCard : Claim7 := { stood := { row := bitonicSortsRow, standIns := [], harness := (true, "fe6b619c45518272eea54a06a8755bdeb49c69dd8d85b33a095b4b463a443c00"), looks := false }, kinds := [], alts := [], laidByText := true, laidKinds := [.data, .data], laidTests := true, laidLooks := .later }
def BitonicSortsCardSaid : Prop := Claim7.holds Tryd.pinned (.plain (OpenSpec.ofChange bitonicSortsSpec)) bitonicSortsCard

/-- THE TIED CARD OF 'dominolaw13.BitonicOnce'. -/
def bitonicOnceCard : Claim7 := { stood := { row := bitonicOnceRow, standIns := [], harness := (true, "fe6b619c45518272eea54a06a8755bdeb49c69dd8d85b33a095b4b463a443c00"), looks := false }, kinds := [], alts := [], laidByText := true, laidKinds := [.data, .data], laidTests := true, laidLooks := .later }
def BitonicOnceCardSaid : Prop := Claim7.holds Tryd.pinned (.plain (OpenSpec.ofChange bitonicOnceSpec)) bitonicOnceCard

/-- THE TIED CARD OF 'dominolaw13.BitonicPadded'. -/
def bitonicPaddedCard : Claim7 := { stood := { row := bitonicPaddedRow, standIns := [], harness := (true, "fe6b619c45518272eea54a06a8755bdeb49c69dd8d85b33a095b4b463a443c00"), looks := false }, kinds := [], alts := [], laidByText := true, laidKinds := [.data, .data], laidTests := true, laidLooks := .later }
def BitonicPaddedCardSaid : Prop := Claim7.holds Tryd.pinned (.plain (OpenSpec.ofChange bitonicPaddedSpec)) bitonicPaddedCard

/-- THE TIED CARD OF 'dominolaw13.BitonicWays'. -/
def bitonicWaysCard : Claim7 := { stood := { row := bitonicWaysRow, standIns := [], harness := (true, "fe6b619c45518272eea54a06a8755bdeb49c69dd8d85b33a095b4b463a443c00"), looks := false }, kinds := [], alts := [], laidByText := true, laidKinds := [.data, .data], laidTests := true, laidLooks := .later }
def BitonicWaysCardSaid : Prop := Claim7.holds Tryd.pinned (.plain (OpenSpec.ofChange bitonicWaysSpec)) bitonicWaysCard

/-- THE SECOND FORM's CARD OF 'dominolaw13.BitonicRounds'. -/
def bitonicRoundsUptoCard : Claim7 := { stood := { row := bitonicRoundsUptoRow, standIns := [], harness := (true, "fe6b619c45518272eea54a06a8755bdeb49c69dd8d85b33a095b4b463a443c00"), looks := false }, kinds := [], alts := [], laidByText := true, laidKinds := [.data, .data], laidTests := true, laidLooks := .later }
def BitonicRoundsUptoCardSaid : Prop := Claim7.holds Tryd.pinned (.plain (OpenSpec.upto bitonicRoundsSpec)) bitonicRoundsUptoCard

/-- THE SECOND FORM's CARD OF 'dominolaw13.BitonicSorts'. -/
def bitonicSortsUptoCard : Claim7 := { stood := { row := bitonicSortsUptoRow, standIns := [], harness := (true, "fe6b619c45518272eea54a06a8755bdeb49c69dd8d85b33a095b4b463a443c00"), looks := false }, kinds := [], alts := [], laidByText := true, laidKinds := [.data, .data], laidTests := true, laidLooks := .later }
def BitonicSortsUptoCardSaid : Prop := Claim7.holds Tryd.pinned (.plain (OpenSpec.upto bitonicSortsSpec)) bitonicSortsUptoCard

/-- THE SECOND FORM's CARD OF 'dominolaw13.BitonicOnce'. -/
def bitonicOnceUptoCard : Claim7 := { stood := { row := bitonicOnceUptoRow, standIns := [], harness := (true, "fe6b619c45518272eea54a06a8755bdeb49c69dd8d85b33a095b4b463a443c00"), looks := false }, kinds := [], alts := [], laidByText := true, laidKinds := [.data, .data], laidTests := true, laidLooks := .later }
def BitonicOnceUptoCardSaid : Prop := Claim7.holds Tryd.pinned (.plain (OpenSpec.upto bitonicOnceSpec)) bitonicOnceUptoCard

/-- THE SECOND FORM's CARD OF 'dominolaw13.BitonicPadded'. -/
def bitonicPaddedUptoCard : Claim7 := { stood := { row := bitonicPaddedUptoRow, standIns := [], harness := (true, "fe6b619c45518272eea54a06a8755bdeb49c69dd8d85b33a095b4b463a443c00"), looks := false }, kinds := [], alts := [], laidByText := true, laidKinds := [.data, .data], laidTests := true, laidLooks := .later }
def BitonicPaddedUptoCardSaid : Prop := Claim7.holds Tryd.pinned (.plain (OpenSpec.upto bitonicPaddedSpec)) bitonicPaddedUptoCard

/-- THE SECOND FORM's CARD OF 'dominolaw13.BitonicWays'. -/
def bitonicWaysUptoCard : Claim7 := { stood := { row := bitonicWaysUptoRow, standIns := [], harness := (true, "fe6b619c45518272eea54a06a8755bdeb49c69dd8d85b33a095b4b463a443c00"), looks := false }, kinds := [], alts := [], laidByText := true, laidKinds := [.data, .data], laidTests := true, laidLooks := .later }
def BitonicWaysUptoCardSaid : Prop := Claim7.holds Tryd.pinned (.plain (OpenSpec.upto bitonicWaysSpec)) bitonicWaysUptoCard
end Rows
end Go.Proofs.YtagcnbcmegdgmaaDoor
