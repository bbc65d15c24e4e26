/-
  DERIVED. GIVEN WITH THE SEED: THE CARDS: each row of YtlinmcgmkpkpaaaDoorRows.lean that lists a variable, with what it lists TIED to the program's text (the seventh form; the later family's looks); each row that meets fmt, with fmt's text TOLD by the authors' own Lean function (tested against real Go, not proved from fmt's source: count such statements apart). THE CARD IS WHAT COUNTS. Prove the row's statement (the work); the ties are given (YtlinmcgmkpkpaaaDoorTie.lean); close each card by the builder's one call (the guide's Derived/Test/ToyasCard.lean, 'card_holds'). Laid BY PROGRAM, IN A SANDBOX (cutbox-door.mjs). By AI agents, Wed Nov 11 2026. No macro, syntax, notation, axiom, sorry.
-/
import Derived.Test.YtlinmcgmkpkpaaaDoorRows
import GoSem.ClaimSeven
namespace Go.Proofs.YtlinmcgmkpkpaaaDoor
namespace Rows

/-- THE TIED CARD OF 'dominolaw16.PipeSpec'. -/
def pipeSpecCard : Claim7 := { stood := { row := pipeSpecRow, standIns := [], harness := (true, "a149d18c0653b1648f16848b2da2c696ebc66272bb5a5a3ee711bd8e17f0b6c7"), looks := false }, kinds := [], alts := [], laidByText := true, laidKinds := [.data, .data], laidTests := true, laidLooks := .later }
def PipeSpecCardSaid : Prop := Claim7.holds Tryd.pinned (.plain (OpenSpec.ofChange pipeSpecSpec)) pipeSpecCard

/-- THE TIED CARD OF 'dominolaw16.PipeShape'. -/
def pipeShapeCard : Claim7 := { stood := { row := pipeShapeRow, standIns := [], harness := (true, "a149d18c0653b1648f16848b2da2c696ebc66272bb5a5a3ee711bd8e17f0b6c7"), looks := false }, kinds := [], alts := [], laidByText := true, laidKinds := [.data, .data], laidTests := true, laidLooks := .later }
def PipeShapeCardSaid : Prop := Claim7.holds Tryd.pinned (.plain (OpenSpec.ofChange pipeShapeSpec)) pipeShapeCard

/-- THE TIED CARD OF 'dominolaw16.PipeOrder'. -/
def pipeOrderCard : Claim7 := { stood := { row := pipeOrderRow, standIns := [], harness := (true, "a149d18c0653b1648f16848b2da2c696ebc66272bb5a5a3ee711bd8e17f0b6c7"), looks := false }, kinds := [], alts := [], laidByText := true, laidKinds := [.data, .data], laidTests := true, laidLooks := .later }
def PipeOrderCardSaid : Prop := Claim7.holds Tryd.pinned (.plain (OpenSpec.ofChange pipeOrderSpec)) pipeOrderCard

/-- THE TIED CARD OF 'dominolaw16.PipeSizes'. -/
def pipeSizesCard : Claim7 := { stood := { row := pipeSizesRow, standIns := [], harness := (true, "a149d18c0653b1648f16848b2da2c696ebc66272bb5a5a3ee711bd8e17f0b6c7"), looks := false }, kinds := [], alts := [], laidByText := true, laidKinds := [.data, .data], laidTests := true, laidLooks := .later }
def PipeSizesCardSaid : Prop := Claim7.holds Tryd.pinned (.plain (OpenSpec.ofChange pipeSizesSpec)) pipeSizesCard

/-- THE TIED CARD OF 'dominolaw16.PipeNone'. -/
def pipeNoneCard : Claim7 := { stood := { row := pipeNoneRow, standIns := [], harness := (true, "a149d18c0653b1648f16848b2da2c696ebc66272bb5a5a3ee711bd8e17f0b6c7"), looks := false }, kinds := [], alts := [], laidByText := true, laidKinds := [.data, .data], laidTests := true, laidLooks := .later }
def PipeNoneCardSaid : Prop := Claim7.holds Tryd.pinned (.plain (OpenSpec.ofChange pipeNoneSpec)) pipeNoneCard

/-- THE SECOND FORM's CARD OF 'dominolaw16.PipeSpec'. -/
def pipeSpecUptoCard : Claim7 := { stood := { row := pipeSpecUptoRow, standIns := [], harness := (true, "a149d18c0653b1648f16848b2da2c696ebc66272bb5a5a3ee711bd8e17f0b6c7"), looks := false }, kinds := [], alts := [], laidByText := true, laidKinds := [.data, .data], laidTests := true, laidLooks := .later }
def PipeSpecUptoCardSaid : Prop := Claim7.holds Tryd.pinned (.plain (OpenSpec.upto pipeSpecSpec)) pipeSpecUptoCard

/-- THE SECOND FORM's CARD OF 'dominolaw16.PipeShape'. -/
def pipeShapeUptoCard : Claim7 := { stood := { row := pipeShapeUptoRow, standIns := [], harness := (true, "a149d18c0653b1648f16848b2da2c696ebc66272bb5a5a3ee711bd8e17f0b6c7"), looks := false }, kinds := [], alts := [], laidByText := true, laidKinds := [.data, .data], laidTests := true, laidLooks := .later }
def PipeShapeUptoCardSaid : Prop := Claim7.holds Tryd.pinned (.plain (OpenSpec.upto pipeShapeSpec)) pipeShapeUptoCard

/-- THE SECOND FORM's CARD OF 'dominolaw16.PipeOrder'. -/
def pipeOrderUptoCard : Claim7 := { stood := { row := pipeOrderUptoRow, standIns := [], harness := (true, "a149d18c0653b1648f16848b2da2c696ebc66272bb5a5a3ee711bd8e17f0b6c7"), looks := false }, kinds := [], alts := [], laidByText := true, laidKinds := [.data, .data], laidTests := true, laidLooks := .later }
def PipeOrderUptoCardSaid : Prop := Claim7.holds Tryd.pinned (.plain (OpenSpec.upto pipeOrderSpec)) pipeOrderUptoCard

/-- THE SECOND FORM's CARD OF 'dominolaw16.PipeSizes'. -/
def pipeSizesUptoCard : Claim7 := { stood := { row := pipeSizesUptoRow, standIns := [], harness := (true, "a149d18c0653b1648f16848b2da2c696ebc66272bb5a5a3ee711bd8e17f0b6c7"), looks := false }, kinds := [], alts := [], laidByText := true, laidKinds := [.data, .data], laidTests := true, laidLooks := .later }
def PipeSizesUptoCardSaid : Prop := Claim7.holds Tryd.pinned (.plain (OpenSpec.upto pipeSizesSpec)) pipeSizesUptoCard

/-- THE SECOND FORM's CARD OF 'dominolaw16.PipeNone'. -/
def pipeNoneUptoCard : Claim7 := { stood := { row := pipeNoneUptoRow, standIns := [], harness := (true, "a149d18c0653b1648f16848b2da2c696ebc66272bb5a5a3ee711bd8e17f0b6c7"), looks := false }, kinds := [], alts := [], laidByText := true, laidKinds := [.data, .data], laidTests := true, laidLooks := .later }
def PipeNoneUptoCardSaid : Prop := Claim7.holds Tryd.pinned (.plain (OpenSpec.upto pipeNoneSpec)) pipeNoneUptoCard
end Rows
end Go.Proofs.YtlinmcgmkpkpaaaDoor
