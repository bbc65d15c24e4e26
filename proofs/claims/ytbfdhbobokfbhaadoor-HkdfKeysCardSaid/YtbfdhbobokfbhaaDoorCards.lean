/-
  DERIVED. GIVEN WITH THE SEED: THE CARDS: each row of YtbfdhbobokfbhaaDoorRows.lean that lists a variable, with what it lists TIED to the program's text (the seventh form; the later family's looks); each row that meets fmt, with fmt's text TOLD by the authors' own Lean function (tested against real Go, not proved from fmt's source: count such statements apart). THE CARD IS WHAT COUNTS. Prove the row's statement (the work); the ties are given (YtbfdhbobokfbhaaDoorTie.lean); close each card by the builder's one call (the guide's Derived/Test/ToyasCard.lean, 'card_holds'). Laid BY PROGRAM, IN A SANDBOX (cutbox-door.mjs). By AI agents, Wed Nov 11 2026. No macro, syntax, notation, axiom, sorry.
-/
import Derived.Test.YtbfdhbobokfbhaaDoorRows
import GoSem.ClaimSeven
namespace Go.Proofs.YtbfdhbobokfbhaaDoor
namespace Rows

/-- THE TIED CARD OF 'dominolaw04.HkdfKeys'. -/
def hkdfKeysCard : Claim7 := { stood := { row := hkdfKeysRow, standIns := [], harness := (true, "32f6b24c69c7a4d5a74b7e76ad39c8f9140722c6a5250b182338480d9edaa433"), looks := false }, kinds := [], alts := [], laidByText := true, laidKinds := [.data, .data], laidTests := true, laidLooks := .later }
def HkdfKeysCardSaid : Prop := Claim7.holds Tryd.pinned (.plain (OpenSpec.ofChange hkdfKeysSpec)) hkdfKeysCard

/-- THE TIED CARD OF 'dominolaw04.HkdfShort'. -/
def hkdfShortCard : Claim7 := { stood := { row := hkdfShortRow, standIns := [], harness := (true, "32f6b24c69c7a4d5a74b7e76ad39c8f9140722c6a5250b182338480d9edaa433"), looks := false }, kinds := [], alts := [], laidByText := true, laidKinds := [.data, .data], laidTests := true, laidLooks := .later }
def HkdfShortCardSaid : Prop := Claim7.holds Tryd.pinned (.plain (OpenSpec.ofChange hkdfShortSpec)) hkdfShortCard

/-- THE TIED CARD OF 'dominolaw04.HkdfPieces'. -/
def hkdfPiecesCard : Claim7 := { stood := { row := hkdfPiecesRow, standIns := [], harness := (true, "32f6b24c69c7a4d5a74b7e76ad39c8f9140722c6a5250b182338480d9edaa433"), looks := false }, kinds := [], alts := [], laidByText := true, laidKinds := [.data, .data], laidTests := true, laidLooks := .later }
def HkdfPiecesCardSaid : Prop := Claim7.holds Tryd.pinned (.plain (OpenSpec.ofChange hkdfPiecesSpec)) hkdfPiecesCard

/-- THE TIED CARD OF 'dominolaw04.HkdfLimit'. -/
def hkdfLimitCard : Claim7 := { stood := { row := hkdfLimitRow, standIns := [], harness := (true, "32f6b24c69c7a4d5a74b7e76ad39c8f9140722c6a5250b182338480d9edaa433"), looks := false }, kinds := [], alts := [], laidByText := true, laidKinds := [.data, .data], laidTests := true, laidLooks := .later }
def HkdfLimitCardSaid : Prop := Claim7.holds Tryd.pinned (.plain (OpenSpec.ofChange hkdfLimitSpec)) hkdfLimitCard

/-- THE SECOND FORM's CARD OF 'dominolaw04.HkdfKeys'. -/
def hkdfKeysUptoCard : Claim7 := { stood := { row := hkdfKeysUptoRow, standIns := [], harness := (true, "32f6b24c69c7a4d5a74b7e76ad39c8f9140722c6a5250b182338480d9edaa433"), looks := false }, kinds := [], alts := [], laidByText := true, laidKinds := [.data, .data], laidTests := true, laidLooks := .later }
def HkdfKeysUptoCardSaid : Prop := Claim7.holds Tryd.pinned (.plain (OpenSpec.upto hkdfKeysSpec)) hkdfKeysUptoCard

/-- THE SECOND FORM's CARD OF 'dominolaw04.HkdfShort'. -/
def hkdfShortUptoCard : Claim7 := { stood := { row := hkdfShortUptoRow, standIns := [], harness := (true, "32f6b24c69c7a4d5a74b7e76ad39c8f9140722c6a5250b182338480d9edaa433"), looks := false }, kinds := [], alts := [], laidByText := true, laidKinds := [.data, .data], laidTests := true, laidLooks := .later }
def HkdfShortUptoCardSaid : Prop := Claim7.holds Tryd.pinned (.plain (OpenSpec.upto hkdfShortSpec)) hkdfShortUptoCard

/-- THE SECOND FORM's CARD OF 'dominolaw04.HkdfPieces'. -/
def hkdfPiecesUptoCard : Claim7 := { stood := { row := hkdfPiecesUptoRow, standIns := [], harness := (true, "32f6b24c69c7a4d5a74b7e76ad39c8f9140722c6a5250b182338480d9edaa433"), looks := false }, kinds := [], alts := [], laidByText := true, laidKinds := [.data, .data], laidTests := true, laidLooks := .later }
def HkdfPiecesUptoCardSaid : Prop := Claim7.holds Tryd.pinned (.plain (OpenSpec.upto hkdfPiecesSpec)) hkdfPiecesUptoCard

/-- THE SECOND FORM's CARD OF 'dominolaw04.HkdfLimit'. -/
def hkdfLimitUptoCard : Claim7 := { stood := { row := hkdfLimitUptoRow, standIns := [], harness := (true, "32f6b24c69c7a4d5a74b7e76ad39c8f9140722c6a5250b182338480d9edaa433"), looks := false }, kinds := [], alts := [], laidByText := true, laidKinds := [.data, .data], laidTests := true, laidLooks := .later }
def HkdfLimitUptoCardSaid : Prop := Claim7.holds Tryd.pinned (.plain (OpenSpec.upto hkdfLimitSpec)) hkdfLimitUptoCard
end Rows
end Go.Proofs.YtbfdhbobokfbhaaDoor
