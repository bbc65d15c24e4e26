/-
  DERIVED. GIVEN WITH THE SEED: THE CARDS: each row of YtebcejncjljmhaaDoorRows.lean that lists a variable, with what it lists TIED to the program's text (the seventh form; the later family's looks); each row that meets fmt, with fmt's text TOLD by the authors' own Lean function (tested against real Go, not proved from fmt's source: count such statements apart). THE CARD IS WHAT COUNTS. Prove the row's statement (the work); the ties are given (YtebcejncjljmhaaDoorTie.lean); close each card by the builder's one call (the guide's Derived/Test/ToyasCard.lean, 'card_holds'). Laid BY PROGRAM, IN A SANDBOX (cutbox-door.mjs). By AI agents, Wed Nov 11 2026. No macro, syntax, notation, axiom, sorry.
-/
import Derived.Test.YtebcejncjljmhaaDoorRows
import GoSem.ClaimSeven
namespace Go.Proofs.YtebcejncjljmhaaDoor
namespace Rows

/-- THE TIED CARD OF 'dominolaw07.AeadSeals'. -/
def aeadSealsCard : Claim7 := { stood := { row := aeadSealsRow, standIns := [], harness := (true, "4b84c088017a6d4a2915d281b40e8f4247fc655ca7215a1524322a39d49a7d87"), looks := false }, kinds := [], alts := [], laidByText := true, laidKinds := [.widerDeep, .data], laidTests := true, laidLooks := .later }
def AeadSealsCardSaid : Prop := Claim7.holds Tryd.pinned (.plain (OpenSpec.ofChange aeadSealsSpec)) aeadSealsCard

/-- THE TIED CARD OF 'dominolaw07.AeadOpens'. -/
def aeadOpensCard : Claim7 := { stood := { row := aeadOpensRow, standIns := [], harness := (true, "4b84c088017a6d4a2915d281b40e8f4247fc655ca7215a1524322a39d49a7d87"), looks := false }, kinds := [], alts := [], laidByText := true, laidKinds := [.widerDeep, .data], laidTests := true, laidLooks := .later }
def AeadOpensCardSaid : Prop := Claim7.holds Tryd.pinned (.plain (OpenSpec.ofChange aeadOpensSpec)) aeadOpensCard

/-- THE TIED CARD OF 'dominolaw07.AeadBack'. -/
def aeadBackCard : Claim7 := { stood := { row := aeadBackRow, standIns := [], harness := (true, "4b84c088017a6d4a2915d281b40e8f4247fc655ca7215a1524322a39d49a7d87"), looks := false }, kinds := [], alts := [], laidByText := true, laidKinds := [.widerDeep, .data], laidTests := true, laidLooks := .later }
def AeadBackCardSaid : Prop := Claim7.holds Tryd.pinned (.plain (OpenSpec.ofChange aeadBackSpec)) aeadBackCard

/-- THE TIED CARD OF 'dominolaw07.AeadLimit'. -/
def aeadLimitCard : Claim7 := { stood := { row := aeadLimitRow, standIns := [], harness := (true, "4b84c088017a6d4a2915d281b40e8f4247fc655ca7215a1524322a39d49a7d87"), looks := false }, kinds := [], alts := [], laidByText := true, laidKinds := [.widerDeep, .data], laidTests := true, laidLooks := .later }
def AeadLimitCardSaid : Prop := Claim7.holds Tryd.pinned (.plain (OpenSpec.ofChange aeadLimitSpec)) aeadLimitCard

/-- THE TIED CARD OF 'dominolaw07.AeadStream'. -/
def aeadStreamCard : Claim7 := { stood := { row := aeadStreamRow, standIns := [], harness := (true, "4b84c088017a6d4a2915d281b40e8f4247fc655ca7215a1524322a39d49a7d87"), looks := false }, kinds := [], alts := [], laidByText := true, laidKinds := [.widerDeep, .data], laidTests := true, laidLooks := .later }
def AeadStreamCardSaid : Prop := Claim7.holds Tryd.pinned (.plain (OpenSpec.ofChange aeadStreamSpec)) aeadStreamCard

/-- THE TIED CARD OF 'dominolaw07.AeadLengths'. -/
def aeadLengthsCard : Claim7 := { stood := { row := aeadLengthsRow, standIns := [], harness := (true, "4b84c088017a6d4a2915d281b40e8f4247fc655ca7215a1524322a39d49a7d87"), looks := false }, kinds := [], alts := [], laidByText := true, laidKinds := [.widerDeep, .data], laidTests := true, laidLooks := .later }
def AeadLengthsCardSaid : Prop := Claim7.holds Tryd.pinned (.plain (OpenSpec.ofChange aeadLengthsSpec)) aeadLengthsCard

/-- THE TIED CARD OF 'dominolaw07.AeadShort'. -/
def aeadShortCard : Claim7 := { stood := { row := aeadShortRow, standIns := [], harness := (true, "4b84c088017a6d4a2915d281b40e8f4247fc655ca7215a1524322a39d49a7d87"), looks := false }, kinds := [], alts := [], laidByText := true, laidKinds := [.widerDeep, .data], laidTests := true, laidLooks := .later }
def AeadShortCardSaid : Prop := Claim7.holds Tryd.pinned (.plain (OpenSpec.ofChange aeadShortSpec)) aeadShortCard

/-- THE SECOND FORM's CARD OF 'dominolaw07.AeadSeals'. -/
def aeadSealsUptoCard : Claim7 := { stood := { row := aeadSealsUptoRow, standIns := [], harness := (true, "4b84c088017a6d4a2915d281b40e8f4247fc655ca7215a1524322a39d49a7d87"), looks := false }, kinds := [], alts := [], laidByText := true, laidKinds := [.widerDeep, .data], laidTests := true, laidLooks := .later }
def AeadSealsUptoCardSaid : Prop := Claim7.holds Tryd.pinned (.plain (OpenSpec.upto aeadSealsSpec)) aeadSealsUptoCard

/-- THE SECOND FORM's CARD OF 'dominolaw07.AeadOpens'. -/
def aeadOpensUptoCard : Claim7 := { stood := { row := aeadOpensUptoRow, standIns := [], harness := (true, "4b84c088017a6d4a2915d281b40e8f4247fc655ca7215a1524322a39d49a7d87"), looks := false }, kinds := [], alts := [], laidByText := true, laidKinds := [.widerDeep, .data], laidTests := true, laidLooks := .later }
def AeadOpensUptoCardSaid : Prop := Claim7.holds Tryd.pinned (.plain (OpenSpec.upto aeadOpensSpec)) aeadOpensUptoCard

/-- THE SECOND FORM's CARD OF 'dominolaw07.AeadBack'. -/
def aeadBackUptoCard : Claim7 := { stood := { row := aeadBackUptoRow, standIns := [], harness := (true, "4b84c088017a6d4a2915d281b40e8f4247fc655ca7215a1524322a39d49a7d87"), looks := false }, kinds := [], alts := [], laidByText := true, laidKinds := [.widerDeep, .data], laidTests := true, laidLooks := .later }
def AeadBackUptoCardSaid : Prop := Claim7.holds Tryd.pinned (.plain (OpenSpec.upto aeadBackSpec)) aeadBackUptoCard

/-- THE SECOND FORM's CARD OF 'dominolaw07.AeadLimit'. -/
def aeadLimitUptoCard : Claim7 := { stood := { row := aeadLimitUptoRow, standIns := [], harness := (true, "4b84c088017a6d4a2915d281b40e8f4247fc655ca7215a1524322a39d49a7d87"), looks := false }, kinds := [], alts := [], laidByText := true, laidKinds := [.widerDeep, .data], laidTests := true, laidLooks := .later }
def AeadLimitUptoCardSaid : Prop := Claim7.holds Tryd.pinned (.plain (OpenSpec.upto aeadLimitSpec)) aeadLimitUptoCard

/-- THE SECOND FORM's CARD OF 'dominolaw07.AeadStream'. -/
def aeadStreamUptoCard : Claim7 := { stood := { row := aeadStreamUptoRow, standIns := [], harness := (true, "4b84c088017a6d4a2915d281b40e8f4247fc655ca7215a1524322a39d49a7d87"), looks := false }, kinds := [], alts := [], laidByText := true, laidKinds := [.widerDeep, .data], laidTests := true, laidLooks := .later }
def AeadStreamUptoCardSaid : Prop := Claim7.holds Tryd.pinned (.plain (OpenSpec.upto aeadStreamSpec)) aeadStreamUptoCard

/-- THE SECOND FORM's CARD OF 'dominolaw07.AeadLengths'. -/
def aeadLengthsUptoCard : Claim7 := { stood := { row := aeadLengthsUptoRow, standIns := [], harness := (true, "4b84c088017a6d4a2915d281b40e8f4247fc655ca7215a1524322a39d49a7d87"), looks := false }, kinds := [], alts := [], laidByText := true, laidKinds := [.widerDeep, .data], laidTests := true, laidLooks := .later }
def AeadLengthsUptoCardSaid : Prop := Claim7.holds Tryd.pinned (.plain (OpenSpec.upto aeadLengthsSpec)) aeadLengthsUptoCard

/-- THE SECOND FORM's CARD OF 'dominolaw07.AeadShort'. -/
def aeadShortUptoCard : Claim7 := { stood := { row := aeadShortUptoRow, standIns := [], harness := (true, "4b84c088017a6d4a2915d281b40e8f4247fc655ca7215a1524322a39d49a7d87"), looks := false }, kinds := [], alts := [], laidByText := true, laidKinds := [.widerDeep, .data], laidTests := true, laidLooks := .later }
def AeadShortUptoCardSaid : Prop := Claim7.holds Tryd.pinned (.plain (OpenSpec.upto aeadShortSpec)) aeadShortUptoCard
end Rows
end Go.Proofs.YtebcejncjljmhaaDoor
