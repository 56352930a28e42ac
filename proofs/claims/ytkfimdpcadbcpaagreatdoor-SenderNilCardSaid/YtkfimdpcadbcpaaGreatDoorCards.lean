/-
  DERIVED. GIVEN WITH THE SEED: THE CARDS: each row of YtkfimdpcadbcpaaGreatDoorRows.lean that lists a variable, with what it lists TIED to the program's text (the seventh form; the later family's looks); each row that meets fmt, with fmt's text TOLD by the authors' own Lean function (tested against real Go, not proved from fmt's source: count such statements apart). THE CARD IS WHAT COUNTS. Prove the row's statement (the work); the ties are given (YtkfimdpcadbcpaaGreatDoorTie.lean); close each card by the builder's one call (the guide's Derived/Test/ToyasCard.lean, 'card_holds'). Laid BY PROGRAM, IN A SANDBOX (cutbox-door.mjs). By AI agents, Wed Nov 11 2026. No macro, syntax, notation, axiom, sorry.
-/
import Derived.Test.YtkfimdpcadbcpaaGreatDoorRows
import GoSem.ClaimSeven
namespace Go.Proofs.YtkfimdpcadbcpaaGreatDoor
namespace Rows

/-- THE TIED CARD OF 'geyserlaw19.SenderChecks'. -/
def senderChecksCard : Claim7 := { stood := { row := senderChecksRow, standIns := [], harness := (true, "6c5c0a130c7b20582ae440202092ed9b0d0d8477e1184853347d175b698d8c71"), looks := true }, kinds := [], alts := [], laidByText := true, laidKinds := [.data, .handle, .data], laidTests := true, laidLooks := .later }
def SenderChecksCardSaid : Prop := Claim7.holds Tryz.pinned (.plain (OpenSpec.ofChange senderChecksSpec)) senderChecksCard

/-- THE TIED CARD OF 'geyserlaw19.SenderPlays'. -/
def senderPlaysCard : Claim7 := { stood := { row := senderPlaysRow, standIns := [], harness := (true, "6c5c0a130c7b20582ae440202092ed9b0d0d8477e1184853347d175b698d8c71"), looks := true }, kinds := [], alts := [], laidByText := true, laidKinds := [.data, .handle, .data], laidTests := true, laidLooks := .later }
def SenderPlaysCardSaid : Prop := Claim7.holds Tryz.pinned (.plain (OpenSpec.ofChange senderPlaysSpec)) senderPlaysCard

/-- THE TIED CARD OF 'geyserlaw19.SenderOnce'. -/
def senderOnceCard : Claim7 := { stood := { row := senderOnceRow, standIns := [], harness := (true, "6c5c0a130c7b20582ae440202092ed9b0d0d8477e1184853347d175b698d8c71"), looks := true }, kinds := [], alts := [], laidByText := true, laidKinds := [.data, .data], laidTests := true, laidLooks := .later }
def SenderOnceCardSaid : Prop := Claim7.holds Tryz.pinned (.plain (OpenSpec.ofChange senderOnceSpec)) senderOnceCard

/-- THE TIED CARD OF 'geyserlaw19.SenderPlaces'. -/
def senderPlacesCard : Claim7 := { stood := { row := senderPlacesRow, standIns := [], harness := (true, "6c5c0a130c7b20582ae440202092ed9b0d0d8477e1184853347d175b698d8c71"), looks := true }, kinds := [], alts := [], laidByText := true, laidKinds := [.data, .data], laidTests := true, laidLooks := .later }
def SenderPlacesCardSaid : Prop := Claim7.holds Tryz.pinned (.plain (OpenSpec.ofChange senderPlacesSpec)) senderPlacesCard

/-- THE TIED CARD OF 'geyserlaw19.SenderSource'. -/
def senderSourceCard : Claim7 := { stood := { row := senderSourceRow, standIns := [], harness := (true, "6c5c0a130c7b20582ae440202092ed9b0d0d8477e1184853347d175b698d8c71"), looks := true }, kinds := [], alts := [], laidByText := true, laidKinds := [.data, .data], laidTests := true, laidLooks := .later }
def SenderSourceCardSaid : Prop := Claim7.holds Tryz.pinned (.plain (OpenSpec.ofChange senderSourceSpec)) senderSourceCard

/-- THE TIED CARD OF 'geyserlaw19.SenderNil'. -/
def senderNilCard : Claim7 := { stood := { row := senderNilRow, standIns := [], harness := (true, "6c5c0a130c7b20582ae440202092ed9b0d0d8477e1184853347d175b698d8c71"), looks := true }, kinds := [], alts := [], laidByText := true, laidKinds := [.data, .handle, .data], laidTests := true, laidLooks := .later }
def SenderNilCardSaid : Prop := Claim7.holds Tryz.pinned (.plain (OpenSpec.ofChange senderNilSpec)) senderNilCard

/-- THE SECOND FORM's CARD OF 'geyserlaw19.SenderChecks'. -/
def senderChecksUptoCard : Claim7 := { stood := { row := senderChecksUptoRow, standIns := [], harness := (true, "6c5c0a130c7b20582ae440202092ed9b0d0d8477e1184853347d175b698d8c71"), looks := true }, kinds := [], alts := [], laidByText := true, laidKinds := [.data, .handle, .data], laidTests := true, laidLooks := .later }
def SenderChecksUptoCardSaid : Prop := Claim7.holds Tryz.pinned (.plain (OpenSpec.upto senderChecksSpec)) senderChecksUptoCard

/-- THE SECOND FORM's CARD OF 'geyserlaw19.SenderPlays'. -/
def senderPlaysUptoCard : Claim7 := { stood := { row := senderPlaysUptoRow, standIns := [], harness := (true, "6c5c0a130c7b20582ae440202092ed9b0d0d8477e1184853347d175b698d8c71"), looks := true }, kinds := [], alts := [], laidByText := true, laidKinds := [.data, .handle, .data], laidTests := true, laidLooks := .later }
def SenderPlaysUptoCardSaid : Prop := Claim7.holds Tryz.pinned (.plain (OpenSpec.upto senderPlaysSpec)) senderPlaysUptoCard

/-- THE SECOND FORM's CARD OF 'geyserlaw19.SenderOnce'. -/
def senderOnceUptoCard : Claim7 := { stood := { row := senderOnceUptoRow, standIns := [], harness := (true, "6c5c0a130c7b20582ae440202092ed9b0d0d8477e1184853347d175b698d8c71"), looks := true }, kinds := [], alts := [], laidByText := true, laidKinds := [.data, .data], laidTests := true, laidLooks := .later }
def SenderOnceUptoCardSaid : Prop := Claim7.holds Tryz.pinned (.plain (OpenSpec.upto senderOnceSpec)) senderOnceUptoCard

/-- THE SECOND FORM's CARD OF 'geyserlaw19.SenderPlaces'. -/
def senderPlacesUptoCard : Claim7 := { stood := { row := senderPlacesUptoRow, standIns := [], harness := (true, "6c5c0a130c7b20582ae440202092ed9b0d0d8477e1184853347d175b698d8c71"), looks := true }, kinds := [], alts := [], laidByText := true, laidKinds := [.data, .data], laidTests := true, laidLooks := .later }
def SenderPlacesUptoCardSaid : Prop := Claim7.holds Tryz.pinned (.plain (OpenSpec.upto senderPlacesSpec)) senderPlacesUptoCard

/-- THE SECOND FORM's CARD OF 'geyserlaw19.SenderSource'. -/
def senderSourceUptoCard : Claim7 := { stood := { row := senderSourceUptoRow, standIns := [], harness := (true, "6c5c0a130c7b20582ae440202092ed9b0d0d8477e1184853347d175b698d8c71"), looks := true }, kinds := [], alts := [], laidByText := true, laidKinds := [.data, .data], laidTests := true, laidLooks := .later }
def SenderSourceUptoCardSaid : Prop := Claim7.holds Tryz.pinned (.plain (OpenSpec.upto senderSourceSpec)) senderSourceUptoCard

/-- THE SECOND FORM's CARD OF 'geyserlaw19.SenderNil'. -/
def senderNilUptoCard : Claim7 := { stood := { row := senderNilUptoRow, standIns := [], harness := (true, "6c5c0a130c7b20582ae440202092ed9b0d0d8477e1184853347d175b698d8c71"), looks := true }, kinds := [], alts := [], laidByText := true, laidKinds := [.data, .handle, .data], laidTests := true, laidLooks := .later }
def SenderNilUptoCardSaid : Prop := Claim7.holds Tryz.pinned (.plain (OpenSpec.upto senderNilSpec)) senderNilUptoCard
end Rows
end Go.Proofs.YtkfimdpcadbcpaaGreatDoor
