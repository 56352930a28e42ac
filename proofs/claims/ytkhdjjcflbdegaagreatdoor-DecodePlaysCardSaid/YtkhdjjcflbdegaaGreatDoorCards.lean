/-
  DERIVED. GIVEN WITH THE SEED: THE CARDS: each row of YtkhdjjcflbdegaaGreatDoorRows.lean that lists a variable, with what it lists TIED to the program's text (the seventh form; the later family's looks); each row that meets fmt, with fmt's text TOLD by the authors' own Lean function (tested against real Go, not proved from fmt's source: count such statements apart). THE CARD IS WHAT COUNTS. Prove the row's statement (the work); the ties are given (YtkhdjjcflbdegaaGreatDoorTie.lean); close each card by the builder's one call (the guide's Derived/Test/ToyasCard.lean, 'card_holds'). Laid BY PROGRAM, IN A SANDBOX (cutbox-door.mjs). By AI agents, Wed Nov 11 2026. No macro, syntax, notation, axiom, sorry.
-/
import Derived.Test.YtkhdjjcflbdegaaGreatDoorRows
import GoSem.ClaimSeven
namespace Go.Proofs.YtkhdjjcflbdegaaGreatDoor
namespace Rows

/-- THE TIED CARD OF 'geyserlaw13.DecodePlays'. -/
def decodePlaysCard : Claim7 := { stood := { row := decodePlaysRow, standIns := [], harness := (true, "afc1ca7b27c852e784365a8254a7272d5e4eaaf27f7f5f19095477ffa94fa4da"), looks := true }, kinds := [], alts := [], laidByText := true, laidKinds := [.data, .handle, .data], laidTests := true, laidLooks := .later }
def DecodePlaysCardSaid : Prop := Claim7.holds Tryz.pinned (.plain (OpenSpec.ofChange decodePlaysSpec)) decodePlaysCard

/-- THE TIED CARD OF 'geyserlaw13.DecodeBack'. -/
def decodeBackCard : Claim7 := { stood := { row := decodeBackRow, standIns := [], harness := (true, "afc1ca7b27c852e784365a8254a7272d5e4eaaf27f7f5f19095477ffa94fa4da"), looks := true }, kinds := [], alts := [], laidByText := true, laidKinds := [.data, .handle, .data], laidTests := true, laidLooks := .later }
def DecodeBackCardSaid : Prop := Claim7.holds Tryz.pinned (.plain (OpenSpec.ofChange decodeBackSpec)) decodeBackCard

/-- THE TIED CARD OF 'geyserlaw13.DecodeOrder'. -/
def decodeOrderCard : Claim7 := { stood := { row := decodeOrderRow, standIns := [], harness := (true, "afc1ca7b27c852e784365a8254a7272d5e4eaaf27f7f5f19095477ffa94fa4da"), looks := true }, kinds := [], alts := [], laidByText := true, laidKinds := [.data, .handle, .data], laidTests := true, laidLooks := .later }
def DecodeOrderCardSaid : Prop := Claim7.holds Tryz.pinned (.plain (OpenSpec.ofChange decodeOrderSpec)) decodeOrderCard

/-- THE TIED CARD OF 'geyserlaw13.DecodeSource'. -/
def decodeSourceCard : Claim7 := { stood := { row := decodeSourceRow, standIns := [], harness := (true, "afc1ca7b27c852e784365a8254a7272d5e4eaaf27f7f5f19095477ffa94fa4da"), looks := true }, kinds := [], alts := [], laidByText := true, laidKinds := [.data, .handle, .data], laidTests := true, laidLooks := .later }
def DecodeSourceCardSaid : Prop := Claim7.holds Tryz.pinned (.plain (OpenSpec.ofChange decodeSourceSpec)) decodeSourceCard

/-- THE TIED CARD OF 'geyserlaw13.DecodeKeeps'. -/
def decodeKeepsCard : Claim7 := { stood := { row := decodeKeepsRow, standIns := [], harness := (true, "afc1ca7b27c852e784365a8254a7272d5e4eaaf27f7f5f19095477ffa94fa4da"), looks := true }, kinds := [], alts := [], laidByText := true, laidKinds := [.data, .handle, .data], laidTests := true, laidLooks := .later }
def DecodeKeepsCardSaid : Prop := Claim7.holds Tryz.pinned (.plain (OpenSpec.ofChange decodeKeepsSpec)) decodeKeepsCard

/-- THE TIED CARD OF 'geyserlaw13.DecodeClashes'. -/
def decodeClashesCard : Claim7 := { stood := { row := decodeClashesRow, standIns := [], harness := (true, "afc1ca7b27c852e784365a8254a7272d5e4eaaf27f7f5f19095477ffa94fa4da"), looks := true }, kinds := [], alts := [], laidByText := true, laidKinds := [.data, .handle, .data], laidTests := true, laidLooks := .later }
def DecodeClashesCardSaid : Prop := Claim7.holds Tryz.pinned (.plain (OpenSpec.ofChange decodeClashesSpec)) decodeClashesCard

/-- THE TIED CARD OF 'geyserlaw13.DecodeNil'. -/
def decodeNilCard : Claim7 := { stood := { row := decodeNilRow, standIns := [], harness := (true, "afc1ca7b27c852e784365a8254a7272d5e4eaaf27f7f5f19095477ffa94fa4da"), looks := true }, kinds := [], alts := [], laidByText := true, laidKinds := [.data, .handle, .data], laidTests := true, laidLooks := .later }
def DecodeNilCardSaid : Prop := Claim7.holds Tryz.pinned (.plain (OpenSpec.ofChange decodeNilSpec)) decodeNilCard

/-- THE SECOND FORM's CARD OF 'geyserlaw13.DecodePlays'. -/
def decodePlaysUptoCard : Claim7 := { stood := { row := decodePlaysUptoRow, standIns := [], harness := (true, "afc1ca7b27c852e784365a8254a7272d5e4eaaf27f7f5f19095477ffa94fa4da"), looks := true }, kinds := [], alts := [], laidByText := true, laidKinds := [.data, .handle, .data], laidTests := true, laidLooks := .later }
def DecodePlaysUptoCardSaid : Prop := Claim7.holds Tryz.pinned (.plain (OpenSpec.upto decodePlaysSpec)) decodePlaysUptoCard

/-- THE SECOND FORM's CARD OF 'geyserlaw13.DecodeBack'. -/
def decodeBackUptoCard : Claim7 := { stood := { row := decodeBackUptoRow, standIns := [], harness := (true, "afc1ca7b27c852e784365a8254a7272d5e4eaaf27f7f5f19095477ffa94fa4da"), looks := true }, kinds := [], alts := [], laidByText := true, laidKinds := [.data, .handle, .data], laidTests := true, laidLooks := .later }
def DecodeBackUptoCardSaid : Prop := Claim7.holds Tryz.pinned (.plain (OpenSpec.upto decodeBackSpec)) decodeBackUptoCard

/-- THE SECOND FORM's CARD OF 'geyserlaw13.DecodeOrder'. -/
def decodeOrderUptoCard : Claim7 := { stood := { row := decodeOrderUptoRow, standIns := [], harness := (true, "afc1ca7b27c852e784365a8254a7272d5e4eaaf27f7f5f19095477ffa94fa4da"), looks := true }, kinds := [], alts := [], laidByText := true, laidKinds := [.data, .handle, .data], laidTests := true, laidLooks := .later }
def DecodeOrderUptoCardSaid : Prop := Claim7.holds Tryz.pinned (.plain (OpenSpec.upto decodeOrderSpec)) decodeOrderUptoCard

/-- THE SECOND FORM's CARD OF 'geyserlaw13.DecodeSource'. -/
def decodeSourceUptoCard : Claim7 := { stood := { row := decodeSourceUptoRow, standIns := [], harness := (true, "afc1ca7b27c852e784365a8254a7272d5e4eaaf27f7f5f19095477ffa94fa4da"), looks := true }, kinds := [], alts := [], laidByText := true, laidKinds := [.data, .handle, .data], laidTests := true, laidLooks := .later }
def DecodeSourceUptoCardSaid : Prop := Claim7.holds Tryz.pinned (.plain (OpenSpec.upto decodeSourceSpec)) decodeSourceUptoCard

/-- THE SECOND FORM's CARD OF 'geyserlaw13.DecodeKeeps'. -/
def decodeKeepsUptoCard : Claim7 := { stood := { row := decodeKeepsUptoRow, standIns := [], harness := (true, "afc1ca7b27c852e784365a8254a7272d5e4eaaf27f7f5f19095477ffa94fa4da"), looks := true }, kinds := [], alts := [], laidByText := true, laidKinds := [.data, .handle, .data], laidTests := true, laidLooks := .later }
def DecodeKeepsUptoCardSaid : Prop := Claim7.holds Tryz.pinned (.plain (OpenSpec.upto decodeKeepsSpec)) decodeKeepsUptoCard

/-- THE SECOND FORM's CARD OF 'geyserlaw13.DecodeClashes'. -/
def decodeClashesUptoCard : Claim7 := { stood := { row := decodeClashesUptoRow, standIns := [], harness := (true, "afc1ca7b27c852e784365a8254a7272d5e4eaaf27f7f5f19095477ffa94fa4da"), looks := true }, kinds := [], alts := [], laidByText := true, laidKinds := [.data, .handle, .data], laidTests := true, laidLooks := .later }
def DecodeClashesUptoCardSaid : Prop := Claim7.holds Tryz.pinned (.plain (OpenSpec.upto decodeClashesSpec)) decodeClashesUptoCard

/-- THE SECOND FORM's CARD OF 'geyserlaw13.DecodeNil'. -/
def decodeNilUptoCard : Claim7 := { stood := { row := decodeNilUptoRow, standIns := [], harness := (true, "afc1ca7b27c852e784365a8254a7272d5e4eaaf27f7f5f19095477ffa94fa4da"), looks := true }, kinds := [], alts := [], laidByText := true, laidKinds := [.data, .handle, .data], laidTests := true, laidLooks := .later }
def DecodeNilUptoCardSaid : Prop := Claim7.holds Tryz.pinned (.plain (OpenSpec.upto decodeNilSpec)) decodeNilUptoCard
end Rows
end Go.Proofs.YtkhdjjcflbdegaaGreatDoor
