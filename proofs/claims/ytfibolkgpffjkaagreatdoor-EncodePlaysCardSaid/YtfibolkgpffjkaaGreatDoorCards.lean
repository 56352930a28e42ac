/-
  DERIVED. GIVEN WITH THE SEED: THE CARDS: each row of YtfibolkgpffjkaaGreatDoorRows.lean that lists a variable, with what it lists TIED to the program's text (the seventh form; the later family's looks); each row that meets fmt, with fmt's text TOLD by the authors' own Lean function (tested against real Go, not proved from fmt's source: count such statements apart). THE CARD IS WHAT COUNTS. Prove the row's statement (the work); the ties are given (YtfibolkgpffjkaaGreatDoorTie.lean); close each card by the builder's one call (the guide's Derived/Test/ToyasCard.lean, 'card_holds'). Laid BY PROGRAM, IN A SANDBOX (cutbox-door.mjs). By AI agents, Wed Nov 11 2026. No macro, syntax, notation, axiom, sorry.
-/
import Derived.Test.YtfibolkgpffjkaaGreatDoorRows
import GoSem.ClaimSeven
namespace Go.Proofs.YtfibolkgpffjkaaGreatDoor
namespace Rows

/-- THE TIED CARD OF 'geyserlaw12.EncodePlays'. -/
def encodePlaysCard : Claim7 := { stood := { row := encodePlaysRow, standIns := [], harness := (true, "b3cb665cee469ae0fac87743dc030300061a82dc83656ebbe0b6d9effaf782ef"), looks := true }, kinds := [], alts := [], laidByText := true, laidKinds := [.data, .handle, .data], laidTests := true, laidLooks := .later }
def EncodePlaysCardSaid : Prop := Claim7.holds Tryz.pinned (.plain (OpenSpec.ofChange encodePlaysSpec)) encodePlaysCard

/-- THE TIED CARD OF 'geyserlaw12.EncodeRefuses'. -/
def encodeRefusesCard : Claim7 := { stood := { row := encodeRefusesRow, standIns := [], harness := (true, "b3cb665cee469ae0fac87743dc030300061a82dc83656ebbe0b6d9effaf782ef"), looks := true }, kinds := [], alts := [], laidByText := true, laidKinds := [.data, .handle, .data], laidTests := true, laidLooks := .later }
def EncodeRefusesCardSaid : Prop := Claim7.holds Tryz.pinned (.plain (OpenSpec.ofChange encodeRefusesSpec)) encodeRefusesCard

/-- THE TIED CARD OF 'geyserlaw12.EncodeSource'. -/
def encodeSourceCard : Claim7 := { stood := { row := encodeSourceRow, standIns := [], harness := (true, "b3cb665cee469ae0fac87743dc030300061a82dc83656ebbe0b6d9effaf782ef"), looks := true }, kinds := [], alts := [], laidByText := true, laidKinds := [.data, .data], laidTests := true, laidLooks := .later }
def EncodeSourceCardSaid : Prop := Claim7.holds Tryz.pinned (.plain (OpenSpec.ofChange encodeSourceSpec)) encodeSourceCard

/-- THE TIED CARD OF 'geyserlaw12.EncodeSums'. -/
def encodeSumsCard : Claim7 := { stood := { row := encodeSumsRow, standIns := [], harness := (true, "b3cb665cee469ae0fac87743dc030300061a82dc83656ebbe0b6d9effaf782ef"), looks := true }, kinds := [], alts := [], laidByText := true, laidKinds := [.data, .data], laidTests := true, laidLooks := .later }
def EncodeSumsCardSaid : Prop := Claim7.holds Tryz.pinned (.plain (OpenSpec.ofChange encodeSumsSpec)) encodeSumsCard

/-- THE TIED CARD OF 'geyserlaw12.EncodeGoes'. -/
def encodeGoesCard : Claim7 := { stood := { row := encodeGoesRow, standIns := [], harness := (true, "b3cb665cee469ae0fac87743dc030300061a82dc83656ebbe0b6d9effaf782ef"), looks := true }, kinds := [], alts := [], laidByText := true, laidKinds := [.data, .data], laidTests := true, laidLooks := .later }
def EncodeGoesCardSaid : Prop := Claim7.holds Tryz.pinned (.plain (OpenSpec.ofChange encodeGoesSpec)) encodeGoesCard

/-- THE TIED CARD OF 'geyserlaw12.EncodeSomes'. -/
def encodeSomesCard : Claim7 := { stood := { row := encodeSomesRow, standIns := [], harness := (true, "b3cb665cee469ae0fac87743dc030300061a82dc83656ebbe0b6d9effaf782ef"), looks := true }, kinds := [], alts := [], laidByText := true, laidKinds := [.data, .data], laidTests := true, laidLooks := .later }
def EncodeSomesCardSaid : Prop := Claim7.holds Tryz.pinned (.plain (OpenSpec.ofChange encodeSomesSpec)) encodeSomesCard

/-- THE TIED CARD OF 'geyserlaw12.EncodeNil'. -/
def encodeNilCard : Claim7 := { stood := { row := encodeNilRow, standIns := [], harness := (true, "b3cb665cee469ae0fac87743dc030300061a82dc83656ebbe0b6d9effaf782ef"), looks := true }, kinds := [], alts := [], laidByText := true, laidKinds := [.data, .handle, .data], laidTests := true, laidLooks := .later }
def EncodeNilCardSaid : Prop := Claim7.holds Tryz.pinned (.plain (OpenSpec.ofChange encodeNilSpec)) encodeNilCard

/-- THE SECOND FORM's CARD OF 'geyserlaw12.EncodePlays'. -/
def encodePlaysUptoCard : Claim7 := { stood := { row := encodePlaysUptoRow, standIns := [], harness := (true, "b3cb665cee469ae0fac87743dc030300061a82dc83656ebbe0b6d9effaf782ef"), looks := true }, kinds := [], alts := [], laidByText := true, laidKinds := [.data, .handle, .data], laidTests := true, laidLooks := .later }
def EncodePlaysUptoCardSaid : Prop := Claim7.holds Tryz.pinned (.plain (OpenSpec.upto encodePlaysSpec)) encodePlaysUptoCard

/-- THE SECOND FORM's CARD OF 'geyserlaw12.EncodeRefuses'. -/
def encodeRefusesUptoCard : Claim7 := { stood := { row := encodeRefusesUptoRow, standIns := [], harness := (true, "b3cb665cee469ae0fac87743dc030300061a82dc83656ebbe0b6d9effaf782ef"), looks := true }, kinds := [], alts := [], laidByText := true, laidKinds := [.data, .handle, .data], laidTests := true, laidLooks := .later }
def EncodeRefusesUptoCardSaid : Prop := Claim7.holds Tryz.pinned (.plain (OpenSpec.upto encodeRefusesSpec)) encodeRefusesUptoCard

/-- THE SECOND FORM's CARD OF 'geyserlaw12.EncodeSource'. -/
def encodeSourceUptoCard : Claim7 := { stood := { row := encodeSourceUptoRow, standIns := [], harness := (true, "b3cb665cee469ae0fac87743dc030300061a82dc83656ebbe0b6d9effaf782ef"), looks := true }, kinds := [], alts := [], laidByText := true, laidKinds := [.data, .data], laidTests := true, laidLooks := .later }
def EncodeSourceUptoCardSaid : Prop := Claim7.holds Tryz.pinned (.plain (OpenSpec.upto encodeSourceSpec)) encodeSourceUptoCard

/-- THE SECOND FORM's CARD OF 'geyserlaw12.EncodeSums'. -/
def encodeSumsUptoCard : Claim7 := { stood := { row := encodeSumsUptoRow, standIns := [], harness := (true, "b3cb665cee469ae0fac87743dc030300061a82dc83656ebbe0b6d9effaf782ef"), looks := true }, kinds := [], alts := [], laidByText := true, laidKinds := [.data, .data], laidTests := true, laidLooks := .later }
def EncodeSumsUptoCardSaid : Prop := Claim7.holds Tryz.pinned (.plain (OpenSpec.upto encodeSumsSpec)) encodeSumsUptoCard

/-- THE SECOND FORM's CARD OF 'geyserlaw12.EncodeGoes'. -/
def encodeGoesUptoCard : Claim7 := { stood := { row := encodeGoesUptoRow, standIns := [], harness := (true, "b3cb665cee469ae0fac87743dc030300061a82dc83656ebbe0b6d9effaf782ef"), looks := true }, kinds := [], alts := [], laidByText := true, laidKinds := [.data, .data], laidTests := true, laidLooks := .later }
def EncodeGoesUptoCardSaid : Prop := Claim7.holds Tryz.pinned (.plain (OpenSpec.upto encodeGoesSpec)) encodeGoesUptoCard

/-- THE SECOND FORM's CARD OF 'geyserlaw12.EncodeSomes'. -/
def encodeSomesUptoCard : Claim7 := { stood := { row := encodeSomesUptoRow, standIns := [], harness := (true, "b3cb665cee469ae0fac87743dc030300061a82dc83656ebbe0b6d9effaf782ef"), looks := true }, kinds := [], alts := [], laidByText := true, laidKinds := [.data, .data], laidTests := true, laidLooks := .later }
def EncodeSomesUptoCardSaid : Prop := Claim7.holds Tryz.pinned (.plain (OpenSpec.upto encodeSomesSpec)) encodeSomesUptoCard

/-- THE SECOND FORM's CARD OF 'geyserlaw12.EncodeNil'. -/
def encodeNilUptoCard : Claim7 := { stood := { row := encodeNilUptoRow, standIns := [], harness := (true, "b3cb665cee469ae0fac87743dc030300061a82dc83656ebbe0b6d9effaf782ef"), looks := true }, kinds := [], alts := [], laidByText := true, laidKinds := [.data, .handle, .data], laidTests := true, laidLooks := .later }
def EncodeNilUptoCardSaid : Prop := Claim7.holds Tryz.pinned (.plain (OpenSpec.upto encodeNilSpec)) encodeNilUptoCard
end Rows
end Go.Proofs.YtfibolkgpffjkaaGreatDoor
