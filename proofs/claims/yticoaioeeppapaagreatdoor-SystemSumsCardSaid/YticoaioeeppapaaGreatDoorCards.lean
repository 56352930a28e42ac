/-
  DERIVED. GIVEN WITH THE SEED: THE CARDS: each row of YticoaioeeppapaaGreatDoorRows.lean that lists a variable, with what it lists TIED to the program's text (the seventh form; the later family's looks); each row that meets fmt, with fmt's text TOLD by the authors' own Lean function (tested against real Go, not proved from fmt's source: count such statements apart). THE CARD IS WHAT COUNTS. Prove the row's statement (the work); the ties are given (YticoaioeeppapaaGreatDoorTie.lean); close each card by the builder's one call (the guide's Derived/Test/ToyasCard.lean, 'card_holds'). Laid BY PROGRAM, IN A SANDBOX (cutbox-door.mjs). By AI agents, Wed Nov 11 2026. No macro, syntax, notation, axiom, sorry.
-/
import Derived.Test.YticoaioeeppapaaGreatDoorRows
import GoSem.ClaimSeven
namespace Go.Proofs.YticoaioeeppapaaGreatDoor
namespace Rows

/-- THE TIED CARD OF 'geyserlaw11.SystemRows'. -/
def systemRowsCard : Claim7 := { stood := { row := systemRowsRow, standIns := [], harness := (true, "4a0cf0866c827bf1b04a83eac8c6ed98969d693ad0862963d44f566d6e8f4c6e"), looks := true }, kinds := [], alts := [], laidByText := true, laidKinds := [.data, .handle, .data], laidTests := true, laidLooks := .later }
def SystemRowsCardSaid : Prop := Claim7.holds Tryz.pinned (.plain (OpenSpec.ofChange systemRowsSpec)) systemRowsCard

/-- THE TIED CARD OF 'geyserlaw11.SystemSeeds'. -/
def systemSeedsCard : Claim7 := { stood := { row := systemSeedsRow, standIns := [], harness := (true, "4a0cf0866c827bf1b04a83eac8c6ed98969d693ad0862963d44f566d6e8f4c6e"), looks := true }, kinds := [], alts := [], laidByText := true, laidKinds := [.data, .handle, .data], laidTests := true, laidLooks := .later }
def SystemSeedsCardSaid : Prop := Claim7.holds Tryz.pinned (.plain (OpenSpec.ofChange systemSeedsSpec)) systemSeedsCard

/-- THE TIED CARD OF 'geyserlaw11.SystemAll'. -/
def systemAllCard : Claim7 := { stood := { row := systemAllRow, standIns := [], harness := (true, "4a0cf0866c827bf1b04a83eac8c6ed98969d693ad0862963d44f566d6e8f4c6e"), looks := true }, kinds := [], alts := [], laidByText := true, laidKinds := [.data, .data], laidTests := true, laidLooks := .later }
def SystemAllCardSaid : Prop := Claim7.holds Tryz.pinned (.plain (OpenSpec.ofChange systemAllSpec)) systemAllCard

/-- THE TIED CARD OF 'geyserlaw11.SystemMiddles'. -/
def systemMiddlesCard : Claim7 := { stood := { row := systemMiddlesRow, standIns := [], harness := (true, "4a0cf0866c827bf1b04a83eac8c6ed98969d693ad0862963d44f566d6e8f4c6e"), looks := true }, kinds := [], alts := [], laidByText := true, laidKinds := [.data, .data], laidTests := true, laidLooks := .later }
def SystemMiddlesCardSaid : Prop := Claim7.holds Tryz.pinned (.plain (OpenSpec.ofChange systemMiddlesSpec)) systemMiddlesCard

/-- THE TIED CARD OF 'geyserlaw11.SystemSums'. -/
def systemSumsCard : Claim7 := { stood := { row := systemSumsRow, standIns := [], harness := (true, "4a0cf0866c827bf1b04a83eac8c6ed98969d693ad0862963d44f566d6e8f4c6e"), looks := true }, kinds := [], alts := [], laidByText := true, laidKinds := [.data, .data], laidTests := true, laidLooks := .later }
def SystemSumsCardSaid : Prop := Claim7.holds Tryz.pinned (.plain (OpenSpec.ofChange systemSumsSpec)) systemSumsCard

/-- THE TIED CARD OF 'geyserlaw11.SystemRefuses'. -/
def systemRefusesCard : Claim7 := { stood := { row := systemRefusesRow, standIns := [], harness := (true, "4a0cf0866c827bf1b04a83eac8c6ed98969d693ad0862963d44f566d6e8f4c6e"), looks := true }, kinds := [], alts := [], laidByText := true, laidKinds := [.data, .handle, .data], laidTests := true, laidLooks := .later }
def SystemRefusesCardSaid : Prop := Claim7.holds Tryz.pinned (.plain (OpenSpec.ofChange systemRefusesSpec)) systemRefusesCard

/-- THE SECOND FORM's CARD OF 'geyserlaw11.SystemRows'. -/
def systemRowsUptoCard : Claim7 := { stood := { row := systemRowsUptoRow, standIns := [], harness := (true, "4a0cf0866c827bf1b04a83eac8c6ed98969d693ad0862963d44f566d6e8f4c6e"), looks := true }, kinds := [], alts := [], laidByText := true, laidKinds := [.data, .handle, .data], laidTests := true, laidLooks := .later }
def SystemRowsUptoCardSaid : Prop := Claim7.holds Tryz.pinned (.plain (OpenSpec.upto systemRowsSpec)) systemRowsUptoCard

/-- THE SECOND FORM's CARD OF 'geyserlaw11.SystemSeeds'. -/
def systemSeedsUptoCard : Claim7 := { stood := { row := systemSeedsUptoRow, standIns := [], harness := (true, "4a0cf0866c827bf1b04a83eac8c6ed98969d693ad0862963d44f566d6e8f4c6e"), looks := true }, kinds := [], alts := [], laidByText := true, laidKinds := [.data, .handle, .data], laidTests := true, laidLooks := .later }
def SystemSeedsUptoCardSaid : Prop := Claim7.holds Tryz.pinned (.plain (OpenSpec.upto systemSeedsSpec)) systemSeedsUptoCard

/-- THE SECOND FORM's CARD OF 'geyserlaw11.SystemAll'. -/
def systemAllUptoCard : Claim7 := { stood := { row := systemAllUptoRow, standIns := [], harness := (true, "4a0cf0866c827bf1b04a83eac8c6ed98969d693ad0862963d44f566d6e8f4c6e"), looks := true }, kinds := [], alts := [], laidByText := true, laidKinds := [.data, .data], laidTests := true, laidLooks := .later }
def SystemAllUptoCardSaid : Prop := Claim7.holds Tryz.pinned (.plain (OpenSpec.upto systemAllSpec)) systemAllUptoCard

/-- THE SECOND FORM's CARD OF 'geyserlaw11.SystemMiddles'. -/
def systemMiddlesUptoCard : Claim7 := { stood := { row := systemMiddlesUptoRow, standIns := [], harness := (true, "4a0cf0866c827bf1b04a83eac8c6ed98969d693ad0862963d44f566d6e8f4c6e"), looks := true }, kinds := [], alts := [], laidByText := true, laidKinds := [.data, .data], laidTests := true, laidLooks := .later }
def SystemMiddlesUptoCardSaid : Prop := Claim7.holds Tryz.pinned (.plain (OpenSpec.upto systemMiddlesSpec)) systemMiddlesUptoCard

/-- THE SECOND FORM's CARD OF 'geyserlaw11.SystemSums'. -/
def systemSumsUptoCard : Claim7 := { stood := { row := systemSumsUptoRow, standIns := [], harness := (true, "4a0cf0866c827bf1b04a83eac8c6ed98969d693ad0862963d44f566d6e8f4c6e"), looks := true }, kinds := [], alts := [], laidByText := true, laidKinds := [.data, .data], laidTests := true, laidLooks := .later }
def SystemSumsUptoCardSaid : Prop := Claim7.holds Tryz.pinned (.plain (OpenSpec.upto systemSumsSpec)) systemSumsUptoCard

/-- THE SECOND FORM's CARD OF 'geyserlaw11.SystemRefuses'. -/
def systemRefusesUptoCard : Claim7 := { stood := { row := systemRefusesUptoRow, standIns := [], harness := (true, "4a0cf0866c827bf1b04a83eac8c6ed98969d693ad0862963d44f566d6e8f4c6e"), looks := true }, kinds := [], alts := [], laidByText := true, laidKinds := [.data, .handle, .data], laidTests := true, laidLooks := .later }
def SystemRefusesUptoCardSaid : Prop := Claim7.holds Tryz.pinned (.plain (OpenSpec.upto systemRefusesSpec)) systemRefusesUptoCard
end Rows
end Go.Proofs.YticoaioeeppapaaGreatDoor
