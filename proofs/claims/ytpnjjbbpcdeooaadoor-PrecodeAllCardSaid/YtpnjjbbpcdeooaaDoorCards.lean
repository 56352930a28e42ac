/-
  DERIVED. GIVEN WITH THE SEED: THE CARDS: each row of YtpnjjbbpcdeooaaDoorRows.lean that lists a variable, with what it lists TIED to the program's text (the seventh form; the later family's looks); each row that meets fmt, with fmt's text TOLD by the authors' own Lean function (tested against real Go, not proved from fmt's source: count such statements apart). THE CARD IS WHAT COUNTS. Prove the row's statement (the work); the ties are given (YtpnjjbbpcdeooaaDoorTie.lean); close each card by the builder's one call (the guide's Derived/Test/ToyasCard.lean, 'card_holds'). Laid BY PROGRAM, IN A SANDBOX (cutbox-door.mjs). By AI agents, Wed Nov 11 2026. No macro, syntax, notation, axiom, sorry.
-/
import Derived.Test.YtpnjjbbpcdeooaaDoorRows
import GoSem.ClaimSeven
namespace Go.Proofs.YtpnjjbbpcdeooaaDoor
namespace Rows

/-- THE TIED CARD OF 'geyserlaw09.PrecodeRows'. -/
def precodeRowsCard : Claim7 := { stood := { row := precodeRowsRow, standIns := [], harness := (true, "8e3f9f47e0f1fc44c93378b03f8d7db68602819922f1246897f81e35103183f2"), looks := true }, kinds := [], alts := [], laidByText := true, laidKinds := [.handle], laidTests := true, laidLooks := .later }
def PrecodeRowsCardSaid : Prop := Claim7.holds Tryd.pinned (.plain (OpenSpec.ofChange precodeRowsSpec)) precodeRowsCard

/-- THE TIED CARD OF 'geyserlaw09.PrecodeAll'. -/
def precodeAllCard : Claim7 := { stood := { row := precodeAllRow, standIns := [], harness := (true, "8e3f9f47e0f1fc44c93378b03f8d7db68602819922f1246897f81e35103183f2"), looks := true }, kinds := [], alts := [], laidByText := true, laidKinds := [.handle], laidTests := true, laidLooks := .later }
def PrecodeAllCardSaid : Prop := Claim7.holds Tryd.pinned (.plain (OpenSpec.ofChange precodeAllSpec)) precodeAllCard

/-- THE TIED CARD OF 'geyserlaw09.PrecodeGrays'. -/
def precodeGraysCard : Claim7 := { stood := { row := precodeGraysRow, standIns := [], harness := (true, "8e3f9f47e0f1fc44c93378b03f8d7db68602819922f1246897f81e35103183f2"), looks := true }, kinds := [], alts := [], laidByText := true, laidKinds := [.handle], laidTests := true, laidLooks := .later }
def PrecodeGraysCardSaid : Prop := Claim7.holds Tryd.pinned (.plain (OpenSpec.ofChange precodeGraysSpec)) precodeGraysCard

/-- THE TIED CARD OF 'geyserlaw09.PrecodeIns'. -/
def precodeInsCard : Claim7 := { stood := { row := precodeInsRow, standIns := [], harness := (true, "8e3f9f47e0f1fc44c93378b03f8d7db68602819922f1246897f81e35103183f2"), looks := true }, kinds := [], alts := [], laidByText := true, laidKinds := [.handle], laidTests := true, laidLooks := .later }
def PrecodeInsCardSaid : Prop := Claim7.holds Tryd.pinned (.plain (OpenSpec.ofChange precodeInsSpec)) precodeInsCard

/-- THE SECOND FORM's CARD OF 'geyserlaw09.PrecodeRows'. -/
def precodeRowsUptoCard : Claim7 := { stood := { row := precodeRowsUptoRow, standIns := [], harness := (true, "8e3f9f47e0f1fc44c93378b03f8d7db68602819922f1246897f81e35103183f2"), looks := true }, kinds := [], alts := [], laidByText := true, laidKinds := [.handle], laidTests := true, laidLooks := .later }
def PrecodeRowsUptoCardSaid : Prop := Claim7.holds Tryd.pinned (.plain (OpenSpec.upto precodeRowsSpec)) precodeRowsUptoCard

/-- THE SECOND FORM's CARD OF 'geyserlaw09.PrecodeAll'. -/
def precodeAllUptoCard : Claim7 := { stood := { row := precodeAllUptoRow, standIns := [], harness := (true, "8e3f9f47e0f1fc44c93378b03f8d7db68602819922f1246897f81e35103183f2"), looks := true }, kinds := [], alts := [], laidByText := true, laidKinds := [.handle], laidTests := true, laidLooks := .later }
def PrecodeAllUptoCardSaid : Prop := Claim7.holds Tryd.pinned (.plain (OpenSpec.upto precodeAllSpec)) precodeAllUptoCard

/-- THE SECOND FORM's CARD OF 'geyserlaw09.PrecodeGrays'. -/
def precodeGraysUptoCard : Claim7 := { stood := { row := precodeGraysUptoRow, standIns := [], harness := (true, "8e3f9f47e0f1fc44c93378b03f8d7db68602819922f1246897f81e35103183f2"), looks := true }, kinds := [], alts := [], laidByText := true, laidKinds := [.handle], laidTests := true, laidLooks := .later }
def PrecodeGraysUptoCardSaid : Prop := Claim7.holds Tryd.pinned (.plain (OpenSpec.upto precodeGraysSpec)) precodeGraysUptoCard

/-- THE SECOND FORM's CARD OF 'geyserlaw09.PrecodeIns'. -/
def precodeInsUptoCard : Claim7 := { stood := { row := precodeInsUptoRow, standIns := [], harness := (true, "8e3f9f47e0f1fc44c93378b03f8d7db68602819922f1246897f81e35103183f2"), looks := true }, kinds := [], alts := [], laidByText := true, laidKinds := [.handle], laidTests := true, laidLooks := .later }
def PrecodeInsUptoCardSaid : Prop := Claim7.holds Tryd.pinned (.plain (OpenSpec.upto precodeInsSpec)) precodeInsUptoCard
end Rows
end Go.Proofs.YtpnjjbbpcdeooaaDoor
