/-
  DERIVED. GIVEN WITH THE SEED: THE CARDS: each row of YtlhpkfonffijfaaDoorRows.lean that lists a variable, with what it lists TIED to the program's text (the seventh form; the later family's looks); each row that meets fmt, with fmt's text TOLD by the authors' own Lean function (tested against real Go, not proved from fmt's source: count such statements apart). THE CARD IS WHAT COUNTS. Prove the row's statement (the work); the ties are given (YtlhpkfonffijfaaDoorTie.lean); close each card by the builder's one call (the guide's Derived/Test/ToyasCard.lean, 'card_holds'). Laid BY PROGRAM, IN A SANDBOX (cutbox-door.mjs). By AI agents, Wed Nov 11 2026. No macro, syntax, notation, axiom, sorry.
-/
import Derived.Test.YtlhpkfonffijfaaDoorRows
import GoSem.ClaimSeven
namespace Go.Proofs.YtlhpkfonffijfaaDoor
namespace Rows

/-- THE TIED CARD OF 'geyserlaw17.StripeReverses'. -/
def stripeReversesCard : Claim7 := { stood := { row := stripeReversesRow, standIns := [], harness := (true, "7486ef6cdc9f2e35260a10c0bdfa8b56cdbd5ef7030a0166ddb1f41690cbc09e"), looks := true }, kinds := [], alts := [], laidByText := true, laidKinds := [.handle], laidTests := true, laidLooks := .later }
def StripeReversesCardSaid : Prop := Claim7.holds Tryd.pinned (.plain (OpenSpec.ofChange stripeReversesSpec)) stripeReversesCard

/-- THE TIED CARD OF 'geyserlaw17.StripeChunks'. -/
def stripeChunksCard : Claim7 := { stood := { row := stripeChunksRow, standIns := [], harness := (true, "7486ef6cdc9f2e35260a10c0bdfa8b56cdbd5ef7030a0166ddb1f41690cbc09e"), looks := true }, kinds := [], alts := [], laidByText := true, laidKinds := [.handle], laidTests := true, laidLooks := .later }
def StripeChunksCardSaid : Prop := Claim7.holds Tryd.pinned (.plain (OpenSpec.ofChange stripeChunksSpec)) stripeChunksCard

/-- THE TIED CARD OF 'geyserlaw17.StripeLevels'. -/
def stripeLevelsCard : Claim7 := { stood := { row := stripeLevelsRow, standIns := [], harness := (true, "7486ef6cdc9f2e35260a10c0bdfa8b56cdbd5ef7030a0166ddb1f41690cbc09e"), looks := true }, kinds := [], alts := [], laidByText := true, laidKinds := [.handle], laidTests := true, laidLooks := .later }
def StripeLevelsCardSaid : Prop := Claim7.holds Tryd.pinned (.plain (OpenSpec.ofChange stripeLevelsSpec)) stripeLevelsCard

/-- THE TIED CARD OF 'geyserlaw17.StripeEsis'. -/
def stripeEsisCard : Claim7 := { stood := { row := stripeEsisRow, standIns := [], harness := (true, "7486ef6cdc9f2e35260a10c0bdfa8b56cdbd5ef7030a0166ddb1f41690cbc09e"), looks := true }, kinds := [], alts := [], laidByText := true, laidKinds := [.handle], laidTests := true, laidLooks := .later }
def StripeEsisCardSaid : Prop := Claim7.holds Tryd.pinned (.plain (OpenSpec.ofChange stripeEsisSpec)) stripeEsisCard

/-- THE SECOND FORM's CARD OF 'geyserlaw17.StripeReverses'. -/
def stripeReversesUptoCard : Claim7 := { stood := { row := stripeReversesUptoRow, standIns := [], harness := (true, "7486ef6cdc9f2e35260a10c0bdfa8b56cdbd5ef7030a0166ddb1f41690cbc09e"), looks := true }, kinds := [], alts := [], laidByText := true, laidKinds := [.handle], laidTests := true, laidLooks := .later }
def StripeReversesUptoCardSaid : Prop := Claim7.holds Tryd.pinned (.plain (OpenSpec.upto stripeReversesSpec)) stripeReversesUptoCard

/-- THE SECOND FORM's CARD OF 'geyserlaw17.StripeChunks'. -/
def stripeChunksUptoCard : Claim7 := { stood := { row := stripeChunksUptoRow, standIns := [], harness := (true, "7486ef6cdc9f2e35260a10c0bdfa8b56cdbd5ef7030a0166ddb1f41690cbc09e"), looks := true }, kinds := [], alts := [], laidByText := true, laidKinds := [.handle], laidTests := true, laidLooks := .later }
def StripeChunksUptoCardSaid : Prop := Claim7.holds Tryd.pinned (.plain (OpenSpec.upto stripeChunksSpec)) stripeChunksUptoCard

/-- THE SECOND FORM's CARD OF 'geyserlaw17.StripeLevels'. -/
def stripeLevelsUptoCard : Claim7 := { stood := { row := stripeLevelsUptoRow, standIns := [], harness := (true, "7486ef6cdc9f2e35260a10c0bdfa8b56cdbd5ef7030a0166ddb1f41690cbc09e"), looks := true }, kinds := [], alts := [], laidByText := true, laidKinds := [.handle], laidTests := true, laidLooks := .later }
def StripeLevelsUptoCardSaid : Prop := Claim7.holds Tryd.pinned (.plain (OpenSpec.upto stripeLevelsSpec)) stripeLevelsUptoCard

/-- THE SECOND FORM's CARD OF 'geyserlaw17.StripeEsis'. -/
def stripeEsisUptoCard : Claim7 := { stood := { row := stripeEsisUptoRow, standIns := [], harness := (true, "7486ef6cdc9f2e35260a10c0bdfa8b56cdbd5ef7030a0166ddb1f41690cbc09e"), looks := true }, kinds := [], alts := [], laidByText := true, laidKinds := [.handle], laidTests := true, laidLooks := .later }
def StripeEsisUptoCardSaid : Prop := Claim7.holds Tryd.pinned (.plain (OpenSpec.upto stripeEsisSpec)) stripeEsisUptoCard
end Rows
end Go.Proofs.YtlhpkfonffijfaaDoor
