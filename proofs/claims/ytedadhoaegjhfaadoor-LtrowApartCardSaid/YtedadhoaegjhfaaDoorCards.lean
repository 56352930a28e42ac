/-
  DERIVED. GIVEN WITH THE SEED: THE CARDS: each row of YtedadhoaegjhfaaDoorRows.lean that lists a variable, with what it lists TIED to the program's text (the seventh form; the later family's looks); each row that meets fmt, with fmt's text TOLD by the authors' own Lean function (tested against real Go, not proved from fmt's source: count such statements apart). THE CARD IS WHAT COUNTS. Prove the row's statement (the work); the ties are given (YtedadhoaegjhfaaDoorTie.lean); close each card by the builder's one call (the guide's Derived/Test/ToyasCard.lean, 'card_holds'). Laid BY PROGRAM, IN A SANDBOX (cutbox-door.mjs). By AI agents, Wed Nov 11 2026. No macro, syntax, notation, axiom, sorry.
-/
import Derived.Test.YtedadhoaegjhfaaDoorRows
import GoSem.ClaimSeven
namespace Go.Proofs.YtedadhoaegjhfaaDoor
namespace Rows

/-- THE TIED CARD OF 'geyserlaw10.LtrowTrips'. -/
def ltrowTripsCard : Claim7 := { stood := { row := ltrowTripsRow, standIns := [], harness := (true, "e460532773e7860cacf86a75f5be3148e3344199f95c31367313ca86995c4773"), looks := true }, kinds := [], alts := [], laidByText := true, laidKinds := [.handle, .data], laidTests := true, laidLooks := .later }
def LtrowTripsCardSaid : Prop := Claim7.holds Tryd.pinned (.plain (OpenSpec.ofChange ltrowTripsSpec)) ltrowTripsCard

/-- THE TIED CARD OF 'geyserlaw10.LtrowWalks'. -/
def ltrowWalksCard : Claim7 := { stood := { row := ltrowWalksRow, standIns := [], harness := (true, "e460532773e7860cacf86a75f5be3148e3344199f95c31367313ca86995c4773"), looks := true }, kinds := [], alts := [], laidByText := true, laidKinds := [.handle, .data], laidTests := true, laidLooks := .later }
def LtrowWalksCardSaid : Prop := Claim7.holds Tryd.pinned (.plain (OpenSpec.ofChange ltrowWalksSpec)) ltrowWalksCard

/-- THE TIED CARD OF 'geyserlaw10.LtrowRows'. -/
def ltrowRowsCard : Claim7 := { stood := { row := ltrowRowsRow, standIns := [], harness := (true, "e460532773e7860cacf86a75f5be3148e3344199f95c31367313ca86995c4773"), looks := true }, kinds := [], alts := [], laidByText := true, laidKinds := [.handle, .data], laidTests := true, laidLooks := .later }
def LtrowRowsCardSaid : Prop := Claim7.holds Tryd.pinned (.plain (OpenSpec.ofChange ltrowRowsSpec)) ltrowRowsCard

/-- THE TIED CARD OF 'geyserlaw10.LtrowApart'. -/
def ltrowApartCard : Claim7 := { stood := { row := ltrowApartRow, standIns := [], harness := (true, "e460532773e7860cacf86a75f5be3148e3344199f95c31367313ca86995c4773"), looks := true }, kinds := [], alts := [], laidByText := true, laidKinds := [.data], laidTests := true, laidLooks := .later }
def LtrowApartCardSaid : Prop := Claim7.holds Tryd.pinned (.plain (OpenSpec.ofChange ltrowApartSpec)) ltrowApartCard

/-- THE TIED CARD OF 'geyserlaw10.LtrowWhole'. -/
def ltrowWholeCard : Claim7 := { stood := { row := ltrowWholeRow, standIns := [], harness := (true, "e460532773e7860cacf86a75f5be3148e3344199f95c31367313ca86995c4773"), looks := true }, kinds := [], alts := [], laidByText := true, laidKinds := [.data], laidTests := true, laidLooks := .later }
def LtrowWholeCardSaid : Prop := Claim7.holds Tryd.pinned (.plain (OpenSpec.ofChange ltrowWholeSpec)) ltrowWholeCard

/-- THE SECOND FORM's CARD OF 'geyserlaw10.LtrowTrips'. -/
def ltrowTripsUptoCard : Claim7 := { stood := { row := ltrowTripsUptoRow, standIns := [], harness := (true, "e460532773e7860cacf86a75f5be3148e3344199f95c31367313ca86995c4773"), looks := true }, kinds := [], alts := [], laidByText := true, laidKinds := [.handle, .data], laidTests := true, laidLooks := .later }
def LtrowTripsUptoCardSaid : Prop := Claim7.holds Tryd.pinned (.plain (OpenSpec.upto ltrowTripsSpec)) ltrowTripsUptoCard

/-- THE SECOND FORM's CARD OF 'geyserlaw10.LtrowWalks'. -/
def ltrowWalksUptoCard : Claim7 := { stood := { row := ltrowWalksUptoRow, standIns := [], harness := (true, "e460532773e7860cacf86a75f5be3148e3344199f95c31367313ca86995c4773"), looks := true }, kinds := [], alts := [], laidByText := true, laidKinds := [.handle, .data], laidTests := true, laidLooks := .later }
def LtrowWalksUptoCardSaid : Prop := Claim7.holds Tryd.pinned (.plain (OpenSpec.upto ltrowWalksSpec)) ltrowWalksUptoCard

/-- THE SECOND FORM's CARD OF 'geyserlaw10.LtrowRows'. -/
def ltrowRowsUptoCard : Claim7 := { stood := { row := ltrowRowsUptoRow, standIns := [], harness := (true, "e460532773e7860cacf86a75f5be3148e3344199f95c31367313ca86995c4773"), looks := true }, kinds := [], alts := [], laidByText := true, laidKinds := [.handle, .data], laidTests := true, laidLooks := .later }
def LtrowRowsUptoCardSaid : Prop := Claim7.holds Tryd.pinned (.plain (OpenSpec.upto ltrowRowsSpec)) ltrowRowsUptoCard

/-- THE SECOND FORM's CARD OF 'geyserlaw10.LtrowApart'. -/
def ltrowApartUptoCard : Claim7 := { stood := { row := ltrowApartUptoRow, standIns := [], harness := (true, "e460532773e7860cacf86a75f5be3148e3344199f95c31367313ca86995c4773"), looks := true }, kinds := [], alts := [], laidByText := true, laidKinds := [.data], laidTests := true, laidLooks := .later }
def LtrowApartUptoCardSaid : Prop := Claim7.holds Tryd.pinned (.plain (OpenSpec.upto ltrowApartSpec)) ltrowApartUptoCard

/-- THE SECOND FORM's CARD OF 'geyserlaw10.LtrowWhole'. -/
def ltrowWholeUptoCard : Claim7 := { stood := { row := ltrowWholeUptoRow, standIns := [], harness := (true, "e460532773e7860cacf86a75f5be3148e3344199f95c31367313ca86995c4773"), looks := true }, kinds := [], alts := [], laidByText := true, laidKinds := [.data], laidTests := true, laidLooks := .later }
def LtrowWholeUptoCardSaid : Prop := Claim7.holds Tryd.pinned (.plain (OpenSpec.upto ltrowWholeSpec)) ltrowWholeUptoCard
end Rows
end Go.Proofs.YtedadhoaegjhfaaDoor
