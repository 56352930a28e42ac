/-
  DERIVED. GIVEN WITH THE SEED: THE CARDS: each row of YtmipnbfndjacoaaDoorRows.lean that lists a variable, with what it lists TIED to the program's text (the seventh form; the later family's looks); each row that meets fmt, with fmt's text TOLD by the authors' own Lean function (tested against real Go, not proved from fmt's source: count such statements apart). THE CARD IS WHAT COUNTS. Prove the row's statement (the work); the ties are given (YtmipnbfndjacoaaDoorTie.lean); close each card by the builder's one call (the guide's Derived/Test/ToyasCard.lean, 'card_holds'). Laid BY PROGRAM, IN A SANDBOX (cutbox-door.mjs). By AI agents, Wed Nov 11 2026. No macro, syntax, notation, axiom, sorry.
-/
import Derived.Test.YtmipnbfndjacoaaDoorRows
import GoSem.ClaimSeven
namespace Go.Proofs.YtmipnbfndjacoaaDoor
namespace Rows

/-- THE TIED CARD OF 'geyserlaw07.DegreeOfs'. -/
def degreeOfsCard : Claim7 := { stood := { row := degreeOfsRow, standIns := [], harness := (true, "b088f008e897a2372ce0ba8cc4344a219bf7f782a2a67da0fc5fddb6b3cb9e6c"), looks := true }, kinds := [], alts := [], laidByText := true, laidKinds := [.handle, .data], laidTests := true, laidLooks := .later }
def DegreeOfsCardSaid : Prop := Claim7.holds Tryd.pinned (.plain (OpenSpec.ofChange degreeOfsSpec)) degreeOfsCard

/-- THE TIED CARD OF 'geyserlaw07.DegreeShares'. -/
def degreeSharesCard : Claim7 := { stood := { row := degreeSharesRow, standIns := [], harness := (true, "b088f008e897a2372ce0ba8cc4344a219bf7f782a2a67da0fc5fddb6b3cb9e6c"), looks := true }, kinds := [], alts := [], laidByText := true, laidKinds := [.handle, .data], laidTests := true, laidLooks := .later }
def DegreeSharesCardSaid : Prop := Claim7.holds Tryd.pinned (.plain (OpenSpec.ofChange degreeSharesSpec)) degreeSharesCard

/-- THE TIED CARD OF 'geyserlaw07.DegreeAll'. -/
def degreeAllCard : Claim7 := { stood := { row := degreeAllRow, standIns := [], harness := (true, "b088f008e897a2372ce0ba8cc4344a219bf7f782a2a67da0fc5fddb6b3cb9e6c"), looks := true }, kinds := [], alts := [], laidByText := true, laidKinds := [.data], laidTests := true, laidLooks := .later }
def DegreeAllCardSaid : Prop := Claim7.holds Tryd.pinned (.plain (OpenSpec.ofChange degreeAllSpec)) degreeAllCard

/-- THE TIED CARD OF 'geyserlaw07.DegreeRises'. -/
def degreeRisesCard : Claim7 := { stood := { row := degreeRisesRow, standIns := [], harness := (true, "b088f008e897a2372ce0ba8cc4344a219bf7f782a2a67da0fc5fddb6b3cb9e6c"), looks := true }, kinds := [], alts := [], laidByText := true, laidKinds := [.data], laidTests := true, laidLooks := .later }
def DegreeRisesCardSaid : Prop := Claim7.holds Tryd.pinned (.plain (OpenSpec.ofChange degreeRisesSpec)) degreeRisesCard

/-- THE TIED CARD OF 'geyserlaw07.DegreeUpto'. -/
def degreeUptoCard : Claim7 := { stood := { row := degreeUptoRow, standIns := [], harness := (true, "b088f008e897a2372ce0ba8cc4344a219bf7f782a2a67da0fc5fddb6b3cb9e6c"), looks := true }, kinds := [], alts := [], laidByText := true, laidKinds := [.data], laidTests := true, laidLooks := .later }
def DegreeUptoCardSaid : Prop := Claim7.holds Tryd.pinned (.plain (OpenSpec.ofChange degreeUptoSpec)) degreeUptoCard

/-- THE SECOND FORM's CARD OF 'geyserlaw07.DegreeOfs'. -/
def degreeOfsUptoCard : Claim7 := { stood := { row := degreeOfsUptoRow, standIns := [], harness := (true, "b088f008e897a2372ce0ba8cc4344a219bf7f782a2a67da0fc5fddb6b3cb9e6c"), looks := true }, kinds := [], alts := [], laidByText := true, laidKinds := [.handle, .data], laidTests := true, laidLooks := .later }
def DegreeOfsUptoCardSaid : Prop := Claim7.holds Tryd.pinned (.plain (OpenSpec.upto degreeOfsSpec)) degreeOfsUptoCard

/-- THE SECOND FORM's CARD OF 'geyserlaw07.DegreeShares'. -/
def degreeSharesUptoCard : Claim7 := { stood := { row := degreeSharesUptoRow, standIns := [], harness := (true, "b088f008e897a2372ce0ba8cc4344a219bf7f782a2a67da0fc5fddb6b3cb9e6c"), looks := true }, kinds := [], alts := [], laidByText := true, laidKinds := [.handle, .data], laidTests := true, laidLooks := .later }
def DegreeSharesUptoCardSaid : Prop := Claim7.holds Tryd.pinned (.plain (OpenSpec.upto degreeSharesSpec)) degreeSharesUptoCard

/-- THE SECOND FORM's CARD OF 'geyserlaw07.DegreeAll'. -/
def degreeAllUptoCard : Claim7 := { stood := { row := degreeAllUptoRow, standIns := [], harness := (true, "b088f008e897a2372ce0ba8cc4344a219bf7f782a2a67da0fc5fddb6b3cb9e6c"), looks := true }, kinds := [], alts := [], laidByText := true, laidKinds := [.data], laidTests := true, laidLooks := .later }
def DegreeAllUptoCardSaid : Prop := Claim7.holds Tryd.pinned (.plain (OpenSpec.upto degreeAllSpec)) degreeAllUptoCard

/-- THE SECOND FORM's CARD OF 'geyserlaw07.DegreeRises'. -/
def degreeRisesUptoCard : Claim7 := { stood := { row := degreeRisesUptoRow, standIns := [], harness := (true, "b088f008e897a2372ce0ba8cc4344a219bf7f782a2a67da0fc5fddb6b3cb9e6c"), looks := true }, kinds := [], alts := [], laidByText := true, laidKinds := [.data], laidTests := true, laidLooks := .later }
def DegreeRisesUptoCardSaid : Prop := Claim7.holds Tryd.pinned (.plain (OpenSpec.upto degreeRisesSpec)) degreeRisesUptoCard

/-- THE SECOND FORM's CARD OF 'geyserlaw07.DegreeUpto'. -/
def degreeUptoUptoCard : Claim7 := { stood := { row := degreeUptoUptoRow, standIns := [], harness := (true, "b088f008e897a2372ce0ba8cc4344a219bf7f782a2a67da0fc5fddb6b3cb9e6c"), looks := true }, kinds := [], alts := [], laidByText := true, laidKinds := [.data], laidTests := true, laidLooks := .later }
def DegreeUptoUptoCardSaid : Prop := Claim7.holds Tryd.pinned (.plain (OpenSpec.upto degreeUptoSpec)) degreeUptoUptoCard
end Rows
end Go.Proofs.YtmipnbfndjacoaaDoor
