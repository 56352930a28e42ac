/-
  DERIVED. GIVEN WITH THE SEED: THE CARDS: each row of YtdmgcnmapglhiaaDoorRows.lean that lists a variable, with what it lists TIED to the program's text (the seventh form; the later family's looks); each row that meets fmt, with fmt's text TOLD by the authors' own Lean function (tested against real Go, not proved from fmt's source: count such statements apart). THE CARD IS WHAT COUNTS. Prove the row's statement (the work); the ties are given (YtdmgcnmapglhiaaDoorTie.lean); close each card by the builder's one call (the guide's Derived/Test/ToyasCard.lean, 'card_holds'). Laid BY PROGRAM, IN A SANDBOX (cutbox-door.mjs). By AI agents, Wed Nov 11 2026. No macro, syntax, notation, axiom, sorry.
-/
import Derived.Test.YtdmgcnmapglhiaaDoorRows
import GoSem.ClaimSeven
namespace Go.Proofs.YtdmgcnmapglhiaaDoor
namespace Rows

/-- THE TIED CARD OF 'geyserlaw02.PackedPacks'. -/
def packedPacksCard : Claim7 := { stood := { row := packedPacksRow, standIns := [], harness := (true, "0ff9276a1d0a88e41953b1d01b4ba1011f3c92d687a0639ea441b12286e2f92a"), looks := true }, kinds := [], alts := [], laidByText := true, laidKinds := [.data, .handle], laidTests := true, laidLooks := .later }
def PackedPacksCardSaid : Prop := Claim7.holds Tryd.pinned (.plain (OpenSpec.ofChange packedPacksSpec)) packedPacksCard

/-- THE TIED CARD OF 'geyserlaw02.PackedUnpacks'. -/
def packedUnpacksCard : Claim7 := { stood := { row := packedUnpacksRow, standIns := [], harness := (true, "0ff9276a1d0a88e41953b1d01b4ba1011f3c92d687a0639ea441b12286e2f92a"), looks := true }, kinds := [], alts := [], laidByText := true, laidKinds := [.data], laidTests := true, laidLooks := .later }
def PackedUnpacksCardSaid : Prop := Claim7.holds Tryd.pinned (.plain (OpenSpec.ofChange packedUnpacksSpec)) packedUnpacksCard

/-- THE TIED CARD OF 'geyserlaw02.PackedXors'. -/
def packedXorsCard : Claim7 := { stood := { row := packedXorsRow, standIns := [], harness := (true, "0ff9276a1d0a88e41953b1d01b4ba1011f3c92d687a0639ea441b12286e2f92a"), looks := true }, kinds := [], alts := [], laidByText := true, laidKinds := [.data, .handle], laidTests := true, laidLooks := .later }
def PackedXorsCardSaid : Prop := Claim7.holds Tryd.pinned (.plain (OpenSpec.ofChange packedXorsSpec)) packedXorsCard

/-- THE TIED CARD OF 'geyserlaw02.PackedBack'. -/
def packedBackCard : Claim7 := { stood := { row := packedBackRow, standIns := [], harness := (true, "0ff9276a1d0a88e41953b1d01b4ba1011f3c92d687a0639ea441b12286e2f92a"), looks := true }, kinds := [], alts := [], laidByText := true, laidKinds := [.data], laidTests := true, laidLooks := .later }
def PackedBackCardSaid : Prop := Claim7.holds Tryd.pinned (.plain (OpenSpec.ofChange packedBackSpec)) packedBackCard

/-- THE TIED CARD OF 'geyserlaw02.PackedTwice'. -/
def packedTwiceCard : Claim7 := { stood := { row := packedTwiceRow, standIns := [], harness := (true, "0ff9276a1d0a88e41953b1d01b4ba1011f3c92d687a0639ea441b12286e2f92a"), looks := true }, kinds := [], alts := [], laidByText := true, laidKinds := [.data], laidTests := true, laidLooks := .later }
def PackedTwiceCardSaid : Prop := Claim7.holds Tryd.pinned (.plain (OpenSpec.ofChange packedTwiceSpec)) packedTwiceCard

/-- THE TIED CARD OF 'geyserlaw02.PackedOdd'. -/
def packedOddCard : Claim7 := { stood := { row := packedOddRow, standIns := [], harness := (true, "0ff9276a1d0a88e41953b1d01b4ba1011f3c92d687a0639ea441b12286e2f92a"), looks := true }, kinds := [], alts := [], laidByText := true, laidKinds := [.data], laidTests := true, laidLooks := .later }
def PackedOddCardSaid : Prop := Claim7.holds Tryd.pinned (.plain (OpenSpec.ofChange packedOddSpec)) packedOddCard

/-- THE SECOND FORM's CARD OF 'geyserlaw02.PackedPacks'. -/
def packedPacksUptoCard : Claim7 := { stood := { row := packedPacksUptoRow, standIns := [], harness := (true, "0ff9276a1d0a88e41953b1d01b4ba1011f3c92d687a0639ea441b12286e2f92a"), looks := true }, kinds := [], alts := [], laidByText := true, laidKinds := [.data, .handle], laidTests := true, laidLooks := .later }
def PackedPacksUptoCardSaid : Prop := Claim7.holds Tryd.pinned (.plain (OpenSpec.upto packedPacksSpec)) packedPacksUptoCard

/-- THE SECOND FORM's CARD OF 'geyserlaw02.PackedUnpacks'. -/
def packedUnpacksUptoCard : Claim7 := { stood := { row := packedUnpacksUptoRow, standIns := [], harness := (true, "0ff9276a1d0a88e41953b1d01b4ba1011f3c92d687a0639ea441b12286e2f92a"), looks := true }, kinds := [], alts := [], laidByText := true, laidKinds := [.data], laidTests := true, laidLooks := .later }
def PackedUnpacksUptoCardSaid : Prop := Claim7.holds Tryd.pinned (.plain (OpenSpec.upto packedUnpacksSpec)) packedUnpacksUptoCard

/-- THE SECOND FORM's CARD OF 'geyserlaw02.PackedXors'. -/
def packedXorsUptoCard : Claim7 := { stood := { row := packedXorsUptoRow, standIns := [], harness := (true, "0ff9276a1d0a88e41953b1d01b4ba1011f3c92d687a0639ea441b12286e2f92a"), looks := true }, kinds := [], alts := [], laidByText := true, laidKinds := [.data, .handle], laidTests := true, laidLooks := .later }
def PackedXorsUptoCardSaid : Prop := Claim7.holds Tryd.pinned (.plain (OpenSpec.upto packedXorsSpec)) packedXorsUptoCard

/-- THE SECOND FORM's CARD OF 'geyserlaw02.PackedBack'. -/
def packedBackUptoCard : Claim7 := { stood := { row := packedBackUptoRow, standIns := [], harness := (true, "0ff9276a1d0a88e41953b1d01b4ba1011f3c92d687a0639ea441b12286e2f92a"), looks := true }, kinds := [], alts := [], laidByText := true, laidKinds := [.data], laidTests := true, laidLooks := .later }
def PackedBackUptoCardSaid : Prop := Claim7.holds Tryd.pinned (.plain (OpenSpec.upto packedBackSpec)) packedBackUptoCard

/-- THE SECOND FORM's CARD OF 'geyserlaw02.PackedTwice'. -/
def packedTwiceUptoCard : Claim7 := { stood := { row := packedTwiceUptoRow, standIns := [], harness := (true, "0ff9276a1d0a88e41953b1d01b4ba1011f3c92d687a0639ea441b12286e2f92a"), looks := true }, kinds := [], alts := [], laidByText := true, laidKinds := [.data], laidTests := true, laidLooks := .later }
def PackedTwiceUptoCardSaid : Prop := Claim7.holds Tryd.pinned (.plain (OpenSpec.upto packedTwiceSpec)) packedTwiceUptoCard

/-- THE SECOND FORM's CARD OF 'geyserlaw02.PackedOdd'. -/
def packedOddUptoCard : Claim7 := { stood := { row := packedOddUptoRow, standIns := [], harness := (true, "0ff9276a1d0a88e41953b1d01b4ba1011f3c92d687a0639ea441b12286e2f92a"), looks := true }, kinds := [], alts := [], laidByText := true, laidKinds := [.data], laidTests := true, laidLooks := .later }
def PackedOddUptoCardSaid : Prop := Claim7.holds Tryd.pinned (.plain (OpenSpec.upto packedOddSpec)) packedOddUptoCard
end Rows
end Go.Proofs.YtdmgcnmapglhiaaDoor
