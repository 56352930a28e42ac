/-
  DERIVED. GIVEN WITH THE SEED: THE CARDS: each row of YtibgddfnkfhlfaaDoorRows.lean that lists a variable, with what it lists TIED to the program's text (the seventh form; the later family's looks); each row that meets fmt, with fmt's text TOLD by the authors' own Lean function (tested against real Go, not proved from fmt's source: count such statements apart). THE CARD IS WHAT COUNTS. Prove the row's statement (the work); the ties are given (YtibgddfnkfhlfaaDoorTie.lean); close each card by the builder's one call (the guide's Derived/Test/ToyasCard.lean, 'card_holds'). Laid BY PROGRAM, IN A SANDBOX (cutbox-door.mjs). By AI agents, Wed Nov 11 2026. No macro, syntax, notation, axiom, sorry.
-/
import Derived.Test.YtibgddfnkfhlfaaDoorRows
import GoSem.ClaimSeven
namespace Go.Proofs.YtibgddfnkfhlfaaDoor
namespace Rows

/-- THE TIED CARD OF 'geyserlaw04.SymbolXors'. -/
def symbolXorsCard : Claim7 := { stood := { row := symbolXorsRow, standIns := [], harness := (true, "243c478401da3517ca3c4071a999d4240bf6e468298ddb86f37ab4913453239c"), looks := true }, kinds := [], alts := [], laidByText := true, laidKinds := [.handle], laidTests := true, laidLooks := .later }
def SymbolXorsCardSaid : Prop := Claim7.holds Tryd.pinned (.plain (OpenSpec.ofChange symbolXorsSpec)) symbolXorsCard

/-- THE TIED CARD OF 'geyserlaw04.SymbolSums'. -/
def symbolSumsCard : Claim7 := { stood := { row := symbolSumsRow, standIns := [], harness := (true, "243c478401da3517ca3c4071a999d4240bf6e468298ddb86f37ab4913453239c"), looks := true }, kinds := [], alts := [], laidByText := true, laidKinds := [.handle], laidTests := true, laidLooks := .later }
def SymbolSumsCardSaid : Prop := Claim7.holds Tryd.pinned (.plain (OpenSpec.ofChange symbolSumsSpec)) symbolSumsCard

/-- THE TIED CARD OF 'geyserlaw04.SymbolPicks'. -/
def symbolPicksCard : Claim7 := { stood := { row := symbolPicksRow, standIns := [], harness := (true, "243c478401da3517ca3c4071a999d4240bf6e468298ddb86f37ab4913453239c"), looks := true }, kinds := [], alts := [], laidByText := true, laidKinds := [.handle], laidTests := true, laidLooks := .later }
def SymbolPicksCardSaid : Prop := Claim7.holds Tryd.pinned (.plain (OpenSpec.ofChange symbolPicksSpec)) symbolPicksCard

/-- THE TIED CARD OF 'geyserlaw04.SymbolSplits'. -/
def symbolSplitsCard : Claim7 := { stood := { row := symbolSplitsRow, standIns := [], harness := (true, "243c478401da3517ca3c4071a999d4240bf6e468298ddb86f37ab4913453239c"), looks := true }, kinds := [], alts := [], laidByText := true, laidKinds := [.handle], laidTests := true, laidLooks := .later }
def SymbolSplitsCardSaid : Prop := Claim7.holds Tryd.pinned (.plain (OpenSpec.ofChange symbolSplitsSpec)) symbolSplitsCard

/-- THE SECOND FORM's CARD OF 'geyserlaw04.SymbolXors'. -/
def symbolXorsUptoCard : Claim7 := { stood := { row := symbolXorsUptoRow, standIns := [], harness := (true, "243c478401da3517ca3c4071a999d4240bf6e468298ddb86f37ab4913453239c"), looks := true }, kinds := [], alts := [], laidByText := true, laidKinds := [.handle], laidTests := true, laidLooks := .later }
def SymbolXorsUptoCardSaid : Prop := Claim7.holds Tryd.pinned (.plain (OpenSpec.upto symbolXorsSpec)) symbolXorsUptoCard

/-- THE SECOND FORM's CARD OF 'geyserlaw04.SymbolSums'. -/
def symbolSumsUptoCard : Claim7 := { stood := { row := symbolSumsUptoRow, standIns := [], harness := (true, "243c478401da3517ca3c4071a999d4240bf6e468298ddb86f37ab4913453239c"), looks := true }, kinds := [], alts := [], laidByText := true, laidKinds := [.handle], laidTests := true, laidLooks := .later }
def SymbolSumsUptoCardSaid : Prop := Claim7.holds Tryd.pinned (.plain (OpenSpec.upto symbolSumsSpec)) symbolSumsUptoCard

/-- THE SECOND FORM's CARD OF 'geyserlaw04.SymbolPicks'. -/
def symbolPicksUptoCard : Claim7 := { stood := { row := symbolPicksUptoRow, standIns := [], harness := (true, "243c478401da3517ca3c4071a999d4240bf6e468298ddb86f37ab4913453239c"), looks := true }, kinds := [], alts := [], laidByText := true, laidKinds := [.handle], laidTests := true, laidLooks := .later }
def SymbolPicksUptoCardSaid : Prop := Claim7.holds Tryd.pinned (.plain (OpenSpec.upto symbolPicksSpec)) symbolPicksUptoCard

/-- THE SECOND FORM's CARD OF 'geyserlaw04.SymbolSplits'. -/
def symbolSplitsUptoCard : Claim7 := { stood := { row := symbolSplitsUptoRow, standIns := [], harness := (true, "243c478401da3517ca3c4071a999d4240bf6e468298ddb86f37ab4913453239c"), looks := true }, kinds := [], alts := [], laidByText := true, laidKinds := [.handle], laidTests := true, laidLooks := .later }
def SymbolSplitsUptoCardSaid : Prop := Claim7.holds Tryd.pinned (.plain (OpenSpec.upto symbolSplitsSpec)) symbolSplitsUptoCard
end Rows
end Go.Proofs.YtibgddfnkfhlfaaDoor
