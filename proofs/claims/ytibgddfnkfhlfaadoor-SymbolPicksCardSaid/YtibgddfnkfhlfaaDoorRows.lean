/-
  NARROWER THAN 'FOR EVERY INPUT', by the rows' own cells (each row's printed sentence says how): SymbolXors: laid · SymbolSums: laid · SymbolPicks: laid · SymbolSplits: laid.
  DERIVED. THE GIVEN ROWS OF THIS SEAT. 4 by the template 'for every input the law returns true; each argument reads behind the call as it read before'; 0 by the template 'total and deterministic' (their statements: YtibgddfnkfhlfaaDoorTotals.lean).
  GIVEN WITH THE SEED: the statements are not yours to turn. If you find one false, say at which input.
  Laid BY PROGRAM, IN A SANDBOX (cutbox-rows.mjs): the forced cells as the released guide's own fill.sh prints them over the translation 5260e0b43c5a9346… (all of the seat's roots in one cut). By AI agents, Wed Nov 11 2026. No macro, syntax, notation, axiom, sorry.
-/
import Derived.Test.YtibgddfnkfhlfaaDoorChecked
import GoSem.Claim
import GoSem.ClaimJoined
import GoSem.ClaimMapViews
import Derived.JoinedTies
import Derived.KernelRfl
namespace Go.Proofs.YtibgddfnkfhlfaaDoor
/- THE CELL 'sum', in the pinned program and in every row, IS THE sha256 OF THE DUMP (.gsa) THAT YtibgddfnkfhlfaaDoorProg.lean LOADS. Nothing in Lean hashes anything: it is a label: what it is worth is what the hold of that sum in a sandbox is worth. -/
noncomputable def Tryd.pinned : Pinned := { name := "ytibgddfnkfhlfaadoor", sum := "5260e0b43c5a9346e739e2d6f66fa5b9659ffb1cfd1c0734ec1c87fba62853b0", checked := Tryd.checked }
namespace Rows
def none {H : Type} : Left H := { results := [], args := [] }

/- WHAT THE LISTED PACKAGE-LEVEL VARIABLES READ AS WHEN THE CALL BEGINS. Each datum BY PROGRAM (the guide's laid-datum.mjs) off the statement by which the dump's own 'gosem.cut.vars' lays the variable. In a bare row this is a premise. The card (YtibgddfnkfhlfaaDoorCards.lean) ties it to the program's text. -/
def laid_errors_errorType {H : Type} : DataW H := .iface "internal/reflectlite.rtype" (.agg [.ptr (.lit (.string [101, 114, 114, 111, 114]))])

/-- 'geyserlaw04.SymbolXors': WHATEVER THE INPUT: true; the input reads as it did. -/
def symbolXorsSpec : ChangeSpec := { name := "symbolXors", fn := fun _ => fun
  | [d1, d2] => { results := [.lit (.bool true)], args := [d1, d2] }
  | _ => none }
def symbolXorsRow : OpenClaim := { program := "ytibgddfnkfhlfaadoor", sum := "5260e0b43c5a9346e739e2d6f66fa5b9659ffb1cfd1c0734ec1c87fba62853b0", func := "geyser/geyserlaw04.SymbolXors", spec := "symbolXors", inPlace := ["internal/reflectlite.ValueOf", "(internal/reflectlite.Value).Type", "(internal/reflectlite.Value).IsNil", "internal/reflectlite.TypeOf", "(internal/reflectlite.Value).Elem", "(internal/reflectlite.Value).Set"], unfollowed := true, recurses := true, named := ["errors.errorType"], apart := false, laid := [("errors.errorType", laid_errors_errorType)] }
def SymbolXorsSaid : Prop := symbolXorsRow.holds Tryd.pinned (OpenSpec.ofChange symbolXorsSpec)

/-- ITS FALSE NEIGHBOUR: 'it returns false'. Refute it at one input. -/
def symbolXorsWrong : ChangeSpec := { name := "symbolXors", fn := fun _ => fun
  | [d1, d2] => { results := [.lit (.bool false)], args := [d1, d2] }
  | _ => none }
def SymbolXorsWrongFalsely : Prop := symbolXorsRow.holds Tryd.pinned (OpenSpec.ofChange symbolXorsWrong)

/-- 'geyserlaw04.SymbolSums': WHATEVER THE INPUT: true; the input reads as it did. -/
def symbolSumsSpec : ChangeSpec := { name := "symbolSums", fn := fun _ => fun
  | [d1, d2] => { results := [.lit (.bool true)], args := [d1, d2] }
  | _ => none }
def symbolSumsRow : OpenClaim := { program := "ytibgddfnkfhlfaadoor", sum := "5260e0b43c5a9346e739e2d6f66fa5b9659ffb1cfd1c0734ec1c87fba62853b0", func := "geyser/geyserlaw04.SymbolSums", spec := "symbolSums", inPlace := ["internal/reflectlite.ValueOf", "(internal/reflectlite.Value).Type", "(internal/reflectlite.Value).IsNil", "internal/reflectlite.TypeOf", "(internal/reflectlite.Value).Elem", "(internal/reflectlite.Value).Set"], unfollowed := true, recurses := true, named := ["errors.errorType"], apart := false, laid := [("errors.errorType", laid_errors_errorType)] }
def SymbolSumsSaid : Prop := symbolSumsRow.holds Tryd.pinned (OpenSpec.ofChange symbolSumsSpec)

/-- ITS FALSE NEIGHBOUR: 'it returns false'. Refute it at one input. -/
def symbolSumsWrong : ChangeSpec := { name := "symbolSums", fn := fun _ => fun
  | [d1, d2] => { results := [.lit (.bool false)], args := [d1, d2] }
  | _ => none }
def SymbolSumsWrongFalsely : Prop := symbolSumsRow.holds Tryd.pinned (OpenSpec.ofChange symbolSumsWrong)

/-- 'geyserlaw04.SymbolPicks': WHATEVER THE INPUT: true; the input reads as it did. -/
def symbolPicksSpec : ChangeSpec := { name := "symbolPicks", fn := fun _ => fun
  | [d1, d2, d3] => { results := [.lit (.bool true)], args := [d1, d2, d3] }
  | _ => none }
def symbolPicksRow : OpenClaim := { program := "ytibgddfnkfhlfaadoor", sum := "5260e0b43c5a9346e739e2d6f66fa5b9659ffb1cfd1c0734ec1c87fba62853b0", func := "geyser/geyserlaw04.SymbolPicks", spec := "symbolPicks", inPlace := ["internal/reflectlite.ValueOf", "(internal/reflectlite.Value).Type", "(internal/reflectlite.Value).IsNil", "internal/reflectlite.TypeOf", "(internal/reflectlite.Value).Elem", "(internal/reflectlite.Value).Set"], unfollowed := true, recurses := true, named := ["errors.errorType"], apart := false, laid := [("errors.errorType", laid_errors_errorType)] }
def SymbolPicksSaid : Prop := symbolPicksRow.holds Tryd.pinned (OpenSpec.ofChange symbolPicksSpec)

/-- ITS FALSE NEIGHBOUR: 'it returns false'. Refute it at one input. -/
def symbolPicksWrong : ChangeSpec := { name := "symbolPicks", fn := fun _ => fun
  | [d1, d2, d3] => { results := [.lit (.bool false)], args := [d1, d2, d3] }
  | _ => none }
def SymbolPicksWrongFalsely : Prop := symbolPicksRow.holds Tryd.pinned (OpenSpec.ofChange symbolPicksWrong)

/-- 'geyserlaw04.SymbolSplits': WHATEVER THE INPUT: true; the input reads as it did. -/
def symbolSplitsSpec : ChangeSpec := { name := "symbolSplits", fn := fun _ => fun
  | [d1, d2] => { results := [.lit (.bool true)], args := [d1, d2] }
  | _ => none }
def symbolSplitsRow : OpenClaim := { program := "ytibgddfnkfhlfaadoor", sum := "5260e0b43c5a9346e739e2d6f66fa5b9659ffb1cfd1c0734ec1c87fba62853b0", func := "geyser/geyserlaw04.SymbolSplits", spec := "symbolSplits", inPlace := ["internal/reflectlite.ValueOf", "(internal/reflectlite.Value).Type", "(internal/reflectlite.Value).IsNil", "internal/reflectlite.TypeOf", "(internal/reflectlite.Value).Elem", "(internal/reflectlite.Value).Set"], unfollowed := true, recurses := true, named := ["errors.errorType"], apart := false, laid := [("errors.errorType", laid_errors_errorType)] }
def SymbolSplitsSaid : Prop := symbolSplitsRow.holds Tryd.pinned (OpenSpec.ofChange symbolSplitsSpec)

/-- ITS FALSE NEIGHBOUR: 'it returns false'. Refute it at one input. -/
def symbolSplitsWrong : ChangeSpec := { name := "symbolSplits", fn := fun _ => fun
  | [d1, d2] => { results := [.lit (.bool false)], args := [d1, d2] }
  | _ => none }
def SymbolSplitsWrongFalsely : Prop := symbolSplitsRow.holds Tryd.pinned (OpenSpec.ofChange symbolSplitsWrong)

/- THE SECOND FORM. 'bulk': how many values and letters a reading holds, each counted each time it is reached (what is shared counts as often as it is met; a slice's spare places count too). A statement '..UptoSaid' is the law's where the arguments, and the package variables that the reading takes, are together of bulk at most 1048576: NARROWER than '..Said'. Prove '..Said' where nothing that the law and all that it calls make is longer than what came in: it says more and counts as full. Else prove '..UptoSaid'. A law counts once. -/
mutual
def uptoBulk {H : Type} : DataW H → Nat
  | .lit (.string bytes) => bytes.length + 1
  | .lit _ => 1
  | .nil => 1
  | .ptr d => uptoBulk d + 1
  | .slice elems spare => uptoBulkAll elems + uptoBulkAll spare + 1
  | .agg parts => uptoBulkAll parts + 1
  | .iface _ d => uptoBulk d + 1
  | .map entries => uptoBulkEntries entries + 1
  | .held _ => 1
def uptoBulkAll {H : Type} : List (DataW H) → Nat
  | [] => 0
  | d :: r => uptoBulk d + uptoBulkAll r
def uptoBulkEntries {H : Type} : List (Lit × DataW H) → Nat
  | [] => 0
  | x :: r => uptoBulkEntry x + uptoBulkEntries r
def uptoBulkEntry {H : Type} : Lit × DataW H → Nat
  | (.string bytes, d) => bytes.length + uptoBulk d + 1
  | (_, d) => uptoBulk d + 1
 end
def uptoSmall : (H : Type) → List (DataW H) → Bool := fun _ ds => decide (uptoBulkAll ds ≤ 1048576)
def OpenSpec.upto (s : _root_.Go.ChangeSpec) : _root_.Go.OpenSpec := { _root_.Go.OpenSpec.ofChange s with cond := some uptoSmall }

/-- 'geyserlaw04.SymbolXors', WHERE WHAT IT READS IS OF BULK AT MOST 1048576: true; the input reads as it did. -/
def symbolXorsUptoRow : OpenClaim := { program := "ytibgddfnkfhlfaadoor", sum := "5260e0b43c5a9346e739e2d6f66fa5b9659ffb1cfd1c0734ec1c87fba62853b0", func := "geyser/geyserlaw04.SymbolXors", spec := "symbolXors", inPlace := ["internal/reflectlite.ValueOf", "(internal/reflectlite.Value).Type", "(internal/reflectlite.Value).IsNil", "internal/reflectlite.TypeOf", "(internal/reflectlite.Value).Elem", "(internal/reflectlite.Value).Set"], unfollowed := true, recurses := true, named := ["errors.errorType"], apart := false, laid := [("errors.errorType", laid_errors_errorType)], narrowed := true }
def SymbolXorsUptoSaid : Prop := symbolXorsUptoRow.holds Tryd.pinned (OpenSpec.upto symbolXorsSpec)

/-- 'geyserlaw04.SymbolSums', WHERE WHAT IT READS IS OF BULK AT MOST 1048576: true; the input reads as it did. -/
def symbolSumsUptoRow : OpenClaim := { program := "ytibgddfnkfhlfaadoor", sum := "5260e0b43c5a9346e739e2d6f66fa5b9659ffb1cfd1c0734ec1c87fba62853b0", func := "geyser/geyserlaw04.SymbolSums", spec := "symbolSums", inPlace := ["internal/reflectlite.ValueOf", "(internal/reflectlite.Value).Type", "(internal/reflectlite.Value).IsNil", "internal/reflectlite.TypeOf", "(internal/reflectlite.Value).Elem", "(internal/reflectlite.Value).Set"], unfollowed := true, recurses := true, named := ["errors.errorType"], apart := false, laid := [("errors.errorType", laid_errors_errorType)], narrowed := true }
def SymbolSumsUptoSaid : Prop := symbolSumsUptoRow.holds Tryd.pinned (OpenSpec.upto symbolSumsSpec)

/-- 'geyserlaw04.SymbolPicks', WHERE WHAT IT READS IS OF BULK AT MOST 1048576: true; the input reads as it did. -/
def symbolPicksUptoRow : OpenClaim := { program := "ytibgddfnkfhlfaadoor", sum := "5260e0b43c5a9346e739e2d6f66fa5b9659ffb1cfd1c0734ec1c87fba62853b0", func := "geyser/geyserlaw04.SymbolPicks", spec := "symbolPicks", inPlace := ["internal/reflectlite.ValueOf", "(internal/reflectlite.Value).Type", "(internal/reflectlite.Value).IsNil", "internal/reflectlite.TypeOf", "(internal/reflectlite.Value).Elem", "(internal/reflectlite.Value).Set"], unfollowed := true, recurses := true, named := ["errors.errorType"], apart := false, laid := [("errors.errorType", laid_errors_errorType)], narrowed := true }
def SymbolPicksUptoSaid : Prop := symbolPicksUptoRow.holds Tryd.pinned (OpenSpec.upto symbolPicksSpec)

/-- 'geyserlaw04.SymbolSplits', WHERE WHAT IT READS IS OF BULK AT MOST 1048576: true; the input reads as it did. -/
def symbolSplitsUptoRow : OpenClaim := { program := "ytibgddfnkfhlfaadoor", sum := "5260e0b43c5a9346e739e2d6f66fa5b9659ffb1cfd1c0734ec1c87fba62853b0", func := "geyser/geyserlaw04.SymbolSplits", spec := "symbolSplits", inPlace := ["internal/reflectlite.ValueOf", "(internal/reflectlite.Value).Type", "(internal/reflectlite.Value).IsNil", "internal/reflectlite.TypeOf", "(internal/reflectlite.Value).Elem", "(internal/reflectlite.Value).Set"], unfollowed := true, recurses := true, named := ["errors.errorType"], apart := false, laid := [("errors.errorType", laid_errors_errorType)], narrowed := true }
def SymbolSplitsUptoSaid : Prop := symbolSplitsUptoRow.holds Tryd.pinned (OpenSpec.upto symbolSplitsSpec)

end Rows
end Go.Proofs.YtibgddfnkfhlfaaDoor
