/-
  NARROWER THAN 'FOR EVERY INPUT', by the rows' own cells (each row's printed sentence says how): SenderChecks: laid · SenderPlays: laid · SenderOnce: laid · SenderPlaces: laid · SenderSource: laid · SenderNil: laid.
  DERIVED. THE GIVEN ROWS OF THIS SEAT. 6 by the template 'for every input the law returns true; each argument reads behind the call as it read before'; 0 by the template 'total and deterministic' (their statements: YtkfimdpcadbcpaaGreatDoorTotals.lean).
  GIVEN WITH THE SEED: the statements are not yours to turn. If you find one false, say at which input.
  Laid BY PROGRAM, IN A SANDBOX (cutbox-rows.mjs): the forced cells as the released guide's own fill.sh prints them over the translation d5ffd3ef9cfbd5bf… (all of the seat's roots in one cut). By AI agents, Wed Nov 11 2026. No macro, syntax, notation, axiom, sorry.
-/
import Derived.Test.YtkfimdpcadbcpaaGreatDoorChecked
import GoSem.Claim
import GoSem.ClaimJoined
import GoSem.ClaimMapViews
import Derived.JoinedTies
import Derived.KernelRfl
namespace Go.Proofs.YtkfimdpcadbcpaaGreatDoor
/- THE CELL 'sum', in the pinned program and in every row, IS THE sha256 OF THE DUMP (.gsa) THAT YtkfimdpcadbcpaaGreatDoorProg.lean LOADS. Nothing in Lean hashes anything: it is a label: what it is worth is what the hold of that sum in a sandbox is worth. -/
noncomputable def Tryz.pinned : Pinned := { name := "ytkfimdpcadbcpaagreatdoor", sum := "d5ffd3ef9cfbd5bf2520d17abd1210eca8b0a3273818b182ed9a44664d1ca85d", checked := Tryz.checked }
namespace Rows
def none {H : Type} : Left H := { results := [], args := [] }

/- WHAT THE LISTED PACKAGE-LEVEL VARIABLES READ AS WHEN THE CALL BEGINS. Each datum BY PROGRAM (the guide's laid-datum.mjs) off the statement by which the dump's own 'gosem.cut.vars' lays the variable. In a bare row this is a premise. The card (YtkfimdpcadbcpaaGreatDoorCards.lean) ties it to the program's text. -/
def laid_math_bits_deBruijn64tab {H : Type} : DataW H := .agg [.lit (.int .u8 0), .lit (.int .u8 1), .lit (.int .u8 56), .lit (.int .u8 2), .lit (.int .u8 57), .lit (.int .u8 49), .lit (.int .u8 28), .lit (.int .u8 3), .lit (.int .u8 61), .lit (.int .u8 58), .lit (.int .u8 42), .lit (.int .u8 50), .lit (.int .u8 38), .lit (.int .u8 29), .lit (.int .u8 17), .lit (.int .u8 4), .lit (.int .u8 62), .lit (.int .u8 47), .lit (.int .u8 59), .lit (.int .u8 36), .lit (.int .u8 45), .lit (.int .u8 43), .lit (.int .u8 51), .lit (.int .u8 22), .lit (.int .u8 53), .lit (.int .u8 39), .lit (.int .u8 33), .lit (.int .u8 30), .lit (.int .u8 24), .lit (.int .u8 18), .lit (.int .u8 12), .lit (.int .u8 5), .lit (.int .u8 63), .lit (.int .u8 55), .lit (.int .u8 48), .lit (.int .u8 27), .lit (.int .u8 60), .lit (.int .u8 41), .lit (.int .u8 37), .lit (.int .u8 16), .lit (.int .u8 46), .lit (.int .u8 35), .lit (.int .u8 44), .lit (.int .u8 21), .lit (.int .u8 52), .lit (.int .u8 32), .lit (.int .u8 23), .lit (.int .u8 11), .lit (.int .u8 54), .lit (.int .u8 26), .lit (.int .u8 40), .lit (.int .u8 15), .lit (.int .u8 34), .lit (.int .u8 20), .lit (.int .u8 31), .lit (.int .u8 10), .lit (.int .u8 25), .lit (.int .u8 14), .lit (.int .u8 19), .lit (.int .u8 9), .lit (.int .u8 13), .lit (.int .u8 8), .lit (.int .u8 7), .lit (.int .u8 6)]
def laid_errors_errorType {H : Type} : DataW H := .iface "internal/reflectlite.rtype" (.agg [.ptr (.lit (.string [101, 114, 114, 111, 114]))])
def laid_geyser_degree_table {H : Type} : DataW H := .agg [.agg [.lit (.int .i64 10241), .lit (.int .i64 1)], .agg [.lit (.int .i64 491582), .lit (.int .i64 2)], .agg [.lit (.int .i64 712794), .lit (.int .i64 3)], .agg [.lit (.int .i64 831695), .lit (.int .i64 4)], .agg [.lit (.int .i64 948446), .lit (.int .i64 10)], .agg [.lit (.int .i64 1032189), .lit (.int .i64 11)], .agg [.lit (.int .i64 1048576), .lit (.int .i64 40)]]

/-- 'geyserlaw19.SenderChecks': WHATEVER THE INPUT: true; the input reads as it did. -/
def senderChecksSpec : ChangeSpec := { name := "senderChecks", fn := fun _ => fun
  | [d1, d2] => { results := [.lit (.bool true)], args := [d1, d2] }
  | _ => none }
def senderChecksRow : OpenClaim := { program := "ytkfimdpcadbcpaagreatdoor", sum := "d5ffd3ef9cfbd5bf2520d17abd1210eca8b0a3273818b182ed9a44664d1ca85d", func := "geyser/geyserlaw19.SenderChecks", spec := "senderChecks", inPlace := ["internal/reflectlite.ValueOf", "(internal/reflectlite.Value).Type", "(internal/reflectlite.Value).IsNil", "internal/reflectlite.TypeOf", "(internal/reflectlite.Value).Elem", "(internal/reflectlite.Value).Set"], unfollowed := true, recurses := true, named := ["errors.errorType", "math/bits.deBruijn64tab", "geyser/degree.table"], apart := false, laid := [("math/bits.deBruijn64tab", laid_math_bits_deBruijn64tab), ("errors.errorType", laid_errors_errorType), ("geyser/degree.table", laid_geyser_degree_table)] }
def SenderChecksSaid : Prop := senderChecksRow.holds Tryz.pinned (OpenSpec.ofChange senderChecksSpec)

/-- ITS FALSE NEIGHBOUR: 'it returns false'. Refute it at one input. -/
def senderChecksWrong : ChangeSpec := { name := "senderChecks", fn := fun _ => fun
  | [d1, d2] => { results := [.lit (.bool false)], args := [d1, d2] }
  | _ => none }
def SenderChecksWrongFalsely : Prop := senderChecksRow.holds Tryz.pinned (OpenSpec.ofChange senderChecksWrong)

/-- 'geyserlaw19.SenderPlays': WHATEVER THE INPUT: true; the input reads as it did. -/
def senderPlaysSpec : ChangeSpec := { name := "senderPlays", fn := fun _ => fun
  | [d1, d2, d3] => { results := [.lit (.bool true)], args := [d1, d2, d3] }
  | _ => none }
def senderPlaysRow : OpenClaim := { program := "ytkfimdpcadbcpaagreatdoor", sum := "d5ffd3ef9cfbd5bf2520d17abd1210eca8b0a3273818b182ed9a44664d1ca85d", func := "geyser/geyserlaw19.SenderPlays", spec := "senderPlays", inPlace := ["internal/reflectlite.TypeOf", "internal/reflectlite.ValueOf", "(internal/reflectlite.Value).Type", "(internal/reflectlite.Value).IsNil", "(internal/reflectlite.Value).Elem", "(internal/reflectlite.Value).Set"], unfollowed := true, recurses := true, named := ["math/bits.deBruijn64tab", "geyser/degree.table", "errors.errorType"], apart := false, laid := [("math/bits.deBruijn64tab", laid_math_bits_deBruijn64tab), ("errors.errorType", laid_errors_errorType), ("geyser/degree.table", laid_geyser_degree_table)] }
def SenderPlaysSaid : Prop := senderPlaysRow.holds Tryz.pinned (OpenSpec.ofChange senderPlaysSpec)

/-- ITS FALSE NEIGHBOUR: 'it returns false'. Refute it at one input. -/
def senderPlaysWrong : ChangeSpec := { name := "senderPlays", fn := fun _ => fun
  | [d1, d2, d3] => { results := [.lit (.bool false)], args := [d1, d2, d3] }
  | _ => none }
def SenderPlaysWrongFalsely : Prop := senderPlaysRow.holds Tryz.pinned (OpenSpec.ofChange senderPlaysWrong)

/-- 'geyserlaw19.SenderOnce': WHATEVER THE INPUT: true; the input reads as it did. -/
def senderOnceSpec : ChangeSpec := { name := "senderOnce", fn := fun _ => fun
  | [d1, d2] => { results := [.lit (.bool true)], args := [d1, d2] }
  | _ => none }
def senderOnceRow : OpenClaim := { program := "ytkfimdpcadbcpaagreatdoor", sum := "d5ffd3ef9cfbd5bf2520d17abd1210eca8b0a3273818b182ed9a44664d1ca85d", func := "geyser/geyserlaw19.SenderOnce", spec := "senderOnce", inPlace := ["internal/reflectlite.TypeOf"], unfollowed := true, recurses := true, named := ["math/bits.deBruijn64tab", "geyser/degree.table"], apart := false, laid := [("math/bits.deBruijn64tab", laid_math_bits_deBruijn64tab), ("geyser/degree.table", laid_geyser_degree_table)] }
def SenderOnceSaid : Prop := senderOnceRow.holds Tryz.pinned (OpenSpec.ofChange senderOnceSpec)

/-- ITS FALSE NEIGHBOUR: 'it returns false'. Refute it at one input. -/
def senderOnceWrong : ChangeSpec := { name := "senderOnce", fn := fun _ => fun
  | [d1, d2] => { results := [.lit (.bool false)], args := [d1, d2] }
  | _ => none }
def SenderOnceWrongFalsely : Prop := senderOnceRow.holds Tryz.pinned (OpenSpec.ofChange senderOnceWrong)

/-- 'geyserlaw19.SenderPlaces': WHATEVER THE INPUT: true; the input reads as it did. -/
def senderPlacesSpec : ChangeSpec := { name := "senderPlaces", fn := fun _ => fun
  | [d] => { results := [.lit (.bool true)], args := [d] }
  | _ => none }
def senderPlacesRow : OpenClaim := { program := "ytkfimdpcadbcpaagreatdoor", sum := "d5ffd3ef9cfbd5bf2520d17abd1210eca8b0a3273818b182ed9a44664d1ca85d", func := "geyser/geyserlaw19.SenderPlaces", spec := "senderPlaces", inPlace := ["internal/reflectlite.TypeOf"], unfollowed := true, recurses := true, named := ["math/bits.deBruijn64tab", "geyser/degree.table"], apart := false, laid := [("math/bits.deBruijn64tab", laid_math_bits_deBruijn64tab), ("geyser/degree.table", laid_geyser_degree_table)] }
def SenderPlacesSaid : Prop := senderPlacesRow.holds Tryz.pinned (OpenSpec.ofChange senderPlacesSpec)

/-- ITS FALSE NEIGHBOUR: 'it returns false'. Refute it at one input. -/
def senderPlacesWrong : ChangeSpec := { name := "senderPlaces", fn := fun _ => fun
  | [d] => { results := [.lit (.bool false)], args := [d] }
  | _ => none }
def SenderPlacesWrongFalsely : Prop := senderPlacesRow.holds Tryz.pinned (OpenSpec.ofChange senderPlacesWrong)

/-- 'geyserlaw19.SenderSource': WHATEVER THE INPUT: true; the input reads as it did. -/
def senderSourceSpec : ChangeSpec := { name := "senderSource", fn := fun _ => fun
  | [d] => { results := [.lit (.bool true)], args := [d] }
  | _ => none }
def senderSourceRow : OpenClaim := { program := "ytkfimdpcadbcpaagreatdoor", sum := "d5ffd3ef9cfbd5bf2520d17abd1210eca8b0a3273818b182ed9a44664d1ca85d", func := "geyser/geyserlaw19.SenderSource", spec := "senderSource", inPlace := ["internal/reflectlite.TypeOf"], unfollowed := true, recurses := true, named := ["math/bits.deBruijn64tab", "geyser/degree.table"], apart := false, laid := [("math/bits.deBruijn64tab", laid_math_bits_deBruijn64tab), ("geyser/degree.table", laid_geyser_degree_table)] }
def SenderSourceSaid : Prop := senderSourceRow.holds Tryz.pinned (OpenSpec.ofChange senderSourceSpec)

/-- ITS FALSE NEIGHBOUR: 'it returns false'. Refute it at one input. -/
def senderSourceWrong : ChangeSpec := { name := "senderSource", fn := fun _ => fun
  | [d] => { results := [.lit (.bool false)], args := [d] }
  | _ => none }
def SenderSourceWrongFalsely : Prop := senderSourceRow.holds Tryz.pinned (OpenSpec.ofChange senderSourceWrong)

/-- 'geyserlaw19.SenderNil': WHATEVER THE INPUT: true; the input reads as it did. -/
def senderNilSpec : ChangeSpec := { name := "senderNil", fn := fun _ => fun
  | [d] => { results := [.lit (.bool true)], args := [d] }
  | _ => none }
def senderNilRow : OpenClaim := { program := "ytkfimdpcadbcpaagreatdoor", sum := "d5ffd3ef9cfbd5bf2520d17abd1210eca8b0a3273818b182ed9a44664d1ca85d", func := "geyser/geyserlaw19.SenderNil", spec := "senderNil", inPlace := ["internal/reflectlite.TypeOf", "internal/reflectlite.ValueOf", "(internal/reflectlite.Value).Type", "(internal/reflectlite.Value).IsNil", "(internal/reflectlite.Value).Elem", "(internal/reflectlite.Value).Set"], unfollowed := true, recurses := true, named := ["geyser/degree.table", "errors.errorType", "math/bits.deBruijn64tab"], apart := false, laid := [("math/bits.deBruijn64tab", laid_math_bits_deBruijn64tab), ("errors.errorType", laid_errors_errorType), ("geyser/degree.table", laid_geyser_degree_table)] }
def SenderNilSaid : Prop := senderNilRow.holds Tryz.pinned (OpenSpec.ofChange senderNilSpec)

/-- ITS FALSE NEIGHBOUR: 'it returns false'. Refute it at one input. -/
def senderNilWrong : ChangeSpec := { name := "senderNil", fn := fun _ => fun
  | [d] => { results := [.lit (.bool false)], args := [d] }
  | _ => none }
def SenderNilWrongFalsely : Prop := senderNilRow.holds Tryz.pinned (OpenSpec.ofChange senderNilWrong)

/- THE SECOND FORM. 'bulk': how many values and letters a reading holds, each counted each time it is reached (what is shared counts as often as it is met; a slice's spare places count too). A statement '..UptoSaid' is the law's where the arguments, and the package variables that the reading takes, are together of bulk at most 1048576: NARROWER than '..Said'. Prove '..Said' where nothing that the law and all that it calls make is longer than what came in: it says more and counts as full. Else prove '..UptoSaid'. A law counts once. -/
mutual
def uptoBulk {H : Type} : DataW H → Nat
  | .lit (.string bytes) => bytes.length + 1
  | .lit _ => 1
  | .nil => 1
  | .ptr d => uptoBulk d + 1
  | .slice elems spare => uptoBulkAll elems + uptoBulkAll spare + 1
  | .agg parts => uptoBulkAll parts + 1
  | .iface _ d => uptoBulk d + 1
  | .map entries => uptoBulkEntries entries + 1
  | .held _ => 1
def uptoBulkAll {H : Type} : List (DataW H) → Nat
  | [] => 0
  | d :: r => uptoBulk d + uptoBulkAll r
def uptoBulkEntries {H : Type} : List (Lit × DataW H) → Nat
  | [] => 0
  | x :: r => uptoBulkEntry x + uptoBulkEntries r
def uptoBulkEntry {H : Type} : Lit × DataW H → Nat
  | (.string bytes, d) => bytes.length + uptoBulk d + 1
  | (_, d) => uptoBulk d + 1
 end
def uptoSmall : (H : Type) → List (DataW H) → Bool := fun _ ds => decide (uptoBulkAll ds ≤ 1048576)
def OpenSpec.upto (s : _root_.Go.ChangeSpec) : _root_.Go.OpenSpec := { _root_.Go.OpenSpec.ofChange s with cond := some uptoSmall }

/-- 'geyserlaw19.SenderChecks', WHERE WHAT IT READS IS OF BULK AT MOST 1048576: true; the input reads as it did. -/
def senderChecksUptoRow : OpenClaim := { program := "ytkfimdpcadbcpaagreatdoor", sum := "d5ffd3ef9cfbd5bf2520d17abd1210eca8b0a3273818b182ed9a44664d1ca85d", func := "geyser/geyserlaw19.SenderChecks", spec := "senderChecks", inPlace := ["internal/reflectlite.ValueOf", "(internal/reflectlite.Value).Type", "(internal/reflectlite.Value).IsNil", "internal/reflectlite.TypeOf", "(internal/reflectlite.Value).Elem", "(internal/reflectlite.Value).Set"], unfollowed := true, recurses := true, named := ["errors.errorType", "math/bits.deBruijn64tab", "geyser/degree.table"], apart := false, laid := [("math/bits.deBruijn64tab", laid_math_bits_deBruijn64tab), ("errors.errorType", laid_errors_errorType), ("geyser/degree.table", laid_geyser_degree_table)], narrowed := true }
def SenderChecksUptoSaid : Prop := senderChecksUptoRow.holds Tryz.pinned (OpenSpec.upto senderChecksSpec)

/-- 'geyserlaw19.SenderPlays', WHERE WHAT IT READS IS OF BULK AT MOST 1048576: true; the input reads as it did. -/
def senderPlaysUptoRow : OpenClaim := { program := "ytkfimdpcadbcpaagreatdoor", sum := "d5ffd3ef9cfbd5bf2520d17abd1210eca8b0a3273818b182ed9a44664d1ca85d", func := "geyser/geyserlaw19.SenderPlays", spec := "senderPlays", inPlace := ["internal/reflectlite.TypeOf", "internal/reflectlite.ValueOf", "(internal/reflectlite.Value).Type", "(internal/reflectlite.Value).IsNil", "(internal/reflectlite.Value).Elem", "(internal/reflectlite.Value).Set"], unfollowed := true, recurses := true, named := ["math/bits.deBruijn64tab", "geyser/degree.table", "errors.errorType"], apart := false, laid := [("math/bits.deBruijn64tab", laid_math_bits_deBruijn64tab), ("errors.errorType", laid_errors_errorType), ("geyser/degree.table", laid_geyser_degree_table)], narrowed := true }
def SenderPlaysUptoSaid : Prop := senderPlaysUptoRow.holds Tryz.pinned (OpenSpec.upto senderPlaysSpec)

/-- 'geyserlaw19.SenderOnce', WHERE WHAT IT READS IS OF BULK AT MOST 1048576: true; the input reads as it did. -/
def senderOnceUptoRow : OpenClaim := { program := "ytkfimdpcadbcpaagreatdoor", sum := "d5ffd3ef9cfbd5bf2520d17abd1210eca8b0a3273818b182ed9a44664d1ca85d", func := "geyser/geyserlaw19.SenderOnce", spec := "senderOnce", inPlace := ["internal/reflectlite.TypeOf"], unfollowed := true, recurses := true, named := ["math/bits.deBruijn64tab", "geyser/degree.table"], apart := false, laid := [("math/bits.deBruijn64tab", laid_math_bits_deBruijn64tab), ("geyser/degree.table", laid_geyser_degree_table)], narrowed := true }
def SenderOnceUptoSaid : Prop := senderOnceUptoRow.holds Tryz.pinned (OpenSpec.upto senderOnceSpec)

/-- 'geyserlaw19.SenderPlaces', WHERE WHAT IT READS IS OF BULK AT MOST 1048576: true; the input reads as it did. -/
def senderPlacesUptoRow : OpenClaim := { program := "ytkfimdpcadbcpaagreatdoor", sum := "d5ffd3ef9cfbd5bf2520d17abd1210eca8b0a3273818b182ed9a44664d1ca85d", func := "geyser/geyserlaw19.SenderPlaces", spec := "senderPlaces", inPlace := ["internal/reflectlite.TypeOf"], unfollowed := true, recurses := true, named := ["math/bits.deBruijn64tab", "geyser/degree.table"], apart := false, laid := [("math/bits.deBruijn64tab", laid_math_bits_deBruijn64tab), ("geyser/degree.table", laid_geyser_degree_table)], narrowed := true }
def SenderPlacesUptoSaid : Prop := senderPlacesUptoRow.holds Tryz.pinned (OpenSpec.upto senderPlacesSpec)

/-- 'geyserlaw19.SenderSource', WHERE WHAT IT READS IS OF BULK AT MOST 1048576: true; the input reads as it did. -/
def senderSourceUptoRow : OpenClaim := { program := "ytkfimdpcadbcpaagreatdoor", sum := "d5ffd3ef9cfbd5bf2520d17abd1210eca8b0a3273818b182ed9a44664d1ca85d", func := "geyser/geyserlaw19.SenderSource", spec := "senderSource", inPlace := ["internal/reflectlite.TypeOf"], unfollowed := true, recurses := true, named := ["math/bits.deBruijn64tab", "geyser/degree.table"], apart := false, laid := [("math/bits.deBruijn64tab", laid_math_bits_deBruijn64tab), ("geyser/degree.table", laid_geyser_degree_table)], narrowed := true }
def SenderSourceUptoSaid : Prop := senderSourceUptoRow.holds Tryz.pinned (OpenSpec.upto senderSourceSpec)

/-- 'geyserlaw19.SenderNil', WHERE WHAT IT READS IS OF BULK AT MOST 1048576: true; the input reads as it did. -/
def senderNilUptoRow : OpenClaim := { program := "ytkfimdpcadbcpaagreatdoor", sum := "d5ffd3ef9cfbd5bf2520d17abd1210eca8b0a3273818b182ed9a44664d1ca85d", func := "geyser/geyserlaw19.SenderNil", spec := "senderNil", inPlace := ["internal/reflectlite.TypeOf", "internal/reflectlite.ValueOf", "(internal/reflectlite.Value).Type", "(internal/reflectlite.Value).IsNil", "(internal/reflectlite.Value).Elem", "(internal/reflectlite.Value).Set"], unfollowed := true, recurses := true, named := ["geyser/degree.table", "errors.errorType", "math/bits.deBruijn64tab"], apart := false, laid := [("math/bits.deBruijn64tab", laid_math_bits_deBruijn64tab), ("errors.errorType", laid_errors_errorType), ("geyser/degree.table", laid_geyser_degree_table)], narrowed := true }
def SenderNilUptoSaid : Prop := senderNilUptoRow.holds Tryz.pinned (OpenSpec.upto senderNilSpec)

end Rows
end Go.Proofs.YtkfimdpcadbcpaaGreatDoor
