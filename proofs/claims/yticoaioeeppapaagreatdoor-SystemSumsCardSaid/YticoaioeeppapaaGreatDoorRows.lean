/-
  NARROWER THAN 'FOR EVERY INPUT', by the rows' own cells (each row's printed sentence says how): SystemRows: laid · SystemSeeds: laid · SystemAll: laid · SystemMiddles: laid · SystemSums: laid · SystemRefuses: laid.
  DERIVED. THE GIVEN ROWS OF THIS SEAT. 6 by the template 'for every input the law returns true; each argument reads behind the call as it read before'; 0 by the template 'total and deterministic' (their statements: YticoaioeeppapaaGreatDoorTotals.lean).
  GIVEN WITH THE SEED: the statements are not yours to turn. If you find one false, say at which input.
  Laid BY PROGRAM, IN A SANDBOX (cutbox-rows.mjs): the forced cells as the released guide's own fill.sh prints them over the translation 8f87b0323c5528f0… (all of the seat's roots in one cut). By AI agents, Wed Nov 11 2026. No macro, syntax, notation, axiom, sorry.
-/
import Derived.Test.YticoaioeeppapaaGreatDoorChecked
import GoSem.Claim
import GoSem.ClaimJoined
import GoSem.ClaimMapViews
import Derived.JoinedTies
import Derived.KernelRfl
namespace Go.Proofs.YticoaioeeppapaaGreatDoor
/- THE CELL 'sum', in the pinned program and in every row, IS THE sha256 OF THE DUMP (.gsa) THAT YticoaioeeppapaaGreatDoorProg.lean LOADS. Nothing in Lean hashes anything: it is a label: what it is worth is what the hold of that sum in a sandbox is worth. -/
noncomputable def Tryz.pinned : Pinned := { name := "yticoaioeeppapaagreatdoor", sum := "8f87b0323c5528f0aaec1a53d7e9509adabeed421a9724d5db459fe36f985558", checked := Tryz.checked }
namespace Rows
def none {H : Type} : Left H := { results := [], args := [] }

/- WHAT THE LISTED PACKAGE-LEVEL VARIABLES READ AS WHEN THE CALL BEGINS. Each datum BY PROGRAM (the guide's laid-datum.mjs) off the statement by which the dump's own 'gosem.cut.vars' lays the variable. In a bare row this is a premise. The card (YticoaioeeppapaaGreatDoorCards.lean) ties it to the program's text. -/
def laid_math_bits_deBruijn64tab {H : Type} : DataW H := .agg [.lit (.int .u8 0), .lit (.int .u8 1), .lit (.int .u8 56), .lit (.int .u8 2), .lit (.int .u8 57), .lit (.int .u8 49), .lit (.int .u8 28), .lit (.int .u8 3), .lit (.int .u8 61), .lit (.int .u8 58), .lit (.int .u8 42), .lit (.int .u8 50), .lit (.int .u8 38), .lit (.int .u8 29), .lit (.int .u8 17), .lit (.int .u8 4), .lit (.int .u8 62), .lit (.int .u8 47), .lit (.int .u8 59), .lit (.int .u8 36), .lit (.int .u8 45), .lit (.int .u8 43), .lit (.int .u8 51), .lit (.int .u8 22), .lit (.int .u8 53), .lit (.int .u8 39), .lit (.int .u8 33), .lit (.int .u8 30), .lit (.int .u8 24), .lit (.int .u8 18), .lit (.int .u8 12), .lit (.int .u8 5), .lit (.int .u8 63), .lit (.int .u8 55), .lit (.int .u8 48), .lit (.int .u8 27), .lit (.int .u8 60), .lit (.int .u8 41), .lit (.int .u8 37), .lit (.int .u8 16), .lit (.int .u8 46), .lit (.int .u8 35), .lit (.int .u8 44), .lit (.int .u8 21), .lit (.int .u8 52), .lit (.int .u8 32), .lit (.int .u8 23), .lit (.int .u8 11), .lit (.int .u8 54), .lit (.int .u8 26), .lit (.int .u8 40), .lit (.int .u8 15), .lit (.int .u8 34), .lit (.int .u8 20), .lit (.int .u8 31), .lit (.int .u8 10), .lit (.int .u8 25), .lit (.int .u8 14), .lit (.int .u8 19), .lit (.int .u8 9), .lit (.int .u8 13), .lit (.int .u8 8), .lit (.int .u8 7), .lit (.int .u8 6)]
def laid_errors_errorType {H : Type} : DataW H := .iface "internal/reflectlite.rtype" (.agg [.ptr (.lit (.string [101, 114, 114, 111, 114]))])
def laid_geyser_degree_table {H : Type} : DataW H := .agg [.agg [.lit (.int .i64 10241), .lit (.int .i64 1)], .agg [.lit (.int .i64 491582), .lit (.int .i64 2)], .agg [.lit (.int .i64 712794), .lit (.int .i64 3)], .agg [.lit (.int .i64 831695), .lit (.int .i64 4)], .agg [.lit (.int .i64 948446), .lit (.int .i64 10)], .agg [.lit (.int .i64 1032189), .lit (.int .i64 11)], .agg [.lit (.int .i64 1048576), .lit (.int .i64 40)]]

/-- 'geyserlaw11.SystemRows': WHATEVER THE INPUT: true; the input reads as it did. -/
def systemRowsSpec : ChangeSpec := { name := "systemRows", fn := fun _ => fun
  | [d1, d2, d3] => { results := [.lit (.bool true)], args := [d1, d2, d3] }
  | _ => none }
def systemRowsRow : OpenClaim := { program := "yticoaioeeppapaagreatdoor", sum := "8f87b0323c5528f0aaec1a53d7e9509adabeed421a9724d5db459fe36f985558", func := "geyser/geyserlaw11.SystemRows", spec := "systemRows", inPlace := ["internal/reflectlite.TypeOf", "internal/reflectlite.ValueOf", "(internal/reflectlite.Value).Type", "(internal/reflectlite.Value).IsNil", "(internal/reflectlite.Value).Elem", "(internal/reflectlite.Value).Set"], unfollowed := true, recurses := true, named := ["math/bits.deBruijn64tab", "geyser/degree.table", "errors.errorType"], apart := false, laid := [("math/bits.deBruijn64tab", laid_math_bits_deBruijn64tab), ("errors.errorType", laid_errors_errorType), ("geyser/degree.table", laid_geyser_degree_table)] }
def SystemRowsSaid : Prop := systemRowsRow.holds Tryz.pinned (OpenSpec.ofChange systemRowsSpec)

/-- ITS FALSE NEIGHBOUR: 'it returns false'. Refute it at one input. -/
def systemRowsWrong : ChangeSpec := { name := "systemRows", fn := fun _ => fun
  | [d1, d2, d3] => { results := [.lit (.bool false)], args := [d1, d2, d3] }
  | _ => none }
def SystemRowsWrongFalsely : Prop := systemRowsRow.holds Tryz.pinned (OpenSpec.ofChange systemRowsWrong)

/-- 'geyserlaw11.SystemSeeds': WHATEVER THE INPUT: true; the input reads as it did. -/
def systemSeedsSpec : ChangeSpec := { name := "systemSeeds", fn := fun _ => fun
  | [d] => { results := [.lit (.bool true)], args := [d] }
  | _ => none }
def systemSeedsRow : OpenClaim := { program := "yticoaioeeppapaagreatdoor", sum := "8f87b0323c5528f0aaec1a53d7e9509adabeed421a9724d5db459fe36f985558", func := "geyser/geyserlaw11.SystemSeeds", spec := "systemSeeds", inPlace := ["internal/reflectlite.TypeOf", "internal/reflectlite.ValueOf", "(internal/reflectlite.Value).Type", "(internal/reflectlite.Value).IsNil", "(internal/reflectlite.Value).Elem", "(internal/reflectlite.Value).Set"], unfollowed := true, recurses := true, named := ["math/bits.deBruijn64tab", "geyser/degree.table", "errors.errorType"], apart := false, laid := [("math/bits.deBruijn64tab", laid_math_bits_deBruijn64tab), ("errors.errorType", laid_errors_errorType), ("geyser/degree.table", laid_geyser_degree_table)] }
def SystemSeedsSaid : Prop := systemSeedsRow.holds Tryz.pinned (OpenSpec.ofChange systemSeedsSpec)

/-- ITS FALSE NEIGHBOUR: 'it returns false'. Refute it at one input. -/
def systemSeedsWrong : ChangeSpec := { name := "systemSeeds", fn := fun _ => fun
  | [d] => { results := [.lit (.bool false)], args := [d] }
  | _ => none }
def SystemSeedsWrongFalsely : Prop := systemSeedsRow.holds Tryz.pinned (OpenSpec.ofChange systemSeedsWrong)

/-- 'geyserlaw11.SystemAll': WHATEVER THE INPUT: true; the input reads as it did. -/
def systemAllSpec : ChangeSpec := { name := "systemAll", fn := fun _ => fun
  | [d] => { results := [.lit (.bool true)], args := [d] }
  | _ => none }
def systemAllRow : OpenClaim := { program := "yticoaioeeppapaagreatdoor", sum := "8f87b0323c5528f0aaec1a53d7e9509adabeed421a9724d5db459fe36f985558", func := "geyser/geyserlaw11.SystemAll", spec := "systemAll", inPlace := ["internal/reflectlite.TypeOf"], unfollowed := true, recurses := true, named := ["math/bits.deBruijn64tab", "geyser/degree.table"], apart := false, laid := [("math/bits.deBruijn64tab", laid_math_bits_deBruijn64tab), ("geyser/degree.table", laid_geyser_degree_table)] }
def SystemAllSaid : Prop := systemAllRow.holds Tryz.pinned (OpenSpec.ofChange systemAllSpec)

/-- ITS FALSE NEIGHBOUR: 'it returns false'. Refute it at one input. -/
def systemAllWrong : ChangeSpec := { name := "systemAll", fn := fun _ => fun
  | [d] => { results := [.lit (.bool false)], args := [d] }
  | _ => none }
def SystemAllWrongFalsely : Prop := systemAllRow.holds Tryz.pinned (OpenSpec.ofChange systemAllWrong)

/-- 'geyserlaw11.SystemMiddles': WHATEVER THE INPUT: true; the input reads as it did. -/
def systemMiddlesSpec : ChangeSpec := { name := "systemMiddles", fn := fun _ => fun
  | [d] => { results := [.lit (.bool true)], args := [d] }
  | _ => none }
def systemMiddlesRow : OpenClaim := { program := "yticoaioeeppapaagreatdoor", sum := "8f87b0323c5528f0aaec1a53d7e9509adabeed421a9724d5db459fe36f985558", func := "geyser/geyserlaw11.SystemMiddles", spec := "systemMiddles", inPlace := ["internal/reflectlite.TypeOf"], unfollowed := true, recurses := true, named := ["math/bits.deBruijn64tab", "geyser/degree.table"], apart := false, laid := [("math/bits.deBruijn64tab", laid_math_bits_deBruijn64tab), ("geyser/degree.table", laid_geyser_degree_table)] }
def SystemMiddlesSaid : Prop := systemMiddlesRow.holds Tryz.pinned (OpenSpec.ofChange systemMiddlesSpec)

/-- ITS FALSE NEIGHBOUR: 'it returns false'. Refute it at one input. -/
def systemMiddlesWrong : ChangeSpec := { name := "systemMiddles", fn := fun _ => fun
  | [d] => { results := [.lit (.bool false)], args := [d] }
  | _ => none }
def SystemMiddlesWrongFalsely : Prop := systemMiddlesRow.holds Tryz.pinned (OpenSpec.ofChange systemMiddlesWrong)

/-- 'geyserlaw11.SystemSums': WHATEVER THE INPUT: true; the input reads as it did. -/
def systemSumsSpec : ChangeSpec := { name := "systemSums", fn := fun _ => fun
  | [d1, d2] => { results := [.lit (.bool true)], args := [d1, d2] }
  | _ => none }
def systemSumsRow : OpenClaim := { program := "yticoaioeeppapaagreatdoor", sum := "8f87b0323c5528f0aaec1a53d7e9509adabeed421a9724d5db459fe36f985558", func := "geyser/geyserlaw11.SystemSums", spec := "systemSums", inPlace := ["internal/reflectlite.TypeOf"], unfollowed := true, recurses := true, named := ["math/bits.deBruijn64tab", "geyser/degree.table"], apart := false, laid := [("math/bits.deBruijn64tab", laid_math_bits_deBruijn64tab), ("geyser/degree.table", laid_geyser_degree_table)] }
def SystemSumsSaid : Prop := systemSumsRow.holds Tryz.pinned (OpenSpec.ofChange systemSumsSpec)

/-- ITS FALSE NEIGHBOUR: 'it returns false'. Refute it at one input. -/
def systemSumsWrong : ChangeSpec := { name := "systemSums", fn := fun _ => fun
  | [d1, d2] => { results := [.lit (.bool false)], args := [d1, d2] }
  | _ => none }
def SystemSumsWrongFalsely : Prop := systemSumsRow.holds Tryz.pinned (OpenSpec.ofChange systemSumsWrong)

/-- 'geyserlaw11.SystemRefuses': WHATEVER THE INPUT: true; the input reads as it did. -/
def systemRefusesSpec : ChangeSpec := { name := "systemRefuses", fn := fun _ => fun
  | [d1, d2, d3] => { results := [.lit (.bool true)], args := [d1, d2, d3] }
  | _ => none }
def systemRefusesRow : OpenClaim := { program := "yticoaioeeppapaagreatdoor", sum := "8f87b0323c5528f0aaec1a53d7e9509adabeed421a9724d5db459fe36f985558", func := "geyser/geyserlaw11.SystemRefuses", spec := "systemRefuses", inPlace := ["internal/reflectlite.TypeOf", "internal/reflectlite.ValueOf", "(internal/reflectlite.Value).Type", "(internal/reflectlite.Value).IsNil", "(internal/reflectlite.Value).Elem", "(internal/reflectlite.Value).Set"], unfollowed := true, recurses := true, named := ["math/bits.deBruijn64tab", "geyser/degree.table", "errors.errorType"], apart := false, laid := [("math/bits.deBruijn64tab", laid_math_bits_deBruijn64tab), ("errors.errorType", laid_errors_errorType), ("geyser/degree.table", laid_geyser_degree_table)] }
def SystemRefusesSaid : Prop := systemRefusesRow.holds Tryz.pinned (OpenSpec.ofChange systemRefusesSpec)

/-- ITS FALSE NEIGHBOUR: 'it returns false'. Refute it at one input. -/
def systemRefusesWrong : ChangeSpec := { name := "systemRefuses", fn := fun _ => fun
  | [d1, d2, d3] => { results := [.lit (.bool false)], args := [d1, d2, d3] }
  | _ => none }
def SystemRefusesWrongFalsely : Prop := systemRefusesRow.holds Tryz.pinned (OpenSpec.ofChange systemRefusesWrong)

/- THE SECOND FORM. 'bulk': how many values and letters a reading holds, each counted each time it is reached (what is shared counts as often as it is met; a slice's spare places count too). A statement '..UptoSaid' is the law's where the arguments, and the package variables that the reading takes, are together of bulk at most 1048576: NARROWER than '..Said'. Prove '..Said' where nothing that the law and all that it calls make is longer than what came in: it says more and counts as full. Else prove '..UptoSaid'. A law counts once. -/
mutual
def uptoBulk {H : Type} : DataW H → Nat
  | .lit (.string bytes) => bytes.length + 1
  | .lit _ => 1
  | .nil => 1
  | .ptr d => uptoBulk d + 1
  | .slice elems spare => uptoBulkAll elems + uptoBulkAll spare + 1
  | .agg parts => uptoBulkAll parts + 1
  | .iface _ d => uptoBulk d + 1
  | .map entries => uptoBulkEntries entries + 1
  | .held _ => 1
def uptoBulkAll {H : Type} : List (DataW H) → Nat
  | [] => 0
  | d :: r => uptoBulk d + uptoBulkAll r
def uptoBulkEntries {H : Type} : List (Lit × DataW H) → Nat
  | [] => 0
  | x :: r => uptoBulkEntry x + uptoBulkEntries r
def uptoBulkEntry {H : Type} : Lit × DataW H → Nat
  | (.string bytes, d) => bytes.length + uptoBulk d + 1
  | (_, d) => uptoBulk d + 1
 end
def uptoSmall : (H : Type) → List (DataW H) → Bool := fun _ ds => decide (uptoBulkAll ds ≤ 1048576)
def OpenSpec.upto (s : _root_.Go.ChangeSpec) : _root_.Go.OpenSpec := { _root_.Go.OpenSpec.ofChange s with cond := some uptoSmall }

/-- 'geyserlaw11.SystemRows', WHERE WHAT IT READS IS OF BULK AT MOST 1048576: true; the input reads as it did. -/
def systemRowsUptoRow : OpenClaim := { program := "yticoaioeeppapaagreatdoor", sum := "8f87b0323c5528f0aaec1a53d7e9509adabeed421a9724d5db459fe36f985558", func := "geyser/geyserlaw11.SystemRows", spec := "systemRows", inPlace := ["internal/reflectlite.TypeOf", "internal/reflectlite.ValueOf", "(internal/reflectlite.Value).Type", "(internal/reflectlite.Value).IsNil", "(internal/reflectlite.Value).Elem", "(internal/reflectlite.Value).Set"], unfollowed := true, recurses := true, named := ["math/bits.deBruijn64tab", "geyser/degree.table", "errors.errorType"], apart := false, laid := [("math/bits.deBruijn64tab", laid_math_bits_deBruijn64tab), ("errors.errorType", laid_errors_errorType), ("geyser/degree.table", laid_geyser_degree_table)], narrowed := true }
def SystemRowsUptoSaid : Prop := systemRowsUptoRow.holds Tryz.pinned (OpenSpec.upto systemRowsSpec)

/-- 'geyserlaw11.SystemSeeds', WHERE WHAT IT READS IS OF BULK AT MOST 1048576: true; the input reads as it did. -/
def systemSeedsUptoRow : OpenClaim := { program := "yticoaioeeppapaagreatdoor", sum := "8f87b0323c5528f0aaec1a53d7e9509adabeed421a9724d5db459fe36f985558", func := "geyser/geyserlaw11.SystemSeeds", spec := "systemSeeds", inPlace := ["internal/reflectlite.TypeOf", "internal/reflectlite.ValueOf", "(internal/reflectlite.Value).Type", "(internal/reflectlite.Value).IsNil", "(internal/reflectlite.Value).Elem", "(internal/reflectlite.Value).Set"], unfollowed := true, recurses := true, named := ["math/bits.deBruijn64tab", "geyser/degree.table", "errors.errorType"], apart := false, laid := [("math/bits.deBruijn64tab", laid_math_bits_deBruijn64tab), ("errors.errorType", laid_errors_errorType), ("geyser/degree.table", laid_geyser_degree_table)], narrowed := true }
def SystemSeedsUptoSaid : Prop := systemSeedsUptoRow.holds Tryz.pinned (OpenSpec.upto systemSeedsSpec)

/-- 'geyserlaw11.SystemAll', WHERE WHAT IT READS IS OF BULK AT MOST 1048576: true; the input reads as it did. -/
def systemAllUptoRow : OpenClaim := { program := "yticoaioeeppapaagreatdoor", sum := "8f87b0323c5528f0aaec1a53d7e9509adabeed421a9724d5db459fe36f985558", func := "geyser/geyserlaw11.SystemAll", spec := "systemAll", inPlace := ["internal/reflectlite.TypeOf"], unfollowed := true, recurses := true, named := ["math/bits.deBruijn64tab", "geyser/degree.table"], apart := false, laid := [("math/bits.deBruijn64tab", laid_math_bits_deBruijn64tab), ("geyser/degree.table", laid_geyser_degree_table)], narrowed := true }
def SystemAllUptoSaid : Prop := systemAllUptoRow.holds Tryz.pinned (OpenSpec.upto systemAllSpec)

/-- 'geyserlaw11.SystemMiddles', WHERE WHAT IT READS IS OF BULK AT MOST 1048576: true; the input reads as it did. -/
def systemMiddlesUptoRow : OpenClaim := { program := "yticoaioeeppapaagreatdoor", sum := "8f87b0323c5528f0aaec1a53d7e9509adabeed421a9724d5db459fe36f985558", func := "geyser/geyserlaw11.SystemMiddles", spec := "systemMiddles", inPlace := ["internal/reflectlite.TypeOf"], unfollowed := true, recurses := true, named := ["math/bits.deBruijn64tab", "geyser/degree.table"], apart := false, laid := [("math/bits.deBruijn64tab", laid_math_bits_deBruijn64tab), ("geyser/degree.table", laid_geyser_degree_table)], narrowed := true }
def SystemMiddlesUptoSaid : Prop := systemMiddlesUptoRow.holds Tryz.pinned (OpenSpec.upto systemMiddlesSpec)

/-- 'geyserlaw11.SystemSums', WHERE WHAT IT READS IS OF BULK AT MOST 1048576: true; the input reads as it did. -/
def systemSumsUptoRow : OpenClaim := { program := "yticoaioeeppapaagreatdoor", sum := "8f87b0323c5528f0aaec1a53d7e9509adabeed421a9724d5db459fe36f985558", func := "geyser/geyserlaw11.SystemSums", spec := "systemSums", inPlace := ["internal/reflectlite.TypeOf"], unfollowed := true, recurses := true, named := ["math/bits.deBruijn64tab", "geyser/degree.table"], apart := false, laid := [("math/bits.deBruijn64tab", laid_math_bits_deBruijn64tab), ("geyser/degree.table", laid_geyser_degree_table)], narrowed := true }
def SystemSumsUptoSaid : Prop := systemSumsUptoRow.holds Tryz.pinned (OpenSpec.upto systemSumsSpec)

/-- 'geyserlaw11.SystemRefuses', WHERE WHAT IT READS IS OF BULK AT MOST 1048576: true; the input reads as it did. -/
def systemRefusesUptoRow : OpenClaim := { program := "yticoaioeeppapaagreatdoor", sum := "8f87b0323c5528f0aaec1a53d7e9509adabeed421a9724d5db459fe36f985558", func := "geyser/geyserlaw11.SystemRefuses", spec := "systemRefuses", inPlace := ["internal/reflectlite.TypeOf", "internal/reflectlite.ValueOf", "(internal/reflectlite.Value).Type", "(internal/reflectlite.Value).IsNil", "(internal/reflectlite.Value).Elem", "(internal/reflectlite.Value).Set"], unfollowed := true, recurses := true, named := ["math/bits.deBruijn64tab", "geyser/degree.table", "errors.errorType"], apart := false, laid := [("math/bits.deBruijn64tab", laid_math_bits_deBruijn64tab), ("errors.errorType", laid_errors_errorType), ("geyser/degree.table", laid_geyser_degree_table)], narrowed := true }
def SystemRefusesUptoSaid : Prop := systemRefusesUptoRow.holds Tryz.pinned (OpenSpec.upto systemRefusesSpec)

end Rows
end Go.Proofs.YticoaioeeppapaaGreatDoor
