/-
  NARROWER THAN 'FOR EVERY INPUT', by the rows' own cells (each row's printed sentence says how): LtrowTrips: laid · LtrowWalks: laid · LtrowRows: laid · LtrowApart: laid · LtrowWhole: laid.
  DERIVED. THE GIVEN ROWS OF THIS SEAT. 5 by the template 'for every input the law returns true; each argument reads behind the call as it read before'; 0 by the template 'total and deterministic' (their statements: YtedadhoaegjhfaaDoorTotals.lean).
  GIVEN WITH THE SEED: the statements are not yours to turn. If you find one false, say at which input.
  Laid BY PROGRAM, IN A SANDBOX (cutbox-rows.mjs): the forced cells as the released guide's own fill.sh prints them over the translation 91d54d5ea7f0186b… (all of the seat's roots in one cut). By AI agents, Wed Nov 11 2026. No macro, syntax, notation, axiom, sorry.
-/
import Derived.Test.YtedadhoaegjhfaaDoorChecked
import GoSem.Claim
import GoSem.ClaimJoined
import GoSem.ClaimMapViews
import Derived.JoinedTies
import Derived.KernelRfl
namespace Go.Proofs.YtedadhoaegjhfaaDoor
/- THE CELL 'sum', in the pinned program and in every row, IS THE sha256 OF THE DUMP (.gsa) THAT YtedadhoaegjhfaaDoorProg.lean LOADS. Nothing in Lean hashes anything: it is a label: what it is worth is what the hold of that sum in a sandbox is worth. -/
noncomputable def Tryd.pinned : Pinned := { name := "ytedadhoaegjhfaadoor", sum := "91d54d5ea7f0186b9352fb6209757b170a4a6947f9a5de66ec0b0aa1dfa18c21", checked := Tryd.checked }
namespace Rows
def none {H : Type} : Left H := { results := [], args := [] }

/- WHAT THE LISTED PACKAGE-LEVEL VARIABLES READ AS WHEN THE CALL BEGINS. Each datum BY PROGRAM (the guide's laid-datum.mjs) off the statement by which the dump's own 'gosem.cut.vars' lays the variable. In a bare row this is a premise. The card (YtedadhoaegjhfaaDoorCards.lean) ties it to the program's text. -/
def laid_errors_errorType {H : Type} : DataW H := .iface "internal/reflectlite.rtype" (.agg [.ptr (.lit (.string [101, 114, 114, 111, 114]))])
def laid_geyser_degree_table {H : Type} : DataW H := .agg [.agg [.lit (.int .i64 10241), .lit (.int .i64 1)], .agg [.lit (.int .i64 491582), .lit (.int .i64 2)], .agg [.lit (.int .i64 712794), .lit (.int .i64 3)], .agg [.lit (.int .i64 831695), .lit (.int .i64 4)], .agg [.lit (.int .i64 948446), .lit (.int .i64 10)], .agg [.lit (.int .i64 1032189), .lit (.int .i64 11)], .agg [.lit (.int .i64 1048576), .lit (.int .i64 40)]]

/-- 'geyserlaw10.LtrowTrips': WHATEVER THE INPUT: true; the input reads as it did. -/
def ltrowTripsSpec : ChangeSpec := { name := "ltrowTrips", fn := fun _ => fun
  | [d1, d2, d3] => { results := [.lit (.bool true)], args := [d1, d2, d3] }
  | _ => none }
def ltrowTripsRow : OpenClaim := { program := "ytedadhoaegjhfaadoor", sum := "91d54d5ea7f0186b9352fb6209757b170a4a6947f9a5de66ec0b0aa1dfa18c21", func := "geyser/geyserlaw10.LtrowTrips", spec := "ltrowTrips", inPlace := ["internal/reflectlite.TypeOf", "internal/reflectlite.ValueOf", "(internal/reflectlite.Value).Type", "(internal/reflectlite.Value).IsNil", "(internal/reflectlite.Value).Elem", "(internal/reflectlite.Value).Set"], unfollowed := true, recurses := true, named := ["geyser/degree.table", "errors.errorType"], apart := false, laid := [("errors.errorType", laid_errors_errorType), ("geyser/degree.table", laid_geyser_degree_table)] }
def LtrowTripsSaid : Prop := ltrowTripsRow.holds Tryd.pinned (OpenSpec.ofChange ltrowTripsSpec)

/-- ITS FALSE NEIGHBOUR: 'it returns false'. Refute it at one input. -/
def ltrowTripsWrong : ChangeSpec := { name := "ltrowTrips", fn := fun _ => fun
  | [d1, d2, d3] => { results := [.lit (.bool false)], args := [d1, d2, d3] }
  | _ => none }
def LtrowTripsWrongFalsely : Prop := ltrowTripsRow.holds Tryd.pinned (OpenSpec.ofChange ltrowTripsWrong)

/-- 'geyserlaw10.LtrowWalks': WHATEVER THE INPUT: true; the input reads as it did. -/
def ltrowWalksSpec : ChangeSpec := { name := "ltrowWalks", fn := fun _ => fun
  | [d1, d2] => { results := [.lit (.bool true)], args := [d1, d2] }
  | _ => none }
def ltrowWalksRow : OpenClaim := { program := "ytedadhoaegjhfaadoor", sum := "91d54d5ea7f0186b9352fb6209757b170a4a6947f9a5de66ec0b0aa1dfa18c21", func := "geyser/geyserlaw10.LtrowWalks", spec := "ltrowWalks", inPlace := ["internal/reflectlite.TypeOf", "internal/reflectlite.ValueOf", "(internal/reflectlite.Value).Type", "(internal/reflectlite.Value).IsNil", "(internal/reflectlite.Value).Elem", "(internal/reflectlite.Value).Set"], unfollowed := true, recurses := true, named := ["errors.errorType", "geyser/degree.table"], apart := false, laid := [("errors.errorType", laid_errors_errorType), ("geyser/degree.table", laid_geyser_degree_table)] }
def LtrowWalksSaid : Prop := ltrowWalksRow.holds Tryd.pinned (OpenSpec.ofChange ltrowWalksSpec)

/-- ITS FALSE NEIGHBOUR: 'it returns false'. Refute it at one input. -/
def ltrowWalksWrong : ChangeSpec := { name := "ltrowWalks", fn := fun _ => fun
  | [d1, d2] => { results := [.lit (.bool false)], args := [d1, d2] }
  | _ => none }
def LtrowWalksWrongFalsely : Prop := ltrowWalksRow.holds Tryd.pinned (OpenSpec.ofChange ltrowWalksWrong)

/-- 'geyserlaw10.LtrowRows': WHATEVER THE INPUT: true; the input reads as it did. -/
def ltrowRowsSpec : ChangeSpec := { name := "ltrowRows", fn := fun _ => fun
  | [d1, d2, d3] => { results := [.lit (.bool true)], args := [d1, d2, d3] }
  | _ => none }
def ltrowRowsRow : OpenClaim := { program := "ytedadhoaegjhfaadoor", sum := "91d54d5ea7f0186b9352fb6209757b170a4a6947f9a5de66ec0b0aa1dfa18c21", func := "geyser/geyserlaw10.LtrowRows", spec := "ltrowRows", inPlace := ["internal/reflectlite.TypeOf", "internal/reflectlite.ValueOf", "(internal/reflectlite.Value).Type", "(internal/reflectlite.Value).IsNil", "(internal/reflectlite.Value).Elem", "(internal/reflectlite.Value).Set"], unfollowed := true, recurses := true, named := ["geyser/degree.table", "errors.errorType"], apart := false, laid := [("errors.errorType", laid_errors_errorType), ("geyser/degree.table", laid_geyser_degree_table)] }
def LtrowRowsSaid : Prop := ltrowRowsRow.holds Tryd.pinned (OpenSpec.ofChange ltrowRowsSpec)

/-- ITS FALSE NEIGHBOUR: 'it returns false'. Refute it at one input. -/
def ltrowRowsWrong : ChangeSpec := { name := "ltrowRows", fn := fun _ => fun
  | [d1, d2, d3] => { results := [.lit (.bool false)], args := [d1, d2, d3] }
  | _ => none }
def LtrowRowsWrongFalsely : Prop := ltrowRowsRow.holds Tryd.pinned (OpenSpec.ofChange ltrowRowsWrong)

/-- 'geyserlaw10.LtrowApart': WHATEVER THE INPUT: true; the input reads as it did. -/
def ltrowApartSpec : ChangeSpec := { name := "ltrowApart", fn := fun _ => fun
  | [d1, d2] => { results := [.lit (.bool true)], args := [d1, d2] }
  | _ => none }
def ltrowApartRow : OpenClaim := { program := "ytedadhoaegjhfaadoor", sum := "91d54d5ea7f0186b9352fb6209757b170a4a6947f9a5de66ec0b0aa1dfa18c21", func := "geyser/geyserlaw10.LtrowApart", spec := "ltrowApart", inPlace := ["internal/reflectlite.TypeOf"], unfollowed := true, recurses := true, named := ["geyser/degree.table"], apart := false, laid := [("geyser/degree.table", laid_geyser_degree_table)] }
def LtrowApartSaid : Prop := ltrowApartRow.holds Tryd.pinned (OpenSpec.ofChange ltrowApartSpec)

/-- ITS FALSE NEIGHBOUR: 'it returns false'. Refute it at one input. -/
def ltrowApartWrong : ChangeSpec := { name := "ltrowApart", fn := fun _ => fun
  | [d1, d2] => { results := [.lit (.bool false)], args := [d1, d2] }
  | _ => none }
def LtrowApartWrongFalsely : Prop := ltrowApartRow.holds Tryd.pinned (OpenSpec.ofChange ltrowApartWrong)

/-- 'geyserlaw10.LtrowWhole': WHATEVER THE INPUT: true; the input reads as it did. -/
def ltrowWholeSpec : ChangeSpec := { name := "ltrowWhole", fn := fun _ => fun
  | [d1, d2, d3] => { results := [.lit (.bool true)], args := [d1, d2, d3] }
  | _ => none }
def ltrowWholeRow : OpenClaim := { program := "ytedadhoaegjhfaadoor", sum := "91d54d5ea7f0186b9352fb6209757b170a4a6947f9a5de66ec0b0aa1dfa18c21", func := "geyser/geyserlaw10.LtrowWhole", spec := "ltrowWhole", inPlace := ["internal/reflectlite.TypeOf"], unfollowed := true, recurses := true, named := ["geyser/degree.table"], apart := false, laid := [("geyser/degree.table", laid_geyser_degree_table)] }
def LtrowWholeSaid : Prop := ltrowWholeRow.holds Tryd.pinned (OpenSpec.ofChange ltrowWholeSpec)

/-- ITS FALSE NEIGHBOUR: 'it returns false'. Refute it at one input. -/
def ltrowWholeWrong : ChangeSpec := { name := "ltrowWhole", fn := fun _ => fun
  | [d1, d2, d3] => { results := [.lit (.bool false)], args := [d1, d2, d3] }
  | _ => none }
def LtrowWholeWrongFalsely : Prop := ltrowWholeRow.holds Tryd.pinned (OpenSpec.ofChange ltrowWholeWrong)

/- THE SECOND FORM. 'bulk': how many values and letters a reading holds, each counted each time it is reached (what is shared counts as often as it is met; a slice's spare places count too). A statement '..UptoSaid' is the law's where the arguments, and the package variables that the reading takes, are together of bulk at most 1048576: NARROWER than '..Said'. Prove '..Said' where nothing that the law and all that it calls make is longer than what came in: it says more and counts as full. Else prove '..UptoSaid'. A law counts once. -/
mutual
def uptoBulk {H : Type} : DataW H → Nat
  | .lit (.string bytes) => bytes.length + 1
  | .lit _ => 1
  | .nil => 1
  | .ptr d => uptoBulk d + 1
  | .slice elems spare => uptoBulkAll elems + uptoBulkAll spare + 1
  | .agg parts => uptoBulkAll parts + 1
  | .iface _ d => uptoBulk d + 1
  | .map entries => uptoBulkEntries entries + 1
  | .held _ => 1
def uptoBulkAll {H : Type} : List (DataW H) → Nat
  | [] => 0
  | d :: r => uptoBulk d + uptoBulkAll r
def uptoBulkEntries {H : Type} : List (Lit × DataW H) → Nat
  | [] => 0
  | x :: r => uptoBulkEntry x + uptoBulkEntries r
def uptoBulkEntry {H : Type} : Lit × DataW H → Nat
  | (.string bytes, d) => bytes.length + uptoBulk d + 1
  | (_, d) => uptoBulk d + 1
 end
def uptoSmall : (H : Type) → List (DataW H) → Bool := fun _ ds => decide (uptoBulkAll ds ≤ 1048576)
def OpenSpec.upto (s : _root_.Go.ChangeSpec) : _root_.Go.OpenSpec := { _root_.Go.OpenSpec.ofChange s with cond := some uptoSmall }

/-- 'geyserlaw10.LtrowTrips', WHERE WHAT IT READS IS OF BULK AT MOST 1048576: true; the input reads as it did. -/
def ltrowTripsUptoRow : OpenClaim := { program := "ytedadhoaegjhfaadoor", sum := "91d54d5ea7f0186b9352fb6209757b170a4a6947f9a5de66ec0b0aa1dfa18c21", func := "geyser/geyserlaw10.LtrowTrips", spec := "ltrowTrips", inPlace := ["internal/reflectlite.TypeOf", "internal/reflectlite.ValueOf", "(internal/reflectlite.Value).Type", "(internal/reflectlite.Value).IsNil", "(internal/reflectlite.Value).Elem", "(internal/reflectlite.Value).Set"], unfollowed := true, recurses := true, named := ["geyser/degree.table", "errors.errorType"], apart := false, laid := [("errors.errorType", laid_errors_errorType), ("geyser/degree.table", laid_geyser_degree_table)], narrowed := true }
def LtrowTripsUptoSaid : Prop := ltrowTripsUptoRow.holds Tryd.pinned (OpenSpec.upto ltrowTripsSpec)

/-- 'geyserlaw10.LtrowWalks', WHERE WHAT IT READS IS OF BULK AT MOST 1048576: true; the input reads as it did. -/
def ltrowWalksUptoRow : OpenClaim := { program := "ytedadhoaegjhfaadoor", sum := "91d54d5ea7f0186b9352fb6209757b170a4a6947f9a5de66ec0b0aa1dfa18c21", func := "geyser/geyserlaw10.LtrowWalks", spec := "ltrowWalks", inPlace := ["internal/reflectlite.TypeOf", "internal/reflectlite.ValueOf", "(internal/reflectlite.Value).Type", "(internal/reflectlite.Value).IsNil", "(internal/reflectlite.Value).Elem", "(internal/reflectlite.Value).Set"], unfollowed := true, recurses := true, named := ["errors.errorType", "geyser/degree.table"], apart := false, laid := [("errors.errorType", laid_errors_errorType), ("geyser/degree.table", laid_geyser_degree_table)], narrowed := true }
def LtrowWalksUptoSaid : Prop := ltrowWalksUptoRow.holds Tryd.pinned (OpenSpec.upto ltrowWalksSpec)

/-- 'geyserlaw10.LtrowRows', WHERE WHAT IT READS IS OF BULK AT MOST 1048576: true; the input reads as it did. -/
def ltrowRowsUptoRow : OpenClaim := { program := "ytedadhoaegjhfaadoor", sum := "91d54d5ea7f0186b9352fb6209757b170a4a6947f9a5de66ec0b0aa1dfa18c21", func := "geyser/geyserlaw10.LtrowRows", spec := "ltrowRows", inPlace := ["internal/reflectlite.TypeOf", "internal/reflectlite.ValueOf", "(internal/reflectlite.Value).Type", "(internal/reflectlite.Value).IsNil", "(internal/reflectlite.Value).Elem", "(internal/reflectlite.Value).Set"], unfollowed := true, recurses := true, named := ["geyser/degree.table", "errors.errorType"], apart := false, laid := [("errors.errorType", laid_errors_errorType), ("geyser/degree.table", laid_geyser_degree_table)], narrowed := true }
def LtrowRowsUptoSaid : Prop := ltrowRowsUptoRow.holds Tryd.pinned (OpenSpec.upto ltrowRowsSpec)

/-- 'geyserlaw10.LtrowApart', WHERE WHAT IT READS IS OF BULK AT MOST 1048576: true; the input reads as it did. -/
def ltrowApartUptoRow : OpenClaim := { program := "ytedadhoaegjhfaadoor", sum := "91d54d5ea7f0186b9352fb6209757b170a4a6947f9a5de66ec0b0aa1dfa18c21", func := "geyser/geyserlaw10.LtrowApart", spec := "ltrowApart", inPlace := ["internal/reflectlite.TypeOf"], unfollowed := true, recurses := true, named := ["geyser/degree.table"], apart := false, laid := [("geyser/degree.table", laid_geyser_degree_table)], narrowed := true }
def LtrowApartUptoSaid : Prop := ltrowApartUptoRow.holds Tryd.pinned (OpenSpec.upto ltrowApartSpec)

/-- 'geyserlaw10.LtrowWhole', WHERE WHAT IT READS IS OF BULK AT MOST 1048576: true; the input reads as it did. -/
def ltrowWholeUptoRow : OpenClaim := { program := "ytedadhoaegjhfaadoor", sum := "91d54d5ea7f0186b9352fb6209757b170a4a6947f9a5de66ec0b0aa1dfa18c21", func := "geyser/geyserlaw10.LtrowWhole", spec := "ltrowWhole", inPlace := ["internal/reflectlite.TypeOf"], unfollowed := true, recurses := true, named := ["geyser/degree.table"], apart := false, laid := [("geyser/degree.table", laid_geyser_degree_table)], narrowed := true }
def LtrowWholeUptoSaid : Prop := ltrowWholeUptoRow.holds Tryd.pinned (OpenSpec.upto ltrowWholeSpec)

end Rows
end Go.Proofs.YtedadhoaegjhfaaDoor
