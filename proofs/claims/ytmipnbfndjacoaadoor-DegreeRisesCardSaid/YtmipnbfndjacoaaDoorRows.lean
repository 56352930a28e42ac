/-
  NARROWER THAN 'FOR EVERY INPUT', by the rows' own cells (each row's printed sentence says how): DegreeOfs: laid · DegreeShares: laid · DegreeAll: laid · DegreeRises: laid · DegreeUpto: laid.
  DERIVED. THE GIVEN ROWS OF THIS SEAT. 5 by the template 'for every input the law returns true; each argument reads behind the call as it read before'; 0 by the template 'total and deterministic' (their statements: YtmipnbfndjacoaaDoorTotals.lean).
  GIVEN WITH THE SEED: the statements are not yours to turn. If you find one false, say at which input.
  Laid BY PROGRAM, IN A SANDBOX (cutbox-rows.mjs): the forced cells as the released guide's own fill.sh prints them over the translation cec220ae54039137… (all of the seat's roots in one cut). By AI agents, Wed Nov 11 2026. No macro, syntax, notation, axiom, sorry.
-/
import Derived.Test.YtmipnbfndjacoaaDoorChecked
import GoSem.Claim
import GoSem.ClaimJoined
import GoSem.ClaimMapViews
import Derived.JoinedTies
import Derived.KernelRfl
namespace Go.Proofs.YtmipnbfndjacoaaDoor
/- THE CELL 'sum', in the pinned program and in every row, IS THE sha256 OF THE DUMP (.gsa) THAT YtmipnbfndjacoaaDoorProg.lean LOADS. Nothing in Lean hashes anything: it is a label: what it is worth is what the hold of that sum in a sandbox is worth. -/
noncomputable def Tryd.pinned : Pinned := { name := "ytmipnbfndjacoaadoor", sum := "cec220ae54039137e67c1704411a2cdcfd648f66d7dd48a1dc00e360b73fa567", checked := Tryd.checked }
namespace Rows
def none {H : Type} : Left H := { results := [], args := [] }

/- WHAT THE LISTED PACKAGE-LEVEL VARIABLES READ AS WHEN THE CALL BEGINS. Each datum BY PROGRAM (the guide's laid-datum.mjs) off the statement by which the dump's own 'gosem.cut.vars' lays the variable. In a bare row this is a premise. The card (YtmipnbfndjacoaaDoorCards.lean) ties it to the program's text. -/
def laid_errors_errorType {H : Type} : DataW H := .iface "internal/reflectlite.rtype" (.agg [.ptr (.lit (.string [101, 114, 114, 111, 114]))])
def laid_geyser_degree_table {H : Type} : DataW H := .agg [.agg [.lit (.int .i64 10241), .lit (.int .i64 1)], .agg [.lit (.int .i64 491582), .lit (.int .i64 2)], .agg [.lit (.int .i64 712794), .lit (.int .i64 3)], .agg [.lit (.int .i64 831695), .lit (.int .i64 4)], .agg [.lit (.int .i64 948446), .lit (.int .i64 10)], .agg [.lit (.int .i64 1032189), .lit (.int .i64 11)], .agg [.lit (.int .i64 1048576), .lit (.int .i64 40)]]

/-- 'geyserlaw07.DegreeOfs': WHATEVER THE INPUT: true; the input reads as it did. -/
def degreeOfsSpec : ChangeSpec := { name := "degreeOfs", fn := fun _ => fun
  | [d] => { results := [.lit (.bool true)], args := [d] }
  | _ => none }
def degreeOfsRow : OpenClaim := { program := "ytmipnbfndjacoaadoor", sum := "cec220ae54039137e67c1704411a2cdcfd648f66d7dd48a1dc00e360b73fa567", func := "geyser/geyserlaw07.DegreeOfs", spec := "degreeOfs", inPlace := ["internal/reflectlite.ValueOf", "(internal/reflectlite.Value).Type", "(internal/reflectlite.Value).IsNil", "internal/reflectlite.TypeOf", "(internal/reflectlite.Value).Elem", "(internal/reflectlite.Value).Set"], unfollowed := true, recurses := true, named := ["geyser/degree.table", "errors.errorType"], apart := false, laid := [("errors.errorType", laid_errors_errorType), ("geyser/degree.table", laid_geyser_degree_table)] }
def DegreeOfsSaid : Prop := degreeOfsRow.holds Tryd.pinned (OpenSpec.ofChange degreeOfsSpec)

/-- ITS FALSE NEIGHBOUR: 'it returns false'. Refute it at one input. -/
def degreeOfsWrong : ChangeSpec := { name := "degreeOfs", fn := fun _ => fun
  | [d] => { results := [.lit (.bool false)], args := [d] }
  | _ => none }
def DegreeOfsWrongFalsely : Prop := degreeOfsRow.holds Tryd.pinned (OpenSpec.ofChange degreeOfsWrong)

/-- 'geyserlaw07.DegreeShares': WHATEVER THE INPUT: true; the input reads as it did. -/
def degreeSharesSpec : ChangeSpec := { name := "degreeShares", fn := fun _ => fun
  | [d] => { results := [.lit (.bool true)], args := [d] }
  | _ => none }
def degreeSharesRow : OpenClaim := { program := "ytmipnbfndjacoaadoor", sum := "cec220ae54039137e67c1704411a2cdcfd648f66d7dd48a1dc00e360b73fa567", func := "geyser/geyserlaw07.DegreeShares", spec := "degreeShares", inPlace := ["internal/reflectlite.ValueOf", "(internal/reflectlite.Value).Type", "(internal/reflectlite.Value).IsNil", "internal/reflectlite.TypeOf", "(internal/reflectlite.Value).Elem", "(internal/reflectlite.Value).Set"], unfollowed := true, recurses := true, named := ["geyser/degree.table", "errors.errorType"], apart := false, laid := [("errors.errorType", laid_errors_errorType), ("geyser/degree.table", laid_geyser_degree_table)] }
def DegreeSharesSaid : Prop := degreeSharesRow.holds Tryd.pinned (OpenSpec.ofChange degreeSharesSpec)

/-- ITS FALSE NEIGHBOUR: 'it returns false'. Refute it at one input. -/
def degreeSharesWrong : ChangeSpec := { name := "degreeShares", fn := fun _ => fun
  | [d] => { results := [.lit (.bool false)], args := [d] }
  | _ => none }
def DegreeSharesWrongFalsely : Prop := degreeSharesRow.holds Tryd.pinned (OpenSpec.ofChange degreeSharesWrong)

/-- 'geyserlaw07.DegreeAll': WHATEVER THE INPUT: true; the input reads as it did. -/
def degreeAllSpec : ChangeSpec := { name := "degreeAll", fn := fun _ => fun
  | [d] => { results := [.lit (.bool true)], args := [d] }
  | _ => none }
def degreeAllRow : OpenClaim := { program := "ytmipnbfndjacoaadoor", sum := "cec220ae54039137e67c1704411a2cdcfd648f66d7dd48a1dc00e360b73fa567", func := "geyser/geyserlaw07.DegreeAll", spec := "degreeAll", named := ["geyser/degree.table"], apart := false, laid := [("geyser/degree.table", laid_geyser_degree_table)] }
def DegreeAllSaid : Prop := degreeAllRow.holds Tryd.pinned (OpenSpec.ofChange degreeAllSpec)

/-- ITS FALSE NEIGHBOUR: 'it returns false'. Refute it at one input. -/
def degreeAllWrong : ChangeSpec := { name := "degreeAll", fn := fun _ => fun
  | [d] => { results := [.lit (.bool false)], args := [d] }
  | _ => none }
def DegreeAllWrongFalsely : Prop := degreeAllRow.holds Tryd.pinned (OpenSpec.ofChange degreeAllWrong)

/-- 'geyserlaw07.DegreeRises': WHATEVER THE INPUT: true; the input reads as it did. -/
def degreeRisesSpec : ChangeSpec := { name := "degreeRises", fn := fun _ => fun
  | [d1, d2] => { results := [.lit (.bool true)], args := [d1, d2] }
  | _ => none }
def degreeRisesRow : OpenClaim := { program := "ytmipnbfndjacoaadoor", sum := "cec220ae54039137e67c1704411a2cdcfd648f66d7dd48a1dc00e360b73fa567", func := "geyser/geyserlaw07.DegreeRises", spec := "degreeRises", named := ["geyser/degree.table"], apart := false, laid := [("geyser/degree.table", laid_geyser_degree_table)] }
def DegreeRisesSaid : Prop := degreeRisesRow.holds Tryd.pinned (OpenSpec.ofChange degreeRisesSpec)

/-- ITS FALSE NEIGHBOUR: 'it returns false'. Refute it at one input. -/
def degreeRisesWrong : ChangeSpec := { name := "degreeRises", fn := fun _ => fun
  | [d1, d2] => { results := [.lit (.bool false)], args := [d1, d2] }
  | _ => none }
def DegreeRisesWrongFalsely : Prop := degreeRisesRow.holds Tryd.pinned (OpenSpec.ofChange degreeRisesWrong)

/-- 'geyserlaw07.DegreeUpto': WHATEVER THE INPUT: true; the input reads as it did. -/
def degreeUptoSpec : ChangeSpec := { name := "degreeUpto", fn := fun _ => fun
  | [d1, d2] => { results := [.lit (.bool true)], args := [d1, d2] }
  | _ => none }
def degreeUptoRow : OpenClaim := { program := "ytmipnbfndjacoaadoor", sum := "cec220ae54039137e67c1704411a2cdcfd648f66d7dd48a1dc00e360b73fa567", func := "geyser/geyserlaw07.DegreeUpto", spec := "degreeUpto", named := ["geyser/degree.table"], apart := false, laid := [("geyser/degree.table", laid_geyser_degree_table)] }
def DegreeUptoSaid : Prop := degreeUptoRow.holds Tryd.pinned (OpenSpec.ofChange degreeUptoSpec)

/-- ITS FALSE NEIGHBOUR: 'it returns false'. Refute it at one input. -/
def degreeUptoWrong : ChangeSpec := { name := "degreeUpto", fn := fun _ => fun
  | [d1, d2] => { results := [.lit (.bool false)], args := [d1, d2] }
  | _ => none }
def DegreeUptoWrongFalsely : Prop := degreeUptoRow.holds Tryd.pinned (OpenSpec.ofChange degreeUptoWrong)

/- THE SECOND FORM. 'bulk': how many values and letters a reading holds, each counted each time it is reached (what is shared counts as often as it is met; a slice's spare places count too). A statement '..UptoSaid' is the law's where the arguments, and the package variables that the reading takes, are together of bulk at most 1048576: NARROWER than '..Said'. Prove '..Said' where nothing that the law and all that it calls make is longer than what came in: it says more and counts as full. Else prove '..UptoSaid'. A law counts once. -/
mutual
def uptoBulk {H : Type} : DataW H → Nat
  | .lit (.string bytes) => bytes.length + 1
  | .lit _ => 1
  | .nil => 1
  | .ptr d => uptoBulk d + 1
  | .slice elems spare => uptoBulkAll elems + uptoBulkAll spare + 1
  | .agg parts => uptoBulkAll parts + 1
  | .iface _ d => uptoBulk d + 1
  | .map entries => uptoBulkEntries entries + 1
  | .held _ => 1
def uptoBulkAll {H : Type} : List (DataW H) → Nat
  | [] => 0
  | d :: r => uptoBulk d + uptoBulkAll r
def uptoBulkEntries {H : Type} : List (Lit × DataW H) → Nat
  | [] => 0
  | x :: r => uptoBulkEntry x + uptoBulkEntries r
def uptoBulkEntry {H : Type} : Lit × DataW H → Nat
  | (.string bytes, d) => bytes.length + uptoBulk d + 1
  | (_, d) => uptoBulk d + 1
 end
def uptoSmall : (H : Type) → List (DataW H) → Bool := fun _ ds => decide (uptoBulkAll ds ≤ 1048576)
def OpenSpec.upto (s : _root_.Go.ChangeSpec) : _root_.Go.OpenSpec := { _root_.Go.OpenSpec.ofChange s with cond := some uptoSmall }

/-- 'geyserlaw07.DegreeOfs', WHERE WHAT IT READS IS OF BULK AT MOST 1048576: true; the input reads as it did. -/
def degreeOfsUptoRow : OpenClaim := { program := "ytmipnbfndjacoaadoor", sum := "cec220ae54039137e67c1704411a2cdcfd648f66d7dd48a1dc00e360b73fa567", func := "geyser/geyserlaw07.DegreeOfs", spec := "degreeOfs", inPlace := ["internal/reflectlite.ValueOf", "(internal/reflectlite.Value).Type", "(internal/reflectlite.Value).IsNil", "internal/reflectlite.TypeOf", "(internal/reflectlite.Value).Elem", "(internal/reflectlite.Value).Set"], unfollowed := true, recurses := true, named := ["geyser/degree.table", "errors.errorType"], apart := false, laid := [("errors.errorType", laid_errors_errorType), ("geyser/degree.table", laid_geyser_degree_table)], narrowed := true }
def DegreeOfsUptoSaid : Prop := degreeOfsUptoRow.holds Tryd.pinned (OpenSpec.upto degreeOfsSpec)

/-- 'geyserlaw07.DegreeShares', WHERE WHAT IT READS IS OF BULK AT MOST 1048576: true; the input reads as it did. -/
def degreeSharesUptoRow : OpenClaim := { program := "ytmipnbfndjacoaadoor", sum := "cec220ae54039137e67c1704411a2cdcfd648f66d7dd48a1dc00e360b73fa567", func := "geyser/geyserlaw07.DegreeShares", spec := "degreeShares", inPlace := ["internal/reflectlite.ValueOf", "(internal/reflectlite.Value).Type", "(internal/reflectlite.Value).IsNil", "internal/reflectlite.TypeOf", "(internal/reflectlite.Value).Elem", "(internal/reflectlite.Value).Set"], unfollowed := true, recurses := true, named := ["geyser/degree.table", "errors.errorType"], apart := false, laid := [("errors.errorType", laid_errors_errorType), ("geyser/degree.table", laid_geyser_degree_table)], narrowed := true }
def DegreeSharesUptoSaid : Prop := degreeSharesUptoRow.holds Tryd.pinned (OpenSpec.upto degreeSharesSpec)

/-- 'geyserlaw07.DegreeAll', WHERE WHAT IT READS IS OF BULK AT MOST 1048576: true; the input reads as it did. -/
def degreeAllUptoRow : OpenClaim := { program := "ytmipnbfndjacoaadoor", sum := "cec220ae54039137e67c1704411a2cdcfd648f66d7dd48a1dc00e360b73fa567", func := "geyser/geyserlaw07.DegreeAll", spec := "degreeAll", named := ["geyser/degree.table"], apart := false, laid := [("geyser/degree.table", laid_geyser_degree_table)], narrowed := true }
def DegreeAllUptoSaid : Prop := degreeAllUptoRow.holds Tryd.pinned (OpenSpec.upto degreeAllSpec)

/-- 'geyserlaw07.DegreeRises', WHERE WHAT IT READS IS OF BULK AT MOST 1048576: true; the input reads as it did. -/
def degreeRisesUptoRow : OpenClaim := { program := "ytmipnbfndjacoaadoor", sum := "cec220ae54039137e67c1704411a2cdcfd648f66d7dd48a1dc00e360b73fa567", func := "geyser/geyserlaw07.DegreeRises", spec := "degreeRises", named := ["geyser/degree.table"], apart := false, laid := [("geyser/degree.table", laid_geyser_degree_table)], narrowed := true }
def DegreeRisesUptoSaid : Prop := degreeRisesUptoRow.holds Tryd.pinned (OpenSpec.upto degreeRisesSpec)

/-- 'geyserlaw07.DegreeUpto', WHERE WHAT IT READS IS OF BULK AT MOST 1048576: true; the input reads as it did. -/
def degreeUptoUptoRow : OpenClaim := { program := "ytmipnbfndjacoaadoor", sum := "cec220ae54039137e67c1704411a2cdcfd648f66d7dd48a1dc00e360b73fa567", func := "geyser/geyserlaw07.DegreeUpto", spec := "degreeUpto", named := ["geyser/degree.table"], apart := false, laid := [("geyser/degree.table", laid_geyser_degree_table)], narrowed := true }
def DegreeUptoUptoSaid : Prop := degreeUptoUptoRow.holds Tryd.pinned (OpenSpec.upto degreeUptoSpec)

end Rows
end Go.Proofs.YtmipnbfndjacoaaDoor
