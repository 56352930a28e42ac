/-
  NARROWER THAN 'FOR EVERY INPUT', by the rows' own cells (each row's printed sentence says how): PrecodeRows: laid · PrecodeAll: laid · PrecodeGrays: laid · PrecodeIns: laid.
  DERIVED. THE GIVEN ROWS OF THIS SEAT. 4 by the template 'for every input the law returns true; each argument reads behind the call as it read before'; 0 by the template 'total and deterministic' (their statements: YtpnjjbbpcdeooaaDoorTotals.lean).
  GIVEN WITH THE SEED: the statements are not yours to turn. If you find one false, say at which input.
  Laid BY PROGRAM, IN A SANDBOX (cutbox-rows.mjs): the forced cells as the released guide's own fill.sh prints them over the translation 4ef57be332bbfd86… (all of the seat's roots in one cut). By AI agents, Wed Nov 11 2026. No macro, syntax, notation, axiom, sorry.
-/
import Derived.Test.YtpnjjbbpcdeooaaDoorChecked
import GoSem.Claim
import GoSem.ClaimJoined
import GoSem.ClaimMapViews
import Derived.JoinedTies
import Derived.KernelRfl
namespace Go.Proofs.YtpnjjbbpcdeooaaDoor
/- THE CELL 'sum', in the pinned program and in every row, IS THE sha256 OF THE DUMP (.gsa) THAT YtpnjjbbpcdeooaaDoorProg.lean LOADS. Nothing in Lean hashes anything: it is a label: what it is worth is what the hold of that sum in a sandbox is worth. -/
noncomputable def Tryd.pinned : Pinned := { name := "ytpnjjbbpcdeooaadoor", sum := "4ef57be332bbfd8608e39774385243534477e21171f0b43203bdda9c7729ea66", checked := Tryd.checked }
namespace Rows
def none {H : Type} : Left H := { results := [], args := [] }

/- WHAT THE LISTED PACKAGE-LEVEL VARIABLES READ AS WHEN THE CALL BEGINS. Each datum BY PROGRAM (the guide's laid-datum.mjs) off the statement by which the dump's own 'gosem.cut.vars' lays the variable. In a bare row this is a premise. The card (YtpnjjbbpcdeooaaDoorCards.lean) ties it to the program's text. -/
def laid_errors_errorType {H : Type} : DataW H := .iface "internal/reflectlite.rtype" (.agg [.ptr (.lit (.string [101, 114, 114, 111, 114]))])

/-- 'geyserlaw09.PrecodeRows': WHATEVER THE INPUT: true; the input reads as it did. -/
def precodeRowsSpec : ChangeSpec := { name := "precodeRows", fn := fun _ => fun
  | [d1, d2] => { results := [.lit (.bool true)], args := [d1, d2] }
  | _ => none }
def precodeRowsRow : OpenClaim := { program := "ytpnjjbbpcdeooaadoor", sum := "4ef57be332bbfd8608e39774385243534477e21171f0b43203bdda9c7729ea66", func := "geyser/geyserlaw09.PrecodeRows", spec := "precodeRows", inPlace := ["internal/reflectlite.ValueOf", "(internal/reflectlite.Value).Type", "(internal/reflectlite.Value).IsNil", "internal/reflectlite.TypeOf", "(internal/reflectlite.Value).Elem", "(internal/reflectlite.Value).Set"], unfollowed := true, recurses := true, named := ["errors.errorType"], apart := false, laid := [("errors.errorType", laid_errors_errorType)] }
def PrecodeRowsSaid : Prop := precodeRowsRow.holds Tryd.pinned (OpenSpec.ofChange precodeRowsSpec)

/-- ITS FALSE NEIGHBOUR: 'it returns false'. Refute it at one input. -/
def precodeRowsWrong : ChangeSpec := { name := "precodeRows", fn := fun _ => fun
  | [d1, d2] => { results := [.lit (.bool false)], args := [d1, d2] }
  | _ => none }
def PrecodeRowsWrongFalsely : Prop := precodeRowsRow.holds Tryd.pinned (OpenSpec.ofChange precodeRowsWrong)

/-- 'geyserlaw09.PrecodeAll': WHATEVER THE INPUT: true; the input reads as it did. -/
def precodeAllSpec : ChangeSpec := { name := "precodeAll", fn := fun _ => fun
  | [d] => { results := [.lit (.bool true)], args := [d] }
  | _ => none }
def precodeAllRow : OpenClaim := { program := "ytpnjjbbpcdeooaadoor", sum := "4ef57be332bbfd8608e39774385243534477e21171f0b43203bdda9c7729ea66", func := "geyser/geyserlaw09.PrecodeAll", spec := "precodeAll", inPlace := ["internal/reflectlite.ValueOf", "(internal/reflectlite.Value).Type", "(internal/reflectlite.Value).IsNil", "internal/reflectlite.TypeOf", "(internal/reflectlite.Value).Elem", "(internal/reflectlite.Value).Set"], unfollowed := true, recurses := true, named := ["errors.errorType"], apart := false, laid := [("errors.errorType", laid_errors_errorType)] }
def PrecodeAllSaid : Prop := precodeAllRow.holds Tryd.pinned (OpenSpec.ofChange precodeAllSpec)

/-- ITS FALSE NEIGHBOUR: 'it returns false'. Refute it at one input. -/
def precodeAllWrong : ChangeSpec := { name := "precodeAll", fn := fun _ => fun
  | [d] => { results := [.lit (.bool false)], args := [d] }
  | _ => none }
def PrecodeAllWrongFalsely : Prop := precodeAllRow.holds Tryd.pinned (OpenSpec.ofChange precodeAllWrong)

/-- 'geyserlaw09.PrecodeGrays': WHATEVER THE INPUT: true; the input reads as it did. -/
def precodeGraysSpec : ChangeSpec := { name := "precodeGrays", fn := fun _ => fun
  | [d1, d2] => { results := [.lit (.bool true)], args := [d1, d2] }
  | _ => none }
def precodeGraysRow : OpenClaim := { program := "ytpnjjbbpcdeooaadoor", sum := "4ef57be332bbfd8608e39774385243534477e21171f0b43203bdda9c7729ea66", func := "geyser/geyserlaw09.PrecodeGrays", spec := "precodeGrays", inPlace := ["internal/reflectlite.ValueOf", "(internal/reflectlite.Value).Type", "(internal/reflectlite.Value).IsNil", "internal/reflectlite.TypeOf", "(internal/reflectlite.Value).Elem", "(internal/reflectlite.Value).Set"], unfollowed := true, recurses := true, named := ["errors.errorType"], apart := false, laid := [("errors.errorType", laid_errors_errorType)] }
def PrecodeGraysSaid : Prop := precodeGraysRow.holds Tryd.pinned (OpenSpec.ofChange precodeGraysSpec)

/-- ITS FALSE NEIGHBOUR: 'it returns false'. Refute it at one input. -/
def precodeGraysWrong : ChangeSpec := { name := "precodeGrays", fn := fun _ => fun
  | [d1, d2] => { results := [.lit (.bool false)], args := [d1, d2] }
  | _ => none }
def PrecodeGraysWrongFalsely : Prop := precodeGraysRow.holds Tryd.pinned (OpenSpec.ofChange precodeGraysWrong)

/-- 'geyserlaw09.PrecodeIns': WHATEVER THE INPUT: true; the input reads as it did. -/
def precodeInsSpec : ChangeSpec := { name := "precodeIns", fn := fun _ => fun
  | [d1, d2] => { results := [.lit (.bool true)], args := [d1, d2] }
  | _ => none }
def precodeInsRow : OpenClaim := { program := "ytpnjjbbpcdeooaadoor", sum := "4ef57be332bbfd8608e39774385243534477e21171f0b43203bdda9c7729ea66", func := "geyser/geyserlaw09.PrecodeIns", spec := "precodeIns", inPlace := ["internal/reflectlite.ValueOf", "(internal/reflectlite.Value).Type", "(internal/reflectlite.Value).IsNil", "internal/reflectlite.TypeOf", "(internal/reflectlite.Value).Elem", "(internal/reflectlite.Value).Set"], unfollowed := true, recurses := true, named := ["errors.errorType"], apart := false, laid := [("errors.errorType", laid_errors_errorType)] }
def PrecodeInsSaid : Prop := precodeInsRow.holds Tryd.pinned (OpenSpec.ofChange precodeInsSpec)

/-- ITS FALSE NEIGHBOUR: 'it returns false'. Refute it at one input. -/
def precodeInsWrong : ChangeSpec := { name := "precodeIns", fn := fun _ => fun
  | [d1, d2] => { results := [.lit (.bool false)], args := [d1, d2] }
  | _ => none }
def PrecodeInsWrongFalsely : Prop := precodeInsRow.holds Tryd.pinned (OpenSpec.ofChange precodeInsWrong)

/- THE SECOND FORM. 'bulk': how many values and letters a reading holds, each counted each time it is reached (what is shared counts as often as it is met; a slice's spare places count too). A statement '..UptoSaid' is the law's where the arguments, and the package variables that the reading takes, are together of bulk at most 1048576: NARROWER than '..Said'. Prove '..Said' where nothing that the law and all that it calls make is longer than what came in: it says more and counts as full. Else prove '..UptoSaid'. A law counts once. -/
mutual
def uptoBulk {H : Type} : DataW H → Nat
  | .lit (.string bytes) => bytes.length + 1
  | .lit _ => 1
  | .nil => 1
  | .ptr d => uptoBulk d + 1
  | .slice elems spare => uptoBulkAll elems + uptoBulkAll spare + 1
  | .agg parts => uptoBulkAll parts + 1
  | .iface _ d => uptoBulk d + 1
  | .map entries => uptoBulkEntries entries + 1
  | .held _ => 1
def uptoBulkAll {H : Type} : List (DataW H) → Nat
  | [] => 0
  | d :: r => uptoBulk d + uptoBulkAll r
def uptoBulkEntries {H : Type} : List (Lit × DataW H) → Nat
  | [] => 0
  | x :: r => uptoBulkEntry x + uptoBulkEntries r
def uptoBulkEntry {H : Type} : Lit × DataW H → Nat
  | (.string bytes, d) => bytes.length + uptoBulk d + 1
  | (_, d) => uptoBulk d + 1
 end
def uptoSmall : (H : Type) → List (DataW H) → Bool := fun _ ds => decide (uptoBulkAll ds ≤ 1048576)
def OpenSpec.upto (s : _root_.Go.ChangeSpec) : _root_.Go.OpenSpec := { _root_.Go.OpenSpec.ofChange s with cond := some uptoSmall }

/-- 'geyserlaw09.PrecodeRows', WHERE WHAT IT READS IS OF BULK AT MOST 1048576: true; the input reads as it did. -/
def precodeRowsUptoRow : OpenClaim := { program := "ytpnjjbbpcdeooaadoor", sum := "4ef57be332bbfd8608e39774385243534477e21171f0b43203bdda9c7729ea66", func := "geyser/geyserlaw09.PrecodeRows", spec := "precodeRows", inPlace := ["internal/reflectlite.ValueOf", "(internal/reflectlite.Value).Type", "(internal/reflectlite.Value).IsNil", "internal/reflectlite.TypeOf", "(internal/reflectlite.Value).Elem", "(internal/reflectlite.Value).Set"], unfollowed := true, recurses := true, named := ["errors.errorType"], apart := false, laid := [("errors.errorType", laid_errors_errorType)], narrowed := true }
def PrecodeRowsUptoSaid : Prop := precodeRowsUptoRow.holds Tryd.pinned (OpenSpec.upto precodeRowsSpec)

/-- 'geyserlaw09.PrecodeAll', WHERE WHAT IT READS IS OF BULK AT MOST 1048576: true; the input reads as it did. -/
def precodeAllUptoRow : OpenClaim := { program := "ytpnjjbbpcdeooaadoor", sum := "4ef57be332bbfd8608e39774385243534477e21171f0b43203bdda9c7729ea66", func := "geyser/geyserlaw09.PrecodeAll", spec := "precodeAll", inPlace := ["internal/reflectlite.ValueOf", "(internal/reflectlite.Value).Type", "(internal/reflectlite.Value).IsNil", "internal/reflectlite.TypeOf", "(internal/reflectlite.Value).Elem", "(internal/reflectlite.Value).Set"], unfollowed := true, recurses := true, named := ["errors.errorType"], apart := false, laid := [("errors.errorType", laid_errors_errorType)], narrowed := true }
def PrecodeAllUptoSaid : Prop := precodeAllUptoRow.holds Tryd.pinned (OpenSpec.upto precodeAllSpec)

/-- 'geyserlaw09.PrecodeGrays', WHERE WHAT IT READS IS OF BULK AT MOST 1048576: true; the input reads as it did. -/
def precodeGraysUptoRow : OpenClaim := { program := "ytpnjjbbpcdeooaadoor", sum := "4ef57be332bbfd8608e39774385243534477e21171f0b43203bdda9c7729ea66", func := "geyser/geyserlaw09.PrecodeGrays", spec := "precodeGrays", inPlace := ["internal/reflectlite.ValueOf", "(internal/reflectlite.Value).Type", "(internal/reflectlite.Value).IsNil", "internal/reflectlite.TypeOf", "(internal/reflectlite.Value).Elem", "(internal/reflectlite.Value).Set"], unfollowed := true, recurses := true, named := ["errors.errorType"], apart := false, laid := [("errors.errorType", laid_errors_errorType)], narrowed := true }
def PrecodeGraysUptoSaid : Prop := precodeGraysUptoRow.holds Tryd.pinned (OpenSpec.upto precodeGraysSpec)

/-- 'geyserlaw09.PrecodeIns', WHERE WHAT IT READS IS OF BULK AT MOST 1048576: true; the input reads as it did. -/
def precodeInsUptoRow : OpenClaim := { program := "ytpnjjbbpcdeooaadoor", sum := "4ef57be332bbfd8608e39774385243534477e21171f0b43203bdda9c7729ea66", func := "geyser/geyserlaw09.PrecodeIns", spec := "precodeIns", inPlace := ["internal/reflectlite.ValueOf", "(internal/reflectlite.Value).Type", "(internal/reflectlite.Value).IsNil", "internal/reflectlite.TypeOf", "(internal/reflectlite.Value).Elem", "(internal/reflectlite.Value).Set"], unfollowed := true, recurses := true, named := ["errors.errorType"], apart := false, laid := [("errors.errorType", laid_errors_errorType)], narrowed := true }
def PrecodeInsUptoSaid : Prop := precodeInsUptoRow.holds Tryd.pinned (OpenSpec.upto precodeInsSpec)

end Rows
end Go.Proofs.YtpnjjbbpcdeooaaDoor
