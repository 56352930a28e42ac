/-
  NARROWER THAN 'FOR EVERY INPUT', by the rows' own cells (each row's printed sentence says how): StripeReverses: laid · StripeChunks: laid · StripeLevels: laid · StripeEsis: laid.
  DERIVED. THE GIVEN ROWS OF THIS SEAT. 4 by the template 'for every input the law returns true; each argument reads behind the call as it read before'; 0 by the template 'total and deterministic' (their statements: YtlhpkfonffijfaaDoorTotals.lean).
  GIVEN WITH THE SEED: the statements are not yours to turn. If you find one false, say at which input.
  Laid BY PROGRAM, IN A SANDBOX (cutbox-rows.mjs): the forced cells as the released guide's own fill.sh prints them over the translation 80b6e880db1b7f0f… (all of the seat's roots in one cut). By AI agents, Wed Nov 11 2026. No macro, syntax, notation, axiom, sorry.
-/
import Derived.Test.YtlhpkfonffijfaaDoorChecked
import GoSem.Claim
import GoSem.ClaimJoined
import GoSem.ClaimMapViews
import Derived.JoinedTies
import Derived.KernelRfl
namespace Go.Proofs.YtlhpkfonffijfaaDoor
/- THE CELL 'sum', in the pinned program and in every row, IS THE sha256 OF THE DUMP (.gsa) THAT YtlhpkfonffijfaaDoorProg.lean LOADS. Nothing in Lean hashes anything: it is a label: what it is worth is what the hold of that sum in a sandbox is worth. -/
noncomputable def Tryd.pinned : Pinned := { name := "ytlhpkfonffijfaadoor", sum := "80b6e880db1b7f0f7e3e2003d24c0ebf0a13f363f092b2995c5e4cddcb0d407c", checked := Tryd.checked }
namespace Rows
def none {H : Type} : Left H := { results := [], args := [] }

/- WHAT THE LISTED PACKAGE-LEVEL VARIABLES READ AS WHEN THE CALL BEGINS. Each datum BY PROGRAM (the guide's laid-datum.mjs) off the statement by which the dump's own 'gosem.cut.vars' lays the variable. In a bare row this is a premise. The card (YtlhpkfonffijfaaDoorCards.lean) ties it to the program's text. -/
def laid_errors_errorType {H : Type} : DataW H := .iface "internal/reflectlite.rtype" (.agg [.ptr (.lit (.string [101, 114, 114, 111, 114]))])

/-- 'geyserlaw17.StripeReverses': WHATEVER THE INPUT: true; the input reads as it did. -/
def stripeReversesSpec : ChangeSpec := { name := "stripeReverses", fn := fun _ => fun
  | [d1, d2] => { results := [.lit (.bool true)], args := [d1, d2] }
  | _ => none }
def stripeReversesRow : OpenClaim := { program := "ytlhpkfonffijfaadoor", sum := "80b6e880db1b7f0f7e3e2003d24c0ebf0a13f363f092b2995c5e4cddcb0d407c", func := "geyser/geyserlaw17.StripeReverses", spec := "stripeReverses", inPlace := ["internal/reflectlite.ValueOf", "(internal/reflectlite.Value).Type", "(internal/reflectlite.Value).IsNil", "internal/reflectlite.TypeOf", "(internal/reflectlite.Value).Elem", "(internal/reflectlite.Value).Set"], unfollowed := true, recurses := true, named := ["errors.errorType"], apart := false, laid := [("errors.errorType", laid_errors_errorType)] }
def StripeReversesSaid : Prop := stripeReversesRow.holds Tryd.pinned (OpenSpec.ofChange stripeReversesSpec)

/-- ITS FALSE NEIGHBOUR: 'it returns false'. Refute it at one input. -/
def stripeReversesWrong : ChangeSpec := { name := "stripeReverses", fn := fun _ => fun
  | [d1, d2] => { results := [.lit (.bool false)], args := [d1, d2] }
  | _ => none }
def StripeReversesWrongFalsely : Prop := stripeReversesRow.holds Tryd.pinned (OpenSpec.ofChange stripeReversesWrong)

/-- 'geyserlaw17.StripeChunks': WHATEVER THE INPUT: true; the input reads as it did. -/
def stripeChunksSpec : ChangeSpec := { name := "stripeChunks", fn := fun _ => fun
  | [d1, d2, d3] => { results := [.lit (.bool true)], args := [d1, d2, d3] }
  | _ => none }
def stripeChunksRow : OpenClaim := { program := "ytlhpkfonffijfaadoor", sum := "80b6e880db1b7f0f7e3e2003d24c0ebf0a13f363f092b2995c5e4cddcb0d407c", func := "geyser/geyserlaw17.StripeChunks", spec := "stripeChunks", inPlace := ["internal/reflectlite.ValueOf", "(internal/reflectlite.Value).Type", "(internal/reflectlite.Value).IsNil", "internal/reflectlite.TypeOf", "(internal/reflectlite.Value).Elem", "(internal/reflectlite.Value).Set"], unfollowed := true, recurses := true, named := ["errors.errorType"], apart := false, laid := [("errors.errorType", laid_errors_errorType)] }
def StripeChunksSaid : Prop := stripeChunksRow.holds Tryd.pinned (OpenSpec.ofChange stripeChunksSpec)

/-- ITS FALSE NEIGHBOUR: 'it returns false'. Refute it at one input. -/
def stripeChunksWrong : ChangeSpec := { name := "stripeChunks", fn := fun _ => fun
  | [d1, d2, d3] => { results := [.lit (.bool false)], args := [d1, d2, d3] }
  | _ => none }
def StripeChunksWrongFalsely : Prop := stripeChunksRow.holds Tryd.pinned (OpenSpec.ofChange stripeChunksWrong)

/-- 'geyserlaw17.StripeLevels': WHATEVER THE INPUT: true; the input reads as it did. -/
def stripeLevelsSpec : ChangeSpec := { name := "stripeLevels", fn := fun _ => fun
  | [d1, d2, d3] => { results := [.lit (.bool true)], args := [d1, d2, d3] }
  | _ => none }
def stripeLevelsRow : OpenClaim := { program := "ytlhpkfonffijfaadoor", sum := "80b6e880db1b7f0f7e3e2003d24c0ebf0a13f363f092b2995c5e4cddcb0d407c", func := "geyser/geyserlaw17.StripeLevels", spec := "stripeLevels", inPlace := ["internal/reflectlite.ValueOf", "(internal/reflectlite.Value).Type", "(internal/reflectlite.Value).IsNil", "internal/reflectlite.TypeOf", "(internal/reflectlite.Value).Elem", "(internal/reflectlite.Value).Set"], unfollowed := true, recurses := true, named := ["errors.errorType"], apart := false, laid := [("errors.errorType", laid_errors_errorType)] }
def StripeLevelsSaid : Prop := stripeLevelsRow.holds Tryd.pinned (OpenSpec.ofChange stripeLevelsSpec)

/-- ITS FALSE NEIGHBOUR: 'it returns false'. Refute it at one input. -/
def stripeLevelsWrong : ChangeSpec := { name := "stripeLevels", fn := fun _ => fun
  | [d1, d2, d3] => { results := [.lit (.bool false)], args := [d1, d2, d3] }
  | _ => none }
def StripeLevelsWrongFalsely : Prop := stripeLevelsRow.holds Tryd.pinned (OpenSpec.ofChange stripeLevelsWrong)

/-- 'geyserlaw17.StripeEsis': WHATEVER THE INPUT: true; the input reads as it did. -/
def stripeEsisSpec : ChangeSpec := { name := "stripeEsis", fn := fun _ => fun
  | [d1, d2, d3] => { results := [.lit (.bool true)], args := [d1, d2, d3] }
  | _ => none }
def stripeEsisRow : OpenClaim := { program := "ytlhpkfonffijfaadoor", sum := "80b6e880db1b7f0f7e3e2003d24c0ebf0a13f363f092b2995c5e4cddcb0d407c", func := "geyser/geyserlaw17.StripeEsis", spec := "stripeEsis", inPlace := ["internal/reflectlite.ValueOf", "(internal/reflectlite.Value).Type", "(internal/reflectlite.Value).IsNil", "internal/reflectlite.TypeOf", "(internal/reflectlite.Value).Elem", "(internal/reflectlite.Value).Set"], unfollowed := true, recurses := true, named := ["errors.errorType"], apart := false, laid := [("errors.errorType", laid_errors_errorType)] }
def StripeEsisSaid : Prop := stripeEsisRow.holds Tryd.pinned (OpenSpec.ofChange stripeEsisSpec)

/-- ITS FALSE NEIGHBOUR: 'it returns false'. Refute it at one input. -/
def stripeEsisWrong : ChangeSpec := { name := "stripeEsis", fn := fun _ => fun
  | [d1, d2, d3] => { results := [.lit (.bool false)], args := [d1, d2, d3] }
  | _ => none }
def StripeEsisWrongFalsely : Prop := stripeEsisRow.holds Tryd.pinned (OpenSpec.ofChange stripeEsisWrong)

/- THE SECOND FORM. 'bulk': how many values and letters a reading holds, each counted each time it is reached (what is shared counts as often as it is met; a slice's spare places count too). A statement '..UptoSaid' is the law's where the arguments, and the package variables that the reading takes, are together of bulk at most 1048576: NARROWER than '..Said'. Prove '..Said' where nothing that the law and all that it calls make is longer than what came in: it says more and counts as full. Else prove '..UptoSaid'. A law counts once. -/
mutual
def uptoBulk {H : Type} : DataW H → Nat
  | .lit (.string bytes) => bytes.length + 1
  | .lit _ => 1
  | .nil => 1
  | .ptr d => uptoBulk d + 1
  | .slice elems spare => uptoBulkAll elems + uptoBulkAll spare + 1
  | .agg parts => uptoBulkAll parts + 1
  | .iface _ d => uptoBulk d + 1
  | .map entries => uptoBulkEntries entries + 1
  | .held _ => 1
def uptoBulkAll {H : Type} : List (DataW H) → Nat
  | [] => 0
  | d :: r => uptoBulk d + uptoBulkAll r
def uptoBulkEntries {H : Type} : List (Lit × DataW H) → Nat
  | [] => 0
  | x :: r => uptoBulkEntry x + uptoBulkEntries r
def uptoBulkEntry {H : Type} : Lit × DataW H → Nat
  | (.string bytes, d) => bytes.length + uptoBulk d + 1
  | (_, d) => uptoBulk d + 1
 end
def uptoSmall : (H : Type) → List (DataW H) → Bool := fun _ ds => decide (uptoBulkAll ds ≤ 1048576)
def OpenSpec.upto (s : _root_.Go.ChangeSpec) : _root_.Go.OpenSpec := { _root_.Go.OpenSpec.ofChange s with cond := some uptoSmall }

/-- 'geyserlaw17.StripeReverses', WHERE WHAT IT READS IS OF BULK AT MOST 1048576: true; the input reads as it did. -/
def stripeReversesUptoRow : OpenClaim := { program := "ytlhpkfonffijfaadoor", sum := "80b6e880db1b7f0f7e3e2003d24c0ebf0a13f363f092b2995c5e4cddcb0d407c", func := "geyser/geyserlaw17.StripeReverses", spec := "stripeReverses", inPlace := ["internal/reflectlite.ValueOf", "(internal/reflectlite.Value).Type", "(internal/reflectlite.Value).IsNil", "internal/reflectlite.TypeOf", "(internal/reflectlite.Value).Elem", "(internal/reflectlite.Value).Set"], unfollowed := true, recurses := true, named := ["errors.errorType"], apart := false, laid := [("errors.errorType", laid_errors_errorType)], narrowed := true }
def StripeReversesUptoSaid : Prop := stripeReversesUptoRow.holds Tryd.pinned (OpenSpec.upto stripeReversesSpec)

/-- 'geyserlaw17.StripeChunks', WHERE WHAT IT READS IS OF BULK AT MOST 1048576: true; the input reads as it did. -/
def stripeChunksUptoRow : OpenClaim := { program := "ytlhpkfonffijfaadoor", sum := "80b6e880db1b7f0f7e3e2003d24c0ebf0a13f363f092b2995c5e4cddcb0d407c", func := "geyser/geyserlaw17.StripeChunks", spec := "stripeChunks", inPlace := ["internal/reflectlite.ValueOf", "(internal/reflectlite.Value).Type", "(internal/reflectlite.Value).IsNil", "internal/reflectlite.TypeOf", "(internal/reflectlite.Value).Elem", "(internal/reflectlite.Value).Set"], unfollowed := true, recurses := true, named := ["errors.errorType"], apart := false, laid := [("errors.errorType", laid_errors_errorType)], narrowed := true }
def StripeChunksUptoSaid : Prop := stripeChunksUptoRow.holds Tryd.pinned (OpenSpec.upto stripeChunksSpec)

/-- 'geyserlaw17.StripeLevels', WHERE WHAT IT READS IS OF BULK AT MOST 1048576: true; the input reads as it did. -/
def stripeLevelsUptoRow : OpenClaim := { program := "ytlhpkfonffijfaadoor", sum := "80b6e880db1b7f0f7e3e2003d24c0ebf0a13f363f092b2995c5e4cddcb0d407c", func := "geyser/geyserlaw17.StripeLevels", spec := "stripeLevels", inPlace := ["internal/reflectlite.ValueOf", "(internal/reflectlite.Value).Type", "(internal/reflectlite.Value).IsNil", "internal/reflectlite.TypeOf", "(internal/reflectlite.Value).Elem", "(internal/reflectlite.Value).Set"], unfollowed := true, recurses := true, named := ["errors.errorType"], apart := false, laid := [("errors.errorType", laid_errors_errorType)], narrowed := true }
def StripeLevelsUptoSaid : Prop := stripeLevelsUptoRow.holds Tryd.pinned (OpenSpec.upto stripeLevelsSpec)

/-- 'geyserlaw17.StripeEsis', WHERE WHAT IT READS IS OF BULK AT MOST 1048576: true; the input reads as it did. -/
def stripeEsisUptoRow : OpenClaim := { program := "ytlhpkfonffijfaadoor", sum := "80b6e880db1b7f0f7e3e2003d24c0ebf0a13f363f092b2995c5e4cddcb0d407c", func := "geyser/geyserlaw17.StripeEsis", spec := "stripeEsis", inPlace := ["internal/reflectlite.ValueOf", "(internal/reflectlite.Value).Type", "(internal/reflectlite.Value).IsNil", "internal/reflectlite.TypeOf", "(internal/reflectlite.Value).Elem", "(internal/reflectlite.Value).Set"], unfollowed := true, recurses := true, named := ["errors.errorType"], apart := false, laid := [("errors.errorType", laid_errors_errorType)], narrowed := true }
def StripeEsisUptoSaid : Prop := stripeEsisUptoRow.holds Tryd.pinned (OpenSpec.upto stripeEsisSpec)

end Rows
end Go.Proofs.YtlhpkfonffijfaaDoor
