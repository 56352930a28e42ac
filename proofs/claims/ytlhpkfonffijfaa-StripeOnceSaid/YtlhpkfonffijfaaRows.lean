/-
  No cell of these rows narrows 'for every input' (looked for: loops, veiled, ifaces, maps, wideKeys, modest, calm, conditions, laid).
  DERIVED. THE GIVEN ROWS OF THIS SEAT. 3 by the template 'for every input the law returns true; each argument reads behind the call as it read before'; 0 by the template 'total and deterministic' (their statements: YtlhpkfonffijfaaTotals.lean).
  GIVEN WITH THE SEED: the statements are not yours to turn. If you find one false, say at which input.
  Laid BY PROGRAM, IN A SANDBOX (cutbox-rows.mjs): the forced cells as the released guide's own fill.sh prints them over the translation e7e565b1f1e4f67a… (all of the seat's roots in one cut). By AI agents, Wed Nov 11 2026. No macro, syntax, notation, axiom, sorry.
-/
import Derived.Test.YtlhpkfonffijfaaChecked
import GoSem.Claim
import GoSem.ClaimJoined
import GoSem.ClaimMapViews
import Derived.JoinedTies
import Derived.KernelRfl
namespace Go.Proofs.Ytlhpkfonffijfaa
/- THE CELL 'sum', in the pinned program and in every row, IS THE sha256 OF THE DUMP (.gsa) THAT YtlhpkfonffijfaaProg.lean LOADS. Nothing in Lean hashes anything: it is a label: what it is worth is what the hold of that sum in a sandbox is worth. -/
noncomputable def Try.pinned : Pinned := { name := "ytlhpkfonffijfaa", sum := "e7e565b1f1e4f67a1450f1e5c2127eef42221f70347f6a2abd7c5fcffd339241", checked := Try.checked }
namespace Rows
def none {H : Type} : Left H := { results := [], args := [] }

/-- 'geyserlaw17.StripeOnce': WHATEVER THE INPUT: true; the input reads as it did. -/
def stripeOnceSpec : ChangeSpec := { name := "stripeOnce", fn := fun _ => fun
  | [d1, d2, d3] => { results := [.lit (.bool true)], args := [d1, d2, d3] }
  | _ => none }
def stripeOnceRow : OpenClaim := { program := "ytlhpkfonffijfaa", sum := "e7e565b1f1e4f67a1450f1e5c2127eef42221f70347f6a2abd7c5fcffd339241", func := "geyser/geyserlaw17.StripeOnce", spec := "stripeOnce", unfollowed := true, recurses := true, apart := false }
def StripeOnceSaid : Prop := stripeOnceRow.holds Try.pinned (OpenSpec.ofChange stripeOnceSpec)

/-- ITS FALSE NEIGHBOUR: 'it returns false'. Refute it at one input. -/
def stripeOnceWrong : ChangeSpec := { name := "stripeOnce", fn := fun _ => fun
  | [d1, d2, d3] => { results := [.lit (.bool false)], args := [d1, d2, d3] }
  | _ => none }
def StripeOnceWrongFalsely : Prop := stripeOnceRow.holds Try.pinned (OpenSpec.ofChange stripeOnceWrong)

/-- 'geyserlaw17.StripeApart': WHATEVER THE INPUT: true; the input reads as it did. -/
def stripeApartSpec : ChangeSpec := { name := "stripeApart", fn := fun _ => fun
  | [d1, d2] => { results := [.lit (.bool true)], args := [d1, d2] }
  | _ => none }
def stripeApartRow : OpenClaim := { program := "ytlhpkfonffijfaa", sum := "e7e565b1f1e4f67a1450f1e5c2127eef42221f70347f6a2abd7c5fcffd339241", func := "geyser/geyserlaw17.StripeApart", spec := "stripeApart", unfollowed := true, recurses := true, apart := false }
def StripeApartSaid : Prop := stripeApartRow.holds Try.pinned (OpenSpec.ofChange stripeApartSpec)

/-- ITS FALSE NEIGHBOUR: 'it returns false'. Refute it at one input. -/
def stripeApartWrong : ChangeSpec := { name := "stripeApart", fn := fun _ => fun
  | [d1, d2] => { results := [.lit (.bool false)], args := [d1, d2] }
  | _ => none }
def StripeApartWrongFalsely : Prop := stripeApartRow.holds Try.pinned (OpenSpec.ofChange stripeApartWrong)

/-- 'geyserlaw17.StripeNests': WHATEVER THE INPUT: true; the input reads as it did. -/
def stripeNestsSpec : ChangeSpec := { name := "stripeNests", fn := fun _ => fun
  | [d1, d2, d3] => { results := [.lit (.bool true)], args := [d1, d2, d3] }
  | _ => none }
def stripeNestsRow : OpenClaim := { program := "ytlhpkfonffijfaa", sum := "e7e565b1f1e4f67a1450f1e5c2127eef42221f70347f6a2abd7c5fcffd339241", func := "geyser/geyserlaw17.StripeNests", spec := "stripeNests", unfollowed := true, recurses := true, apart := false }
def StripeNestsSaid : Prop := stripeNestsRow.holds Try.pinned (OpenSpec.ofChange stripeNestsSpec)

/-- ITS FALSE NEIGHBOUR: 'it returns false'. Refute it at one input. -/
def stripeNestsWrong : ChangeSpec := { name := "stripeNests", fn := fun _ => fun
  | [d1, d2, d3] => { results := [.lit (.bool false)], args := [d1, d2, d3] }
  | _ => none }
def StripeNestsWrongFalsely : Prop := stripeNestsRow.holds Try.pinned (OpenSpec.ofChange stripeNestsWrong)

/- THE SECOND FORM. 'bulk': how many values and letters a reading holds, each counted each time it is reached (what is shared counts as often as it is met; a slice's spare places count too). A statement '..UptoSaid' is the law's where the arguments, and the package variables that the reading takes, are together of bulk at most 1048576: NARROWER than '..Said'. Prove '..Said' where nothing that the law and all that it calls make is longer than what came in: it says more and counts as full. Else prove '..UptoSaid'. A law counts once. -/
mutual
def uptoBulk {H : Type} : DataW H → Nat
  | .lit (.string bytes) => bytes.length + 1
  | .lit _ => 1
  | .nil => 1
  | .ptr d => uptoBulk d + 1
  | .slice elems spare => uptoBulkAll elems + uptoBulkAll spare + 1
  | .agg parts => uptoBulkAll parts + 1
  | .iface _ d => uptoBulk d + 1
  | .map entries => uptoBulkEntries entries + 1
  | .held _ => 1
def uptoBulkAll {H : Type} : List (DataW H) → Nat
  | [] => 0
  | d :: r => uptoBulk d + uptoBulkAll r
def uptoBulkEntries {H : Type} : List (Lit × DataW H) → Nat
  | [] => 0
  | x :: r => uptoBulkEntry x + uptoBulkEntries r
def uptoBulkEntry {H : Type} : Lit × DataW H → Nat
  | (.string bytes, d) => bytes.length + uptoBulk d + 1
  | (_, d) => uptoBulk d + 1
 end
def uptoSmall : (H : Type) → List (DataW H) → Bool := fun _ ds => decide (uptoBulkAll ds ≤ 1048576)
def OpenSpec.upto (s : _root_.Go.ChangeSpec) : _root_.Go.OpenSpec := { _root_.Go.OpenSpec.ofChange s with cond := some uptoSmall }

/-- 'geyserlaw17.StripeOnce', WHERE WHAT IT READS IS OF BULK AT MOST 1048576: true; the input reads as it did. -/
def stripeOnceUptoRow : OpenClaim := { program := "ytlhpkfonffijfaa", sum := "e7e565b1f1e4f67a1450f1e5c2127eef42221f70347f6a2abd7c5fcffd339241", func := "geyser/geyserlaw17.StripeOnce", spec := "stripeOnce", unfollowed := true, recurses := true, apart := false, narrowed := true }
def StripeOnceUptoSaid : Prop := stripeOnceUptoRow.holds Try.pinned (OpenSpec.upto stripeOnceSpec)

/-- 'geyserlaw17.StripeApart', WHERE WHAT IT READS IS OF BULK AT MOST 1048576: true; the input reads as it did. -/
def stripeApartUptoRow : OpenClaim := { program := "ytlhpkfonffijfaa", sum := "e7e565b1f1e4f67a1450f1e5c2127eef42221f70347f6a2abd7c5fcffd339241", func := "geyser/geyserlaw17.StripeApart", spec := "stripeApart", unfollowed := true, recurses := true, apart := false, narrowed := true }
def StripeApartUptoSaid : Prop := stripeApartUptoRow.holds Try.pinned (OpenSpec.upto stripeApartSpec)

/-- 'geyserlaw17.StripeNests', WHERE WHAT IT READS IS OF BULK AT MOST 1048576: true; the input reads as it did. -/
def stripeNestsUptoRow : OpenClaim := { program := "ytlhpkfonffijfaa", sum := "e7e565b1f1e4f67a1450f1e5c2127eef42221f70347f6a2abd7c5fcffd339241", func := "geyser/geyserlaw17.StripeNests", spec := "stripeNests", unfollowed := true, recurses := true, apart := false, narrowed := true }
def StripeNestsUptoSaid : Prop := stripeNestsUptoRow.holds Try.pinned (OpenSpec.upto stripeNestsSpec)

end Rows
end Go.Proofs.Ytlhpkfonffijfaa
