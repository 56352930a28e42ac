/-
  No cell of these rows narrows 'for every input' (looked for: loops, veiled, ifaces, maps, wideKeys, modest, calm, conditions, laid).
  DERIVED. THE GIVEN ROWS OF THIS SEAT. 3 by the template 'for every input the law returns true; each argument reads behind the call as it read before'; 0 by the template 'total and deterministic' (their statements: YtpnjjbbpcdeooaaTotals.lean).
  GIVEN WITH THE SEED: the statements are not yours to turn. If you find one false, say at which input.
  Laid BY PROGRAM, IN A SANDBOX (cutbox-rows.mjs): the forced cells as the released guide's own fill.sh prints them over the translation a3d50ac66c3d63c1… (all of the seat's roots in one cut). By AI agents, Wed Nov 11 2026. No macro, syntax, notation, axiom, sorry.
-/
import Derived.Test.YtpnjjbbpcdeooaaChecked
import GoSem.Claim
import GoSem.ClaimJoined
import GoSem.ClaimMapViews
import Derived.JoinedTies
import Derived.KernelRfl
namespace Go.Proofs.Ytpnjjbbpcdeooaa
/- THE CELL 'sum', in the pinned program and in every row, IS THE sha256 OF THE DUMP (.gsa) THAT YtpnjjbbpcdeooaaProg.lean LOADS. Nothing in Lean hashes anything: it is a label: what it is worth is what the hold of that sum in a sandbox is worth. -/
noncomputable def Try.pinned : Pinned := { name := "ytpnjjbbpcdeooaa", sum := "a3d50ac66c3d63c1e29167c2aed67e5125664e0fbeb04ccc2d1eea9846d1775b", checked := Try.checked }
namespace Rows
def none {H : Type} : Left H := { results := [], args := [] }

/-- 'geyserlaw09.PrecodeRank': WHATEVER THE INPUT: true; the input reads as it did. -/
def precodeRankSpec : ChangeSpec := { name := "precodeRank", fn := fun _ => fun
  | [d] => { results := [.lit (.bool true)], args := [d] }
  | _ => none }
def precodeRankRow : OpenClaim := { program := "ytpnjjbbpcdeooaa", sum := "a3d50ac66c3d63c1e29167c2aed67e5125664e0fbeb04ccc2d1eea9846d1775b", func := "geyser/geyserlaw09.PrecodeRank", spec := "precodeRank", unfollowed := true, recurses := true, apart := false }
def PrecodeRankSaid : Prop := precodeRankRow.holds Try.pinned (OpenSpec.ofChange precodeRankSpec)

/-- ITS FALSE NEIGHBOUR: 'it returns false'. Refute it at one input. -/
def precodeRankWrong : ChangeSpec := { name := "precodeRank", fn := fun _ => fun
  | [d] => { results := [.lit (.bool false)], args := [d] }
  | _ => none }
def PrecodeRankWrongFalsely : Prop := precodeRankRow.holds Try.pinned (OpenSpec.ofChange precodeRankWrong)

/-- 'geyserlaw09.PrecodeThree': WHATEVER THE INPUT: true; the input reads as it did. -/
def precodeThreeSpec : ChangeSpec := { name := "precodeThree", fn := fun _ => fun
  | [d1, d2] => { results := [.lit (.bool true)], args := [d1, d2] }
  | _ => none }
def precodeThreeRow : OpenClaim := { program := "ytpnjjbbpcdeooaa", sum := "a3d50ac66c3d63c1e29167c2aed67e5125664e0fbeb04ccc2d1eea9846d1775b", func := "geyser/geyserlaw09.PrecodeThree", spec := "precodeThree", unfollowed := true, recurses := true, apart := false }
def PrecodeThreeSaid : Prop := precodeThreeRow.holds Try.pinned (OpenSpec.ofChange precodeThreeSpec)

/-- ITS FALSE NEIGHBOUR: 'it returns false'. Refute it at one input. -/
def precodeThreeWrong : ChangeSpec := { name := "precodeThree", fn := fun _ => fun
  | [d1, d2] => { results := [.lit (.bool false)], args := [d1, d2] }
  | _ => none }
def PrecodeThreeWrongFalsely : Prop := precodeThreeRow.holds Try.pinned (OpenSpec.ofChange precodeThreeWrong)

/-- 'geyserlaw09.PrecodeApart': WHATEVER THE INPUT: true; the input reads as it did. -/
def precodeApartSpec : ChangeSpec := { name := "precodeApart", fn := fun _ => fun
  | [d1, d2, d3] => { results := [.lit (.bool true)], args := [d1, d2, d3] }
  | _ => none }
def precodeApartRow : OpenClaim := { program := "ytpnjjbbpcdeooaa", sum := "a3d50ac66c3d63c1e29167c2aed67e5125664e0fbeb04ccc2d1eea9846d1775b", func := "geyser/geyserlaw09.PrecodeApart", spec := "precodeApart", unfollowed := true, recurses := true, apart := false }
def PrecodeApartSaid : Prop := precodeApartRow.holds Try.pinned (OpenSpec.ofChange precodeApartSpec)

/-- ITS FALSE NEIGHBOUR: 'it returns false'. Refute it at one input. -/
def precodeApartWrong : ChangeSpec := { name := "precodeApart", fn := fun _ => fun
  | [d1, d2, d3] => { results := [.lit (.bool false)], args := [d1, d2, d3] }
  | _ => none }
def PrecodeApartWrongFalsely : Prop := precodeApartRow.holds Try.pinned (OpenSpec.ofChange precodeApartWrong)

/- THE SECOND FORM. 'bulk': how many values and letters a reading holds, each counted each time it is reached (what is shared counts as often as it is met; a slice's spare places count too). A statement '..UptoSaid' is the law's where the arguments, and the package variables that the reading takes, are together of bulk at most 1048576: NARROWER than '..Said'. Prove '..Said' where nothing that the law and all that it calls make is longer than what came in: it says more and counts as full. Else prove '..UptoSaid'. A law counts once. -/
mutual
def uptoBulk {H : Type} : DataW H → Nat
  | .lit (.string bytes) => bytes.length + 1
  | .lit _ => 1
  | .nil => 1
  | .ptr d => uptoBulk d + 1
  | .slice elems spare => uptoBulkAll elems + uptoBulkAll spare + 1
  | .agg parts => uptoBulkAll parts + 1
  | .iface _ d => uptoBulk d + 1
  | .map entries => uptoBulkEntries entries + 1
  | .held _ => 1
def uptoBulkAll {H : Type} : List (DataW H) → Nat
  | [] => 0
  | d :: r => uptoBulk d + uptoBulkAll r
def uptoBulkEntries {H : Type} : List (Lit × DataW H) → Nat
  | [] => 0
  | x :: r => uptoBulkEntry x + uptoBulkEntries r
def uptoBulkEntry {H : Type} : Lit × DataW H → Nat
  | (.string bytes, d) => bytes.length + uptoBulk d + 1
  | (_, d) => uptoBulk d + 1
 end
def uptoSmall : (H : Type) → List (DataW H) → Bool := fun _ ds => decide (uptoBulkAll ds ≤ 1048576)
def OpenSpec.upto (s : _root_.Go.ChangeSpec) : _root_.Go.OpenSpec := { _root_.Go.OpenSpec.ofChange s with cond := some uptoSmall }

/-- 'geyserlaw09.PrecodeRank', WHERE WHAT IT READS IS OF BULK AT MOST 1048576: true; the input reads as it did. -/
def precodeRankUptoRow : OpenClaim := { program := "ytpnjjbbpcdeooaa", sum := "a3d50ac66c3d63c1e29167c2aed67e5125664e0fbeb04ccc2d1eea9846d1775b", func := "geyser/geyserlaw09.PrecodeRank", spec := "precodeRank", unfollowed := true, recurses := true, apart := false, narrowed := true }
def PrecodeRankUptoSaid : Prop := precodeRankUptoRow.holds Try.pinned (OpenSpec.upto precodeRankSpec)

/-- 'geyserlaw09.PrecodeThree', WHERE WHAT IT READS IS OF BULK AT MOST 1048576: true; the input reads as it did. -/
def precodeThreeUptoRow : OpenClaim := { program := "ytpnjjbbpcdeooaa", sum := "a3d50ac66c3d63c1e29167c2aed67e5125664e0fbeb04ccc2d1eea9846d1775b", func := "geyser/geyserlaw09.PrecodeThree", spec := "precodeThree", unfollowed := true, recurses := true, apart := false, narrowed := true }
def PrecodeThreeUptoSaid : Prop := precodeThreeUptoRow.holds Try.pinned (OpenSpec.upto precodeThreeSpec)

/-- 'geyserlaw09.PrecodeApart', WHERE WHAT IT READS IS OF BULK AT MOST 1048576: true; the input reads as it did. -/
def precodeApartUptoRow : OpenClaim := { program := "ytpnjjbbpcdeooaa", sum := "a3d50ac66c3d63c1e29167c2aed67e5125664e0fbeb04ccc2d1eea9846d1775b", func := "geyser/geyserlaw09.PrecodeApart", spec := "precodeApart", unfollowed := true, recurses := true, apart := false, narrowed := true }
def PrecodeApartUptoSaid : Prop := precodeApartUptoRow.holds Try.pinned (OpenSpec.upto precodeApartSpec)

end Rows
end Go.Proofs.Ytpnjjbbpcdeooaa
