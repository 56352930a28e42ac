/-
  NARROWER THAN 'FOR EVERY INPUT', by the rows' own cells (each row's printed sentence says how): EncodePlays: laid · EncodeRefuses: laid · EncodeSource: laid · EncodeSums: laid · EncodeGoes: laid · EncodeSomes: laid · EncodeNil: laid.
  DERIVED. THE GIVEN ROWS OF THIS SEAT. 7 by the template 'for every input the law returns true; each argument reads behind the call as it read before'; 0 by the template 'total and deterministic' (their statements: YtfibolkgpffjkaaGreatDoorTotals.lean).
  GIVEN WITH THE SEED: the statements are not yours to turn. If you find one false, say at which input.
  Laid BY PROGRAM, IN A SANDBOX (cutbox-rows.mjs): the forced cells as the released guide's own fill.sh prints them over the translation 928ab7db950da402… (all of the seat's roots in one cut). By AI agents, Wed Nov 11 2026. No macro, syntax, notation, axiom, sorry.
-/
import Derived.Test.YtfibolkgpffjkaaGreatDoorChecked
import GoSem.Claim
import GoSem.ClaimJoined
import GoSem.ClaimMapViews
import Derived.JoinedTies
import Derived.KernelRfl
namespace Go.Proofs.YtfibolkgpffjkaaGreatDoor
/- THE CELL 'sum', in the pinned program and in every row, IS THE sha256 OF THE DUMP (.gsa) THAT YtfibolkgpffjkaaGreatDoorProg.lean LOADS. Nothing in Lean hashes anything: it is a label: what it is worth is what the hold of that sum in a sandbox is worth. -/
noncomputable def Tryz.pinned : Pinned := { name := "ytfibolkgpffjkaagreatdoor", sum := "928ab7db950da402a5b1e3af73e19e32a263102b1213dd08f6629123bf5db527", checked := Tryz.checked }
namespace Rows
def none {H : Type} : Left H := { results := [], args := [] }

/- WHAT THE LISTED PACKAGE-LEVEL VARIABLES READ AS WHEN THE CALL BEGINS. Each datum BY PROGRAM (the guide's laid-datum.mjs) off the statement by which the dump's own 'gosem.cut.vars' lays the variable. In a bare row this is a premise. The card (YtfibolkgpffjkaaGreatDoorCards.lean) ties it to the program's text. -/
def laid_math_bits_deBruijn64tab {H : Type} : DataW H := .agg [.lit (.int .u8 0), .lit (.int .u8 1), .lit (.int .u8 56), .lit (.int .u8 2), .lit (.int .u8 57), .lit (.int .u8 49), .lit (.int .u8 28), .lit (.int .u8 3), .lit (.int .u8 61), .lit (.int .u8 58), .lit (.int .u8 42), .lit (.int .u8 50), .lit (.int .u8 38), .lit (.int .u8 29), .lit (.int .u8 17), .lit (.int .u8 4), .lit (.int .u8 62), .lit (.int .u8 47), .lit (.int .u8 59), .lit (.int .u8 36), .lit (.int .u8 45), .lit (.int .u8 43), .lit (.int .u8 51), .lit (.int .u8 22), .lit (.int .u8 53), .lit (.int .u8 39), .lit (.int .u8 33), .lit (.int .u8 30), .lit (.int .u8 24), .lit (.int .u8 18), .lit (.int .u8 12), .lit (.int .u8 5), .lit (.int .u8 63), .lit (.int .u8 55), .lit (.int .u8 48), .lit (.int .u8 27), .lit (.int .u8 60), .lit (.int .u8 41), .lit (.int .u8 37), .lit (.int .u8 16), .lit (.int .u8 46), .lit (.int .u8 35), .lit (.int .u8 44), .lit (.int .u8 21), .lit (.int .u8 52), .lit (.int .u8 32), .lit (.int .u8 23), .lit (.int .u8 11), .lit (.int .u8 54), .lit (.int .u8 26), .lit (.int .u8 40), .lit (.int .u8 15), .lit (.int .u8 34), .lit (.int .u8 20), .lit (.int .u8 31), .lit (.int .u8 10), .lit (.int .u8 25), .lit (.int .u8 14), .lit (.int .u8 19), .lit (.int .u8 9), .lit (.int .u8 13), .lit (.int .u8 8), .lit (.int .u8 7), .lit (.int .u8 6)]
def laid_errors_errorType {H : Type} : DataW H := .iface "internal/reflectlite.rtype" (.agg [.ptr (.lit (.string [101, 114, 114, 111, 114]))])
def laid_geyser_degree_table {H : Type} : DataW H := .agg [.agg [.lit (.int .i64 10241), .lit (.int .i64 1)], .agg [.lit (.int .i64 491582), .lit (.int .i64 2)], .agg [.lit (.int .i64 712794), .lit (.int .i64 3)], .agg [.lit (.int .i64 831695), .lit (.int .i64 4)], .agg [.lit (.int .i64 948446), .lit (.int .i64 10)], .agg [.lit (.int .i64 1032189), .lit (.int .i64 11)], .agg [.lit (.int .i64 1048576), .lit (.int .i64 40)]]

/-- 'geyserlaw12.EncodePlays': WHATEVER THE INPUT: true; the input reads as it did. -/
def encodePlaysSpec : ChangeSpec := { name := "encodePlays", fn := fun _ => fun
  | [d1, d2] => { results := [.lit (.bool true)], args := [d1, d2] }
  | _ => none }
def encodePlaysRow : OpenClaim := { program := "ytfibolkgpffjkaagreatdoor", sum := "928ab7db950da402a5b1e3af73e19e32a263102b1213dd08f6629123bf5db527", func := "geyser/geyserlaw12.EncodePlays", spec := "encodePlays", inPlace := ["internal/reflectlite.TypeOf", "internal/reflectlite.ValueOf", "(internal/reflectlite.Value).Type", "(internal/reflectlite.Value).IsNil", "(internal/reflectlite.Value).Elem", "(internal/reflectlite.Value).Set"], unfollowed := true, recurses := true, named := ["math/bits.deBruijn64tab", "geyser/degree.table", "errors.errorType"], apart := false, laid := [("math/bits.deBruijn64tab", laid_math_bits_deBruijn64tab), ("errors.errorType", laid_errors_errorType), ("geyser/degree.table", laid_geyser_degree_table)] }
def EncodePlaysSaid : Prop := encodePlaysRow.holds Tryz.pinned (OpenSpec.ofChange encodePlaysSpec)

/-- ITS FALSE NEIGHBOUR: 'it returns false'. Refute it at one input. -/
def encodePlaysWrong : ChangeSpec := { name := "encodePlays", fn := fun _ => fun
  | [d1, d2] => { results := [.lit (.bool false)], args := [d1, d2] }
  | _ => none }
def EncodePlaysWrongFalsely : Prop := encodePlaysRow.holds Tryz.pinned (OpenSpec.ofChange encodePlaysWrong)

/-- 'geyserlaw12.EncodeRefuses': WHATEVER THE INPUT: true; the input reads as it did. -/
def encodeRefusesSpec : ChangeSpec := { name := "encodeRefuses", fn := fun _ => fun
  | [d1, d2] => { results := [.lit (.bool true)], args := [d1, d2] }
  | _ => none }
def encodeRefusesRow : OpenClaim := { program := "ytfibolkgpffjkaagreatdoor", sum := "928ab7db950da402a5b1e3af73e19e32a263102b1213dd08f6629123bf5db527", func := "geyser/geyserlaw12.EncodeRefuses", spec := "encodeRefuses", inPlace := ["internal/reflectlite.TypeOf", "internal/reflectlite.ValueOf", "(internal/reflectlite.Value).Type", "(internal/reflectlite.Value).IsNil", "(internal/reflectlite.Value).Elem", "(internal/reflectlite.Value).Set"], unfollowed := true, recurses := true, named := ["math/bits.deBruijn64tab", "geyser/degree.table", "errors.errorType"], apart := false, laid := [("math/bits.deBruijn64tab", laid_math_bits_deBruijn64tab), ("errors.errorType", laid_errors_errorType), ("geyser/degree.table", laid_geyser_degree_table)] }
def EncodeRefusesSaid : Prop := encodeRefusesRow.holds Tryz.pinned (OpenSpec.ofChange encodeRefusesSpec)

/-- ITS FALSE NEIGHBOUR: 'it returns false'. Refute it at one input. -/
def encodeRefusesWrong : ChangeSpec := { name := "encodeRefuses", fn := fun _ => fun
  | [d1, d2] => { results := [.lit (.bool false)], args := [d1, d2] }
  | _ => none }
def EncodeRefusesWrongFalsely : Prop := encodeRefusesRow.holds Tryz.pinned (OpenSpec.ofChange encodeRefusesWrong)

/-- 'geyserlaw12.EncodeSource': WHATEVER THE INPUT: true; the input reads as it did. -/
def encodeSourceSpec : ChangeSpec := { name := "encodeSource", fn := fun _ => fun
  | [d1, d2] => { results := [.lit (.bool true)], args := [d1, d2] }
  | _ => none }
def encodeSourceRow : OpenClaim := { program := "ytfibolkgpffjkaagreatdoor", sum := "928ab7db950da402a5b1e3af73e19e32a263102b1213dd08f6629123bf5db527", func := "geyser/geyserlaw12.EncodeSource", spec := "encodeSource", inPlace := ["internal/reflectlite.TypeOf"], unfollowed := true, recurses := true, named := ["math/bits.deBruijn64tab", "geyser/degree.table"], apart := false, laid := [("math/bits.deBruijn64tab", laid_math_bits_deBruijn64tab), ("geyser/degree.table", laid_geyser_degree_table)] }
def EncodeSourceSaid : Prop := encodeSourceRow.holds Tryz.pinned (OpenSpec.ofChange encodeSourceSpec)

/-- ITS FALSE NEIGHBOUR: 'it returns false'. Refute it at one input. -/
def encodeSourceWrong : ChangeSpec := { name := "encodeSource", fn := fun _ => fun
  | [d1, d2] => { results := [.lit (.bool false)], args := [d1, d2] }
  | _ => none }
def EncodeSourceWrongFalsely : Prop := encodeSourceRow.holds Tryz.pinned (OpenSpec.ofChange encodeSourceWrong)

/-- 'geyserlaw12.EncodeSums': WHATEVER THE INPUT: true; the input reads as it did. -/
def encodeSumsSpec : ChangeSpec := { name := "encodeSums", fn := fun _ => fun
  | [d1, d2, d3] => { results := [.lit (.bool true)], args := [d1, d2, d3] }
  | _ => none }
def encodeSumsRow : OpenClaim := { program := "ytfibolkgpffjkaagreatdoor", sum := "928ab7db950da402a5b1e3af73e19e32a263102b1213dd08f6629123bf5db527", func := "geyser/geyserlaw12.EncodeSums", spec := "encodeSums", inPlace := ["internal/reflectlite.TypeOf"], unfollowed := true, recurses := true, named := ["math/bits.deBruijn64tab", "geyser/degree.table"], apart := false, laid := [("math/bits.deBruijn64tab", laid_math_bits_deBruijn64tab), ("geyser/degree.table", laid_geyser_degree_table)] }
def EncodeSumsSaid : Prop := encodeSumsRow.holds Tryz.pinned (OpenSpec.ofChange encodeSumsSpec)

/-- ITS FALSE NEIGHBOUR: 'it returns false'. Refute it at one input. -/
def encodeSumsWrong : ChangeSpec := { name := "encodeSums", fn := fun _ => fun
  | [d1, d2, d3] => { results := [.lit (.bool false)], args := [d1, d2, d3] }
  | _ => none }
def EncodeSumsWrongFalsely : Prop := encodeSumsRow.holds Tryz.pinned (OpenSpec.ofChange encodeSumsWrong)

/-- 'geyserlaw12.EncodeGoes': WHATEVER THE INPUT: true; the input reads as it did. -/
def encodeGoesSpec : ChangeSpec := { name := "encodeGoes", fn := fun _ => fun
  | [d1, d2, d3] => { results := [.lit (.bool true)], args := [d1, d2, d3] }
  | _ => none }
def encodeGoesRow : OpenClaim := { program := "ytfibolkgpffjkaagreatdoor", sum := "928ab7db950da402a5b1e3af73e19e32a263102b1213dd08f6629123bf5db527", func := "geyser/geyserlaw12.EncodeGoes", spec := "encodeGoes", inPlace := ["internal/reflectlite.TypeOf"], unfollowed := true, recurses := true, named := ["math/bits.deBruijn64tab", "geyser/degree.table"], apart := false, laid := [("math/bits.deBruijn64tab", laid_math_bits_deBruijn64tab), ("geyser/degree.table", laid_geyser_degree_table)] }
def EncodeGoesSaid : Prop := encodeGoesRow.holds Tryz.pinned (OpenSpec.ofChange encodeGoesSpec)

/-- ITS FALSE NEIGHBOUR: 'it returns false'. Refute it at one input. -/
def encodeGoesWrong : ChangeSpec := { name := "encodeGoes", fn := fun _ => fun
  | [d1, d2, d3] => { results := [.lit (.bool false)], args := [d1, d2, d3] }
  | _ => none }
def EncodeGoesWrongFalsely : Prop := encodeGoesRow.holds Tryz.pinned (OpenSpec.ofChange encodeGoesWrong)

/-- 'geyserlaw12.EncodeSomes': WHATEVER THE INPUT: true; the input reads as it did. -/
def encodeSomesSpec : ChangeSpec := { name := "encodeSomes", fn := fun _ => fun
  | [d1, d2, d3] => { results := [.lit (.bool true)], args := [d1, d2, d3] }
  | _ => none }
def encodeSomesRow : OpenClaim := { program := "ytfibolkgpffjkaagreatdoor", sum := "928ab7db950da402a5b1e3af73e19e32a263102b1213dd08f6629123bf5db527", func := "geyser/geyserlaw12.EncodeSomes", spec := "encodeSomes", inPlace := ["internal/reflectlite.TypeOf"], unfollowed := true, recurses := true, named := ["math/bits.deBruijn64tab", "geyser/degree.table"], apart := false, laid := [("math/bits.deBruijn64tab", laid_math_bits_deBruijn64tab), ("geyser/degree.table", laid_geyser_degree_table)] }
def EncodeSomesSaid : Prop := encodeSomesRow.holds Tryz.pinned (OpenSpec.ofChange encodeSomesSpec)

/-- ITS FALSE NEIGHBOUR: 'it returns false'. Refute it at one input. -/
def encodeSomesWrong : ChangeSpec := { name := "encodeSomes", fn := fun _ => fun
  | [d1, d2, d3] => { results := [.lit (.bool false)], args := [d1, d2, d3] }
  | _ => none }
def EncodeSomesWrongFalsely : Prop := encodeSomesRow.holds Tryz.pinned (OpenSpec.ofChange encodeSomesWrong)

/-- 'geyserlaw12.EncodeNil': WHATEVER THE INPUT: true; the input reads as it did. -/
def encodeNilSpec : ChangeSpec := { name := "encodeNil", fn := fun _ => fun
  | [d] => { results := [.lit (.bool true)], args := [d] }
  | _ => none }
def encodeNilRow : OpenClaim := { program := "ytfibolkgpffjkaagreatdoor", sum := "928ab7db950da402a5b1e3af73e19e32a263102b1213dd08f6629123bf5db527", func := "geyser/geyserlaw12.EncodeNil", spec := "encodeNil", inPlace := ["internal/reflectlite.TypeOf", "internal/reflectlite.ValueOf", "(internal/reflectlite.Value).Type", "(internal/reflectlite.Value).IsNil", "(internal/reflectlite.Value).Elem", "(internal/reflectlite.Value).Set"], unfollowed := true, recurses := true, named := ["geyser/degree.table", "errors.errorType", "math/bits.deBruijn64tab"], apart := false, laid := [("math/bits.deBruijn64tab", laid_math_bits_deBruijn64tab), ("errors.errorType", laid_errors_errorType), ("geyser/degree.table", laid_geyser_degree_table)] }
def EncodeNilSaid : Prop := encodeNilRow.holds Tryz.pinned (OpenSpec.ofChange encodeNilSpec)

/-- ITS FALSE NEIGHBOUR: 'it returns false'. Refute it at one input. -/
def encodeNilWrong : ChangeSpec := { name := "encodeNil", fn := fun _ => fun
  | [d] => { results := [.lit (.bool false)], args := [d] }
  | _ => none }
def EncodeNilWrongFalsely : Prop := encodeNilRow.holds Tryz.pinned (OpenSpec.ofChange encodeNilWrong)

/- THE SECOND FORM. 'bulk': how many values and letters a reading holds, each counted each time it is reached (what is shared counts as often as it is met; a slice's spare places count too). A statement '..UptoSaid' is the law's where the arguments, and the package variables that the reading takes, are together of bulk at most 1048576: NARROWER than '..Said'. Prove '..Said' where nothing that the law and all that it calls make is longer than what came in: it says more and counts as full. Else prove '..UptoSaid'. A law counts once. -/
mutual
def uptoBulk {H : Type} : DataW H → Nat
  | .lit (.string bytes) => bytes.length + 1
  | .lit _ => 1
  | .nil => 1
  | .ptr d => uptoBulk d + 1
  | .slice elems spare => uptoBulkAll elems + uptoBulkAll spare + 1
  | .agg parts => uptoBulkAll parts + 1
  | .iface _ d => uptoBulk d + 1
  | .map entries => uptoBulkEntries entries + 1
  | .held _ => 1
def uptoBulkAll {H : Type} : List (DataW H) → Nat
  | [] => 0
  | d :: r => uptoBulk d + uptoBulkAll r
def uptoBulkEntries {H : Type} : List (Lit × DataW H) → Nat
  | [] => 0
  | x :: r => uptoBulkEntry x + uptoBulkEntries r
def uptoBulkEntry {H : Type} : Lit × DataW H → Nat
  | (.string bytes, d) => bytes.length + uptoBulk d + 1
  | (_, d) => uptoBulk d + 1
 end
def uptoSmall : (H : Type) → List (DataW H) → Bool := fun _ ds => decide (uptoBulkAll ds ≤ 1048576)
def OpenSpec.upto (s : _root_.Go.ChangeSpec) : _root_.Go.OpenSpec := { _root_.Go.OpenSpec.ofChange s with cond := some uptoSmall }

/-- 'geyserlaw12.EncodePlays', WHERE WHAT IT READS IS OF BULK AT MOST 1048576: true; the input reads as it did. -/
def encodePlaysUptoRow : OpenClaim := { program := "ytfibolkgpffjkaagreatdoor", sum := "928ab7db950da402a5b1e3af73e19e32a263102b1213dd08f6629123bf5db527", func := "geyser/geyserlaw12.EncodePlays", spec := "encodePlays", inPlace := ["internal/reflectlite.TypeOf", "internal/reflectlite.ValueOf", "(internal/reflectlite.Value).Type", "(internal/reflectlite.Value).IsNil", "(internal/reflectlite.Value).Elem", "(internal/reflectlite.Value).Set"], unfollowed := true, recurses := true, named := ["math/bits.deBruijn64tab", "geyser/degree.table", "errors.errorType"], apart := false, laid := [("math/bits.deBruijn64tab", laid_math_bits_deBruijn64tab), ("errors.errorType", laid_errors_errorType), ("geyser/degree.table", laid_geyser_degree_table)], narrowed := true }
def EncodePlaysUptoSaid : Prop := encodePlaysUptoRow.holds Tryz.pinned (OpenSpec.upto encodePlaysSpec)

/-- 'geyserlaw12.EncodeRefuses', WHERE WHAT IT READS IS OF BULK AT MOST 1048576: true; the input reads as it did. -/
def encodeRefusesUptoRow : OpenClaim := { program := "ytfibolkgpffjkaagreatdoor", sum := "928ab7db950da402a5b1e3af73e19e32a263102b1213dd08f6629123bf5db527", func := "geyser/geyserlaw12.EncodeRefuses", spec := "encodeRefuses", inPlace := ["internal/reflectlite.TypeOf", "internal/reflectlite.ValueOf", "(internal/reflectlite.Value).Type", "(internal/reflectlite.Value).IsNil", "(internal/reflectlite.Value).Elem", "(internal/reflectlite.Value).Set"], unfollowed := true, recurses := true, named := ["math/bits.deBruijn64tab", "geyser/degree.table", "errors.errorType"], apart := false, laid := [("math/bits.deBruijn64tab", laid_math_bits_deBruijn64tab), ("errors.errorType", laid_errors_errorType), ("geyser/degree.table", laid_geyser_degree_table)], narrowed := true }
def EncodeRefusesUptoSaid : Prop := encodeRefusesUptoRow.holds Tryz.pinned (OpenSpec.upto encodeRefusesSpec)

/-- 'geyserlaw12.EncodeSource', WHERE WHAT IT READS IS OF BULK AT MOST 1048576: true; the input reads as it did. -/
def encodeSourceUptoRow : OpenClaim := { program := "ytfibolkgpffjkaagreatdoor", sum := "928ab7db950da402a5b1e3af73e19e32a263102b1213dd08f6629123bf5db527", func := "geyser/geyserlaw12.EncodeSource", spec := "encodeSource", inPlace := ["internal/reflectlite.TypeOf"], unfollowed := true, recurses := true, named := ["math/bits.deBruijn64tab", "geyser/degree.table"], apart := false, laid := [("math/bits.deBruijn64tab", laid_math_bits_deBruijn64tab), ("geyser/degree.table", laid_geyser_degree_table)], narrowed := true }
def EncodeSourceUptoSaid : Prop := encodeSourceUptoRow.holds Tryz.pinned (OpenSpec.upto encodeSourceSpec)

/-- 'geyserlaw12.EncodeSums', WHERE WHAT IT READS IS OF BULK AT MOST 1048576: true; the input reads as it did. -/
def encodeSumsUptoRow : OpenClaim := { program := "ytfibolkgpffjkaagreatdoor", sum := "928ab7db950da402a5b1e3af73e19e32a263102b1213dd08f6629123bf5db527", func := "geyser/geyserlaw12.EncodeSums", spec := "encodeSums", inPlace := ["internal/reflectlite.TypeOf"], unfollowed := true, recurses := true, named := ["math/bits.deBruijn64tab", "geyser/degree.table"], apart := false, laid := [("math/bits.deBruijn64tab", laid_math_bits_deBruijn64tab), ("geyser/degree.table", laid_geyser_degree_table)], narrowed := true }
def EncodeSumsUptoSaid : Prop := encodeSumsUptoRow.holds Tryz.pinned (OpenSpec.upto encodeSumsSpec)

/-- 'geyserlaw12.EncodeGoes', WHERE WHAT IT READS IS OF BULK AT MOST 1048576: true; the input reads as it did. -/
def encodeGoesUptoRow : OpenClaim := { program := "ytfibolkgpffjkaagreatdoor", sum := "928ab7db950da402a5b1e3af73e19e32a263102b1213dd08f6629123bf5db527", func := "geyser/geyserlaw12.EncodeGoes", spec := "encodeGoes", inPlace := ["internal/reflectlite.TypeOf"], unfollowed := true, recurses := true, named := ["math/bits.deBruijn64tab", "geyser/degree.table"], apart := false, laid := [("math/bits.deBruijn64tab", laid_math_bits_deBruijn64tab), ("geyser/degree.table", laid_geyser_degree_table)], narrowed := true }
def EncodeGoesUptoSaid : Prop := encodeGoesUptoRow.holds Tryz.pinned (OpenSpec.upto encodeGoesSpec)

/-- 'geyserlaw12.EncodeSomes', WHERE WHAT IT READS IS OF BULK AT MOST 1048576: true; the input reads as it did. -/
def encodeSomesUptoRow : OpenClaim := { program := "ytfibolkgpffjkaagreatdoor", sum := "928ab7db950da402a5b1e3af73e19e32a263102b1213dd08f6629123bf5db527", func := "geyser/geyserlaw12.EncodeSomes", spec := "encodeSomes", inPlace := ["internal/reflectlite.TypeOf"], unfollowed := true, recurses := true, named := ["math/bits.deBruijn64tab", "geyser/degree.table"], apart := false, laid := [("math/bits.deBruijn64tab", laid_math_bits_deBruijn64tab), ("geyser/degree.table", laid_geyser_degree_table)], narrowed := true }
def EncodeSomesUptoSaid : Prop := encodeSomesUptoRow.holds Tryz.pinned (OpenSpec.upto encodeSomesSpec)

/-- 'geyserlaw12.EncodeNil', WHERE WHAT IT READS IS OF BULK AT MOST 1048576: true; the input reads as it did. -/
def encodeNilUptoRow : OpenClaim := { program := "ytfibolkgpffjkaagreatdoor", sum := "928ab7db950da402a5b1e3af73e19e32a263102b1213dd08f6629123bf5db527", func := "geyser/geyserlaw12.EncodeNil", spec := "encodeNil", inPlace := ["internal/reflectlite.TypeOf", "internal/reflectlite.ValueOf", "(internal/reflectlite.Value).Type", "(internal/reflectlite.Value).IsNil", "(internal/reflectlite.Value).Elem", "(internal/reflectlite.Value).Set"], unfollowed := true, recurses := true, named := ["geyser/degree.table", "errors.errorType", "math/bits.deBruijn64tab"], apart := false, laid := [("math/bits.deBruijn64tab", laid_math_bits_deBruijn64tab), ("errors.errorType", laid_errors_errorType), ("geyser/degree.table", laid_geyser_degree_table)], narrowed := true }
def EncodeNilUptoSaid : Prop := encodeNilUptoRow.holds Tryz.pinned (OpenSpec.upto encodeNilSpec)

end Rows
end Go.Proofs.YtfibolkgpffjkaaGreatDoor
