/- math/bits: OnesCount64 by its own text. -/
import Derived.Laws.Bits128
import Derived.Test.YtlhpkfonffijfaaDoorWordsMath
import Derived.Test.YtlhpkfonffijfaaDoorSl
namespace Go.Proofs.YtlhpkfonffijfaaDoor
open Go.RowKit Go.Extern.Stop Go.Stop Go.Extern

theorem and_lit (a c : Nat) (C : Int) (hC : C = (c : Int)) (ha : a < 18446744073709551616) (hc : c < 18446744073709551616) : bits .and .u64 (a : Int) C = ((a &&& c : Nat) : Int) := by
  rw [hC]; exact bits_and_u64_nat a c ha hc

theorem wrap_nat (a : Nat) (ha : a < 18446744073709551616) : IntKind.u64.wrap (a : Int) = (a : Int) := by rw [IntKind.wrap_u64]; omega

end Go.Proofs.YtlhpkfonffijfaaDoor
