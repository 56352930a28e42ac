/- The document's Spoil (layer 15). -/
import Derived.Test.YtmihpbdgilmdiaaDoorCkSp
import Derived.Deep.AppendLies
namespace Go.Proofs.YtmihpbdgilmdiaaDoor
open Go.RowKit Go.Extern.Stop Go.Stop Go.Extern

theorem two_pow_le31 {j : Nat} (h : j ≤ 31) : 2 ^ j ≤ 2147483648 := show 2 ^ j ≤ 2 ^ 31 from Nat.pow_le_pow_right (by decide) h

end Go.Proofs.YtmihpbdgilmdiaaDoor
