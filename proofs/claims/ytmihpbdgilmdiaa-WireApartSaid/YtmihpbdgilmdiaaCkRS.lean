/- The document's Spoil (layer 15). -/
import Derived.Test.YtmihpbdgilmdiaaCkSp
import Derived.Deep.AppendLies
namespace Go.Proofs.Ytmihpbdgilmdiaa
open Go.RowKit Go.Extern.Stop Go.Stop Go.Extern

theorem two_pow_le31 {j : Nat} (h : j ≤ 31) : 2 ^ j ≤ 2147483648 := show 2 ^ j ≤ 2 ^ 31 from Nat.pow_le_pow_right (by decide) h

end Go.Proofs.Ytmihpbdgilmdiaa
