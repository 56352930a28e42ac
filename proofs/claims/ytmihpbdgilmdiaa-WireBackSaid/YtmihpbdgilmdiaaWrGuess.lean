/- The document's guess: the only packet of a kind that bytes can be (layer 16). (Made by genguess.py.) -/
import Derived.Test.YtmihpbdgilmdiaaJ2
import Derived.Test.YtmihpbdgilmdiaaCkLb
import Derived.Test.YtmihpbdgilmdiaaWrBare
import Derived.Laws.CopyOwn
namespace Go.Proofs.Ytmihpbdgilmdiaa
open Go.RowKit Go.Extern.Stop Go.Stop Go.Extern

end Go.Proofs.Ytmihpbdgilmdiaa
