/- The document's functions of layer 18: Check, Burst, Sync, Next, Steps, Row, Same. (Made by genca.py.) -/
import Derived.Test.YtgbogglalnafeaaCaMath
import Derived.Test.YtgbogglalnafeaaLists
import Derived.OwnWalk
import Derived.WalkSpells
import Derived.WalkLawsBesides
import Derived.Deep.LoopGhost
import Derived.BigQuiet
namespace Go.Proofs.Ytgbogglalnafeaa
open Go.RowKit Go.Extern.Stop Go.Stop Go.Extern

end Go.Proofs.Ytgbogglalnafeaa
