import Derived.Test.YtkhdjjcflbdegaaGreatDoorG08
import Derived.OwnWalk
import Derived.WalkSpells
import Derived.WalkLawsBesides
import Derived.Deep.LoopGhost
import Derived.Deep.QuietTactic

section
/- geyserref02: Same at like lists of numbers. -/
namespace Go.Proofs.YtkhdjjcflbdegaaGreatDoor
open Go.RowKit Go.Extern.Stop Go.Stop Go.Extern

end Go.Proofs.YtkhdjjcflbdegaaGreatDoor
end
