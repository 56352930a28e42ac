/- The document's functions of layer 17: Level. (Made by genstlvl.py.) -/
import Derived.Test.YtlhpkfonffijfaaStLev
import Derived.Deep.RegionHeld
namespace Go.Proofs.Ytlhpkfonffijfaa
open Go.RowKit Go.Extern.Stop Go.Stop Go.Extern

end Go.Proofs.Ytlhpkfonffijfaa
