/- The fifteenth layer's laws: tells. -/
import Derived.Test.YtccnkfblhkncoaaSyErr
namespace Go.Proofs.Ytccnkfblhkncoaa
open Go.RowKit Go.Extern.Stop Go.Stop Go.Extern

end Go.Proofs.Ytccnkfblhkncoaa
