/- The document's Of. -/
import Derived.Test.YteilneoamhnndaaBkO
namespace Go.Proofs.Yteilneoamhnndaa
open Go.RowKit Go.Extern.Stop Go.Stop Go.Extern

end Go.Proofs.Yteilneoamhnndaa
