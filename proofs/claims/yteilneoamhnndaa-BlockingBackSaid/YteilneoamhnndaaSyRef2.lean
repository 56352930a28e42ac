/- Package geyserref04: Add, Check, Sum, Picked, Same, Copy. -/
import Derived.Test.YteilneoamhnndaaSyRef
import Derived.Test.YteilneoamhnndaaStepAppend
namespace Go.Proofs.Yteilneoamhnndaa
open Go.RowKit Go.Extern.Stop Go.Stop Go.Extern

end Go.Proofs.Yteilneoamhnndaa
