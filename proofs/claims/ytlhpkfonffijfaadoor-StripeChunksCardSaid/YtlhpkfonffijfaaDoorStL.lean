/- Package stripe: all contracts but Reverse's (stRateC, stChunksC, stLevelC, stEsisC). -/
import Derived.Test.YtlhpkfonffijfaaDoorStLe
namespace Go.Proofs.YtlhpkfonffijfaaDoor
end Go.Proofs.YtlhpkfonffijfaaDoor
