/- Package stripe: all contracts but Reverse's (stRateC, stChunksC, stLevelC, stEsisC). -/
import Derived.Test.YtlhpkfonffijfaaStLe
namespace Go.Proofs.Ytlhpkfonffijfaa
end Go.Proofs.Ytlhpkfonffijfaa
