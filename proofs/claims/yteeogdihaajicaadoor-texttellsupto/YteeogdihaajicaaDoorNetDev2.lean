/- Package net, as it landed: who can, one fires, one behind the other. -/
import Derived.Test.YteeogdihaajicaaDoorNetDev1
import Derived.Test.YteeogdihaajicaaDoorNets
import Derived.Test.YteeogdihaajicaaDoorSlices2
namespace Go.Proofs.YteeogdihaajicaaDoor
open Go.RowKit
set_option linter.unusedVariables false
set_option maxRecDepth 4000

end Go.Proofs.YteeogdihaajicaaDoor
