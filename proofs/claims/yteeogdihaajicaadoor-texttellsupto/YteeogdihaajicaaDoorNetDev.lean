/- Package net, as it landed, whole. -/
import Derived.Test.YteeogdihaajicaaDoorNetDev3
namespace Go.Proofs.YteeogdihaajicaaDoor
open Go.RowKit
set_option linter.unusedVariables false
set_option maxRecDepth 4000

theorem net_wrong (v : Value) (n : NetL) (w : World) (hv : Net w v n) :
    Calls Tryd.prog 13 #[v] w fun e w' => e = .returned (.int .i64 (wrongL n)) ∧ Below w.heap.size w w' := wrong_any v n w hv

end Go.Proofs.YteeogdihaajicaaDoor
