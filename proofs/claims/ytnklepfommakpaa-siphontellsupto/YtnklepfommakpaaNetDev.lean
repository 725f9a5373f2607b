/- Package net, as it landed, whole. -/
import Derived.Test.YtnklepfommakpaaNetDev3
namespace Go.Proofs.Ytnklepfommakpaa
open Go.RowKit
set_option linter.unusedVariables false

theorem net_wrong (v : Value) (n : NetL) (w : World) (hv : Net w v n) :
    Calls Try.prog 21 #[v] w fun e w' => e = .returned (.int .i64 (wrongL n)) ∧ Below w.heap.size w w' := wrong_any v n w hv

end Go.Proofs.Ytnklepfommakpaa
