/- The answers of the document itself for nets: one behind the other. -/
import Derived.Test.YtjfcfnaeinhmcaaDoorNet3
namespace Go.Proofs.YtjfcfnaeinhmcaaDoor
open Go.RowKit
set_option linter.unusedVariables false
set_option maxRecDepth 4000

/-- One behind the other. -/
def runL (n : NetL) : List Int → List Int → List Int × Int
  | m, [] => if fitsL n m then (m, 0) else ([], 2)
  | m, t :: ts => if fitsL n m then (if (fireL n m t).2 == 0 then runL n (fireL n m t).1 ts else ([], (fireL n m t).2)) else ([], 2)

end Go.Proofs.YtjfcfnaeinhmcaaDoor
