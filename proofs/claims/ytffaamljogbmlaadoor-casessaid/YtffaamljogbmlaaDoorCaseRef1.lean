/- The document's own answers for cases: whether a case is right; two that are the same; where one begins. -/
import Derived.Test.YtffaamljogbmlaaDoorGr04
import Derived.Test.YtffaamljogbmlaaDoorGr09
import Derived.Test.YtffaamljogbmlaaDoorGr03
import Derived.Test.YtffaamljogbmlaaDoorGr05
import Derived.Deep.RegionHeld3
namespace Go.Proofs.YtffaamljogbmlaaDoor
open Go.RowKit
set_option linter.unusedVariables false
set_option linter.unusedSimpArgs false
set_option maxRecDepth 4000

def sameC (c d : CaseL) : Bool := (c.mark == d.mark) && (c.busy == d.busy)
theorem sameC_self (c : CaseL) : sameC c c = true := by simp [sameC]

end Go.Proofs.YtffaamljogbmlaaDoor
