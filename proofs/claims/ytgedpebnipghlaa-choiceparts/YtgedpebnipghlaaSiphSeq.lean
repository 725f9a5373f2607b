/- slices.Values over numbers, slices.AppendSeq and slices.Collect over it. -/
import Derived.RangeFuncBox
import Derived.RangeFuncLeaves
import Derived.Shelf.Abstract
import Derived.OwnWalkIn
import Derived.TacticsInMore
import Derived.LoopNIn
import Derived.LoopIn
import Derived.Maps.AppendAt
import Derived.Test.YtgedpebnipghlaaBox1
import Derived.Test.YtgedpebnipghlaaSlices1
namespace Go.Proofs.Ytgedpebnipghlaa
open Go.RowKit Go.Shelf
set_option linter.unusedVariables false
set_option maxRecDepth 4000

attribute [local go_sem] Oper.semAt_some

end Go.Proofs.Ytgedpebnipghlaa
