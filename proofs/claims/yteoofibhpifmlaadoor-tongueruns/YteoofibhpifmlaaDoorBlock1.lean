/- The answers of the document itself for blocks: what is wrong. -/
import Derived.Test.YteoofibhpifmlaaDoorBlockMem
namespace Go.Proofs.YteoofibhpifmlaaDoor
open Go.RowKit
set_option linter.unusedVariables false
set_option maxRecDepth 4000

theorem jwAll_cons_ok {g : BlockL → Nat → Nat × Int} {l : List BlockL} {k h : Nat} (hk : k < l.length) (e : (g l[k] h).2 = 0) : jwAll g (l.drop k) h = jwAll g (l.drop (k + 1)) (g l[k] h).1 := by
  rw [List.drop_eq_getElem_cons hk]
  simp only [jwAll]
  rw [if_pos e]
theorem jwAll_cons_bad {g : BlockL → Nat → Nat × Int} {l : List BlockL} {k h : Nat} (hk : k < l.length) (e : (g l[k] h).2 ≠ 0) : jwAll g (l.drop k) h = g l[k] h := by
  rw [List.drop_eq_getElem_cons hk]
  simp only [jwAll]
  rw [if_neg e]
theorem jw_bad {f : Nat} {b : BlockL} {had : Nat} {e : Int} (h : badB b (had + 1) = e) (he : e ≠ 0) : jw (f + 1) b had = (had + 1, e) := by
  simp only [jw]
  rw [h, if_neg he]
theorem jw_good {f : Nat} {b : BlockL} {had : Nat} (h : badB b (had + 1) = 0) : jw (f + 1) b had = jwAll (jw f) b.kids (had + 1) := by
  simp only [jw]
  rw [if_pos h]

end Go.Proofs.YteoofibhpifmlaaDoor
