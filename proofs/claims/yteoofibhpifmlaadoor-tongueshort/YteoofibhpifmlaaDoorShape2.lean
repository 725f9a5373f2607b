/- The answers of the document itself for shape: what is behind a place. -/
import Derived.Test.YteoofibhpifmlaaDoorShapeWay
import Derived.Test.YteoofibhpifmlaaDoorBoolRow
import Derived.Test.YteoofibhpifmlaaDoorNetBoth
import Derived.BigRegion
namespace Go.Proofs.YteoofibhpifmlaaDoor
open Go.RowKit
set_option linter.unusedVariables false
set_option maxRecDepth 4000

/-- Both rows, as they stand. -/
structure WaysAt (w0 : World) (B1 B2 P T : Nat) (w : World) (s : WayS) : Prop where
  ps : BoolRow w B1 P s.ps
  ts : BoolRow w B2 T s.ts
  below : Below w0.heap.size w0 w
theorem WaysAt.to {w0 w w' : World} {B1 B2 P T : Nat} {s : WayS} (h : WaysAt w0 B1 B2 P T w s) (hb : Below w.heap.size w w') : WaysAt w0 B1 B2 P T w' s := ⟨h.ps.below hb, h.ts.below hb, below_then h.below hb⟩
theorem WaysAt.putT {w0 w : World} {B1 B2 P T k : Nat} {s : WayS} {g : Nat → Bool} {x : Bool} (h : WaysAt w0 B1 B2 P T w s) (hne : B1 ≠ B2) (hB : w0.heap.size ≤ B2) (hk : k < T) (hx : g k = x) (hg : ∀ j, j ≠ k → g j = s.ts j) :
    WaysAt w0 B1 B2 P T (w.setCell ⟨B2, k, none⟩ (.bool x)) ⟨s.ps, g⟩ :=
  ⟨h.ps.other (fun e => hne e.symm) _, h.ts.put hk hx fun j _ hj => hg j hj, h.below.setCell (p := ⟨B2, k, none⟩) hB _⟩
theorem WaysAt.putP {w0 w : World} {B1 B2 P T k : Nat} {s : WayS} {g : Nat → Bool} {x : Bool} (h : WaysAt w0 B1 B2 P T w s) (hne : B1 ≠ B2) (hB : w0.heap.size ≤ B1) (hk : k < P) (hx : g k = x) (hg : ∀ j, j ≠ k → g j = s.ps j) :
    WaysAt w0 B1 B2 P T (w.setCell ⟨B1, k, none⟩ (.bool x)) ⟨g, s.ts⟩ :=
  ⟨h.ps.put hk hx fun j _ hj => hg j hj, h.ts.other hne _, h.below.setCell (p := ⟨B1, k, none⟩) hB _⟩

theorem box3_other {w : World} {b : Nat} {x y z u : Value} {p : Addr} (h : Box3 w b x y z) (hp : p.block ≠ b) : Box3 (w.setCell p u) b x y z := by
  have ne : ∀ j, (⟨b, j, none⟩ : Addr) ≠ p := fun j e => hp (by rw [← e])
  refine ⟨by simpa [World.setCell] using h.1, ?_, ?_, ?_⟩
  · rw [World.cell?_setCell_other _ _ _ _ (Ne.symm (ne 0))]; exact h.2.1
  · rw [World.cell?_setCell_other _ _ _ _ (Ne.symm (ne 1))]; exact h.2.2.1
  · rw [World.cell?_setCell_other _ _ _ _ (Ne.symm (ne 2))]; exact h.2.2.2

end Go.Proofs.YteoofibhpifmlaaDoor
