/- A value that is a space of whatever arcs. -/
import Derived.Test.YteohpkicbkhpjaaLiveBase
namespace Go.Proofs.Yteohpkicbkhpjaa
open Go.RowKit
set_option linter.unusedVariables false
set_option maxRecDepth 4000

/-- A space; there are not more marks than memory holds. -/
def SpaceV (w : World) (v : Value) (s : SpaceZ) : Prop := s.marks.length ≤ 5864062014805 ∧ ∃ mv av, v = .agg #[mv, av] ∧ Lists w mv s.marks ∧ Arcs w av s.arcs
theorem SpaceV.below {w w' : World} {v : Value} {s : SpaceZ} (h : SpaceV w v s) (hb : Below w.heap.size w w') : SpaceV w' v s := by
  obtain ⟨hN, mv, av, e, h1, h2⟩ := h
  exact ⟨hN, mv, av, e, h1.below hb, h2.below hb⟩
theorem Space.toV {w : World} {v : Value} {s : SpaceL} (h : Space w v s) (hl : s.marks.length ≤ 300) : SpaceV w v (toZ s) := ⟨by simp only [toZ]; omega, h⟩
theorem graphL_small (n : NetL) (m : List Int) (most : Int) : (graphL n m most).1.marks.length ≤ 300 := by
  by_cases h : (graphL n m most).2 = 0
  · have h1 := graphL_ok (s := (graphL n m most).1) (by rw [← h])
    have h2 := h1.2.2.2.2.most_le
    omega
  · rw [graphL_err h]; simp

end Go.Proofs.Yteohpkicbkhpjaa
