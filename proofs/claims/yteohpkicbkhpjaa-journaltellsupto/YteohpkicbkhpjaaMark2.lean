/- What the answers of the document itself for marks come to, and slices.Equal: they only read. -/
import Derived.Test.YteohpkicbkhpjaaMark1
namespace Go.Proofs.Yteohpkicbkhpjaa
open Go.RowKit
set_option linter.unusedVariables false
set_option maxRecDepth 4000

theorem geTok_false {x y : Int} (h : x < y) : geTok x y = false := by simp [geTok]; omega
theorem geTok_true {x y : Int} (h : y ≤ x) : geTok x y = true := by simp [geTok]; omega

theorem nth_step {xs ys : List Int} {k : Nat} (h : ∀ j, j < k → nth xs j = nth ys j) (e : nth xs k = nth ys k) : ∀ j, j < k + 1 → nth xs j = nth ys j := by
  intro j hj
  by_cases hjk : j < k
  · exact h j hjk
  · obtain rfl : j = k := by omega
    exact e

theorem eq_of_nth (xs ys : List Int) (hl : xs.length = ys.length) (h : ∀ j, j < xs.length → nth xs j = nth ys j) : xs = ys := by
  refine List.ext_getElem hl fun i h1 h2 => ?_
  have := h i h1
  simpa [nth, List.getD, List.getElem?_eq_getElem h1, List.getElem?_eq_getElem h2] using this

end Go.Proofs.Yteohpkicbkhpjaa
