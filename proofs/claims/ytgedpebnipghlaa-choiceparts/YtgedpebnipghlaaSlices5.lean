/- slices.IndexFunc and ContainsFunc over numbers, with a function that has captured one variable, or two. -/
import Derived.Test.YtgedpebnipghlaaSlices2
namespace Go.Proofs.Ytgedpebnipghlaa
open Go.RowKit
set_option linter.unusedVariables false
set_option maxRecDepth 4000

/-- Where the first one is that p tells of. -/
def FirstAt (xs : List Int) (p : Int → Bool) (i : Int) : Prop := (i = -1 ∧ ∀ j, j < xs.length → p (nth xs j) = false) ∨ ∃ k : Nat, i = k ∧ k < xs.length ∧ p (nth xs k) = true ∧ ∀ j, j < k → p (nth xs j) = false

theorem FirstAt.any {xs : List Int} {p : Int → Bool} {i : Int} (h : FirstAt xs p i) : decide (0 ≤ i) = anyL xs p := by
  rcases h with ⟨rfl, h⟩ | ⟨k, rfl, hk, h, _⟩
  · rw [not_any (p := p) h]; rfl
  · rw [any_of_nth hk h]; simp

/-- The function g tells p of every number, in every world that comes of w0. -/
def AsksQ1 (w0 : World) (g : Nat) (q : Value) (p : Int → Bool) : Prop :=
  ∀ (x : Int) w, Below w0.heap.size w0 w → Calls Try.prog g #[.int .i64 x, q] w fun e w' => e = .returned (.bool (p x)) ∧ Below w.heap.size w w'

/-- The function g tells p of every number, in every world that comes of w0. -/
def AsksQ2 (w0 : World) (g : Nat) (q r : Value) (p : Int → Bool) : Prop :=
  ∀ (x : Int) w, Below w0.heap.size w0 w → Calls Try.prog g #[.int .i64 x, q, r] w fun e w' => e = .returned (.bool (p x)) ∧ Below w.heap.size w w'

end Go.Proofs.Ytgedpebnipghlaa
