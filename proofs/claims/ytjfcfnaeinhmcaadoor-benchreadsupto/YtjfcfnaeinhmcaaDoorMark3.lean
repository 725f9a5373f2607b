/- What the functions answer that make a new mark of two. -/
import Derived.Test.YtjfcfnaeinhmcaaDoorMark2
import Derived.Test.YtjfcfnaeinhmcaaDoorOwn
namespace Go.Proofs.YtjfcfnaeinhmcaaDoor
open Go.RowKit
set_option linter.unusedVariables false
set_option maxRecDepth 4000

/-- Place by place, at as many places as the longer one has. -/
def zipL (f : Int → Int → Int) (xs ys : List Int) : List Int := (List.range (max xs.length ys.length)).map fun p => f (nth xs p) (nth ys p)

theorem zipL_length (f : Int → Int → Int) (xs ys : List Int) : (zipL f xs ys).length = max xs.length ys.length := by simp [zipL]
theorem zipL_nth (f : Int → Int → Int) (xs ys : List Int) (j : Nat) (h : j < max xs.length ys.length) : nth (zipL f xs ys) j = f (nth xs j) (nth ys j) := by
  simp [zipL, nth, List.getD, List.getElem?_map, List.getElem?_range h]

theorem okTok_nth {xs : List Int} (h : rightL xs = true) (j : Nat) : 0 ≤ nth xs j ∧ nth xs j ≤ 1000000 := by
  by_cases hj : j < xs.length
  · have := List.all_eq_true.1 h j (by simpa using hj)
    simpa [okTok] using this
  · rw [nth_past xs j (by omega)]; omega

/-- Function g of two numbers of tokens answers f. -/
def Makes (g : Nat) (f : Int → Int → Int) : Prop := ∀ x y w, 0 ≤ x → x ≤ 1000000 → 0 ≤ y → y ≤ 1000000 → Calls Tryd.prog g #[.int .i64 x, .int .i64 y] w fun e w' => e = .returned (.int .i64 (f x y)) ∧ w' = w

end Go.Proofs.YtjfcfnaeinhmcaaDoor
