/- What the functions of package mark answer, that only read. -/
import Derived.Test.YtjfcfnaeinhmcaaDoorBase
import Derived.Test.YtjfcfnaeinhmcaaDoorProg
namespace Go.Proofs.YtjfcfnaeinhmcaaDoor
open Go.RowKit
set_option linter.unusedVariables false
set_option maxRecDepth 4000

/-- Function g of two ints answers whether f. -/
def Asks (g : Nat) (f : Int → Int → Bool) : Prop := ∀ x y w, Calls Tryd.prog g #[.int .i64 x, .int .i64 y] w fun e w' => e = .returned (.bool (f x y)) ∧ w' = w

def okTok (x _y : Int) : Bool := decide (0 ≤ x) && decide (x ≤ 1000000)
def geTok (x y : Int) : Bool := decide (y ≤ x)

/-- At each place up to n. -/
def allTo (f : Int → Int → Bool) (xs ys : List Int) (n : Nat) : Bool := (List.range n).all fun p => f (nth xs p) (nth ys p)

theorem allTo_zero (f : Int → Int → Bool) (xs ys : List Int) : allTo f xs ys 0 = true := rfl
theorem allTo_succ (f : Int → Int → Bool) (xs ys : List Int) (n : Nat) : allTo f xs ys (n + 1) = (allTo f xs ys n && f (nth xs n) (nth ys n)) := by
  unfold allTo; rw [List.range_succ, List.all_append]; simp
theorem allTo_false (f : Int → Int → Bool) (xs ys : List Int) (n k : Nat) (h : k < n) (hf : f (nth xs k) (nth ys k) = false) : allTo f xs ys n = false := by
  unfold allTo; rw [List.all_eq_false]; exact ⟨k, by simpa using h, by simp [hf]⟩

theorem allTo_max (f : Int → Int → Bool) (xs ys : List Int) (m n : Nat) : allTo f xs ys (max m n) = (allTo f xs ys m && allTo f xs ys n) := by
  rw [Bool.eq_iff_iff]
  simp only [allTo, Bool.and_eq_true, List.all_eq_true, List.mem_range]
  exact ⟨fun h => ⟨fun p hp => h p (by omega), fun p hp => h p (by omega)⟩, fun ⟨h1, h2⟩ p hp => by by_cases hm : p < m; exact h1 p hm; exact h2 p (by omega)⟩

def rightL (xs : List Int) : Bool := allTo okTok xs [] xs.length
def coversL (xs ys : List Int) : Bool := allTo geTok xs ys (max xs.length ys.length)

/-! The answers of the document itself -/

end Go.Proofs.YtjfcfnaeinhmcaaDoor
