/- Plus and Minus, and the answers of the document itself for them. -/
import Derived.Test.YtjfcfnaeinhmcaaDoorMark3
namespace Go.Proofs.YtjfcfnaeinhmcaaDoor
open Go.RowKit
set_option linter.unusedVariables false
set_option maxRecDepth 4000

def mixL (t : Int) (x y : Int) : Int := x + t * y

/-- The first k of them. -/
def zipTo (f : Int → Int → Int) (xs ys : List Int) (k : Nat) : List Int := (List.range k).map fun p => f (nth xs p) (nth ys p)
theorem zipTo_succ (f : Int → Int → Int) (xs ys : List Int) (k : Nat) : zipTo f xs ys (k + 1) = zipTo f xs ys k ++ [f (nth xs k) (nth ys k)] := by
  simp [zipTo, List.range_succ]
theorem zipTo_length (f : Int → Int → Int) (xs ys : List Int) (k : Nat) : (zipTo f xs ys k).length = k := by simp [zipTo]

/-- Both together. -/
def plusL (xs ys : List Int) : List Int × Int :=
  if (rightL xs && rightL ys) then (if rightL (zipL (· + ·) xs ys) then (zipL (· + ·) xs ys, 0) else ([], 4)) else ([], 2)

/-- One without the other. -/
def minusL (xs ys : List Int) : List Int × Int :=
  if (rightL xs && rightL ys) then (if coversL xs ys then (zipL (· - ·) xs ys, 0) else ([], 3)) else ([], 2)

theorem plusL_range1 {xs ys : List Int} (h : rightL xs = false) : plusL xs ys = ([], 2) := by simp [plusL, h]
theorem plusL_range2 {xs ys : List Int} (h : rightL ys = false) : plusL xs ys = ([], 2) := by simp [plusL, h]
theorem plusL_full {xs ys : List Int} (h : rightL xs = true) (h' : rightL ys = true) (h2 : rightL (zipL (· + ·) xs ys) = false) : plusL xs ys = ([], 4) := by simp [plusL, h, h', h2]
theorem plusL_ok {xs ys : List Int} (h : rightL xs = true) (h' : rightL ys = true) (h2 : rightL (zipL (· + ·) xs ys) = true) : plusL xs ys = (zipL (· + ·) xs ys, 0) := by simp [plusL, h, h', h2]
theorem minusL_range1 {xs ys : List Int} (h : rightL xs = false) : minusL xs ys = ([], 2) := by simp [minusL, h]
theorem minusL_range2 {xs ys : List Int} (h : rightL ys = false) : minusL xs ys = ([], 2) := by simp [minusL, h]
theorem minusL_none {xs ys : List Int} (h : rightL xs = true) (h' : rightL ys = true) (h2 : coversL xs ys = false) : minusL xs ys = ([], 3) := by simp [minusL, h, h', h2]
theorem minusL_ok {xs ys : List Int} (h : rightL xs = true) (h' : rightL ys = true) (h2 : coversL xs ys = true) : minusL xs ys = (zipL (· - ·) xs ys, 0) := by simp [minusL, h, h', h2]

/-- What a call answers that makes a mark, or tells what is wrong. -/
def Gives (w : World) (p : List Int × Int) (e : Ending) (w' : World) : Prop := ∃ r, e = .returned (.tuple #[r, .int .i64 p.2]) ∧ Ints w' r p.1 ∧ Below w.heap.size w w'

theorem gives_of {w w' : World} {r : Value} {p : List Int × Int} {zs : List Int} {c : Int} (hp : p = (zs, c)) (hr : Ints w' r zs) (hb : Below w.heap.size w w') : Gives w p (.returned (.tuple #[r, .int .i64 c])) w' := by
  subst hp; exact ⟨r, rfl, hr, hb⟩

theorem mix_one (xs ys : List Int) : zipL (mixL 1) xs ys = zipL (fun x1 x2 => x1 + x2) xs ys := by simp [zipL, mixL]
theorem mix_less (xs ys : List Int) : zipL (mixL (-1)) xs ys = zipL (fun x1 x2 => x1 - x2) xs ys := by
  simp only [zipL, mixL]; congr 1; funext p; omega

theorem rightL_iff (xs : List Int) : rightL xs = true ↔ ∀ j, 0 ≤ nth xs j ∧ nth xs j ≤ 1000000 := by
  refine ⟨okTok_nth, fun h => ?_⟩
  unfold rightL allTo
  rw [List.all_eq_true]
  intro j _
  simpa [okTok] using h j
theorem coversL_iff (xs ys : List Int) : coversL xs ys = true ↔ ∀ j, nth ys j ≤ nth xs j := by
  unfold coversL allTo
  rw [List.all_eq_true]
  constructor
  · intro h j
    by_cases hj : j < max xs.length ys.length
    · simpa [geTok] using h j (by simpa using hj)
    · rw [nth_past xs j (by omega), nth_past ys j (by omega)]; omega
  · intro h j _
    simpa [geTok] using h j
theorem zipL_at (f : Int → Int → Int) (f0 : f 0 0 = 0) (xs ys : List Int) (j : Nat) : nth (zipL f xs ys) j = f (nth xs j) (nth ys j) := by
  by_cases hj : j < max xs.length ys.length
  · exact zipL_nth f xs ys j hj
  · rw [nth_past xs j (by omega), nth_past ys j (by omega), nth_past _ j (by rw [zipL_length]; omega), f0]

theorem right_minus {xs ys : List Int} (hx : rightL xs = true) (hy : rightL ys = true) : rightL (zipL (fun x1 x2 => x1 - x2) xs ys) = coversL xs ys := by
  rw [Bool.eq_iff_iff, rightL_iff, coversL_iff]
  rw [rightL_iff] at hx hy
  constructor
  · intro h j
    have := h j
    rw [zipL_at _ (by rfl)] at this
    omega
  · intro h j
    have := h j
    have := hx j
    have := hy j
    rw [zipL_at _ (by rfl)]
    omega

end Go.Proofs.YtjfcfnaeinhmcaaDoor
