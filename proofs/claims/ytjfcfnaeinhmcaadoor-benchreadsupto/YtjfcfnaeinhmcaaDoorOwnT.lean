/- A slice of transitions that the call itself has made. -/
import Derived.Test.YtjfcfnaeinhmcaaDoorNetBase
import Derived.Test.YtjfcfnaeinhmcaaDoorOwn
namespace Go.Proofs.YtjfcfnaeinhmcaaDoor
open Go.RowKit
set_option linter.unusedVariables false
set_option maxRecDepth 4000

/-- The cells of some transitions. -/
def tvCells (tv : List (Int × Value × Value)) : List Value := tv.flatMap fun x => [.int .i64 x.1, x.2.1, x.2.2]
theorem tvCells_length (tv : List (Int × Value × Value)) : (tvCells tv).length = tv.length * 3 := by
  unfold tvCells
  induction tv with
  | nil => rfl
  | cons x r ih => simp only [List.flatMap_cons, List.length_append, ih, List.length_cons, List.length_nil]; omega
theorem tvCells_append (tv us : List (Int × Value × Value)) : tvCells (tv ++ us) = tvCells tv ++ tvCells us := by simp [tvCells]
theorem tvCells_at (tv : List (Int × Value × Value)) (j : Nat) (h : j < tv.length) :
    (tvCells tv)[j * 3]? = some (.int .i64 tv[j].1) ∧ (tvCells tv)[j * 3 + 1]? = some tv[j].2.1 ∧ (tvCells tv)[j * 3 + 2]? = some tv[j].2.2 := by
  induction tv generalizing j with
  | nil => simp at h
  | cons x r ih =>
    have ec : tvCells (x :: r) = .int .i64 x.1 :: x.2.1 :: x.2.2 :: tvCells r := rfl
    match j, h with
    | 0, _ => exact ⟨rfl, rfl, rfl⟩
    | j + 1, h =>
      obtain ⟨q1, q2, q3⟩ := ih j (by simpa using h)
      rw [ec, show (j + 1) * 3 = j * 3 + 3 by omega]
      exact ⟨q1, q2, q3⟩

end Go.Proofs.YtjfcfnaeinhmcaaDoor
