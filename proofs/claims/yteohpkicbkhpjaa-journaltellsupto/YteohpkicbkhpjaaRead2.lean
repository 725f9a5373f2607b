/- A space that came in. -/
import Derived.Test.YteohpkicbkhpjaaRead
import Derived.Test.YteohpkicbkhpjaaLiveMem
namespace Go.Proofs.Yteohpkicbkhpjaa
open Go.ChangeShapes Go.WideShapes Go.ChangeAt Go.RowKit Go.Joins Go.Deep
set_option linter.unusedVariables false
set_option maxRecDepth 4000

theorem bytes_ints : Try.prog.bytesOf 42 = 24 := by kernel_rfl

theorem cells1 {w : World} {a : Addr} {cs : List Value} (h : w.cells? 0 a 1 = some cs) : ∃ c0, cs = [c0] ∧ w.cell? (a.add 0) = some c0 := by
  simp only [World.cells?, Nat.zero_le, if_true] at h
  simp only [show List.range 1 = [0] from rfl, List.mapM_cons, List.mapM_nil] at h
  cases h0 : w.cell? (a.add 0) with
  | none => simp [h0] at h
  | some c0 =>
    simp [h0] at h
    exact ⟨c0, h.symm, rfl⟩

theorem getElem_range {α : Type} (len : Nat) (T : Nat → α) (j : Nat) (h : j < ((List.range len).map T).length) : ((List.range len).map T)[j] = T j := by simp

theorem markAt_range (len : Nat) (T : Nat → List Int) (j : Nat) (h : j < len) : markAt ((List.range len).map T) j = T j := by
  simp [markAt, List.getD, List.getElem?_map, List.getElem?_range h]

end Go.Proofs.Yteohpkicbkhpjaa
