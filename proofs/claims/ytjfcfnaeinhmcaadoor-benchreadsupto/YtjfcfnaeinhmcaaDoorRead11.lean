/- Reading a string. -/
import Derived.Test.YtjfcfnaeinhmcaaDoorRead
import Derived.Test.YtjfcfnaeinhmcaaDoorStrBase0
import Derived.ChangeMaps5
namespace Go.Proofs.YtjfcfnaeinhmcaaDoor
open Go.ChangeShapes Go.WideShapes Go.ChangeAt Go.RowKit
set_option linter.unusedVariables false
set_option maxRecDepth 4000

theorem str_arg {H : Type} {enc : TypeId × Value → H} {W : World} {base : Nat} {v : Value} {d : DataW H} {p : List MemPlace}
    (hval : Value.okWide Tryd.prog W .any base 9 v) (h : DataW.Trod enc Tryd.prog W 0 (fun _ => true) true 9 v d p) : ∃ x : Bytes, v = .string (bs x) ∧ x.length + 1 ≤ Rows.uptoBulk d := by
  obtain ⟨s, rfl, rfl, rfl, _⟩ := Go.ChangeMaps.open_string Tryd.underlying9 hval h
  exact ⟨s.data.toList, by rw [bs_of], Nat.le_refl _⟩

end Go.Proofs.YtjfcfnaeinhmcaaDoor
