/- The answers of the document itself for nets: the other way round. -/
import Derived.Test.YtjfcfnaeinhmcaaDoorNet2
import Derived.Test.YtjfcfnaeinhmcaaDoorOwnT
namespace Go.Proofs.YtjfcfnaeinhmcaaDoor
open Go.RowKit
set_option linter.unusedVariables false
set_option maxRecDepth 4000

def turnT (t : TranL) : TranL := ⟨t.label, t.post, t.pre⟩
def turnL (n : NetL) : NetL := ⟨n.places, n.trans.map turnT⟩
theorem turn_at (ts : List TranL) (j : Nat) (h : j < ts.length) : tranAt (ts.map turnT) j = turnT (tranAt ts j) := by
  simp [tranAt, List.getD, List.getElem?_map, List.getElem?_eq_getElem h]

/-- The first of them, turned, as cells. -/
def TurnedTo (w : World) (ts : List TranL) (tv : List (Int × Value × Value)) : Prop :=
  ∀ j (hj : j < tv.length), tv[j].1 = (tranAt ts j).label ∧ Ints w tv[j].2.1 (tranAt ts j).post ∧ Ints w tv[j].2.2 (tranAt ts j).pre
theorem TurnedTo.nil (w : World) (ts : List TranL) : TurnedTo w ts [] := fun j hj => absurd hj (by simp)
theorem TurnedTo.snoc {w : World} {ts : List TranL} {tv : List (Int × Value × Value)} (h : TurnedTo w ts tv) {l : Int} {c1 c2 : Value}
    (hl : l = (tranAt ts tv.length).label) (h1 : Ints w c1 (tranAt ts tv.length).post) (h2 : Ints w c2 (tranAt ts tv.length).pre) : TurnedTo w ts (tv ++ [(l, c1, c2)]) := by
  intro j hj
  by_cases hjl : j < tv.length
  · rw [List.getElem_append_left hjl]; exact h j hjl
  · have e : j = tv.length := by simp at hj; omega
    subst e
    rw [List.getElem_append_right (Nat.le_refl _)]
    simp only [Nat.sub_self, List.getElem_cons_zero]
    exact ⟨hl, h1, h2⟩

end Go.Proofs.YtjfcfnaeinhmcaaDoor
