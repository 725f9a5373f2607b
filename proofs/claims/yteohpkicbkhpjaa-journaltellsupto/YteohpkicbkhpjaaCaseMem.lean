/- Cases in memory; a box that a case is answered from. -/
import Derived.Test.YteohpkicbkhpjaaCaseBase
import Derived.Test.YteohpkicbkhpjaaNet2
import Derived.Test.YteohpkicbkhpjaaBoxes
import Derived.Laws.ResultCell
namespace Go.Proofs.Yteohpkicbkhpjaa
open Go.RowKit
set_option linter.unusedVariables false
set_option maxRecDepth 4000

theorem len_of_ints {w : World} {a : Option Addr} {l c : Nat} {xs : List Int} (h : Ints w (.slice a l c) xs) : xs.length = l := by
  obtain ⟨a', l', c', e, h, _⟩ := h
  injection e with _ e2 _
  rw [h, e2]

/-- A value that is this case. -/
def CaseV (w : World) (v : Value) (c : CaseL) : Prop := ∃ a l p a' l' p', v = .agg #[.slice a l p, .slice a' l' p'] ∧ Ints w (.slice a l p) c.mark ∧ Ints w (.slice a' l' p') c.busy
theorem CaseV.below {w w' : World} {v : Value} {c : CaseL} (h : CaseV w v c) (hb : Below w.heap.size w w') : CaseV w' v c := by
  obtain ⟨a, l, p, a', l', p', e, h1, h2⟩ := h
  exact ⟨a, l, p, a', l', p', e, h1.below hb, h2.below hb⟩
theorem CaseV.mk' {w : World} {mv bv : Value} {ms bs : List Int} (h1 : Ints w mv ms) (h2 : Ints w bv bs) : CaseV w (.agg #[mv, bv]) ⟨ms, bs⟩ := by
  obtain ⟨a, l, p, rfl, _⟩ := id h1
  obtain ⟨a', l', p', rfl, _⟩ := id h2
  exact ⟨a, l, p, a', l', p', rfl, h1, h2⟩
theorem CaseV.none (w : World) : CaseV w (.agg #[.slice none 0 0, .slice none 0 0]) noCase := CaseV.mk' (Ints.nil w) (Ints.nil w)

/-- What a call answers that makes a case, or tells why not. -/
def GivesC (w : World) (p : CaseL × Int) (e : Ending) (w' : World) : Prop := ∃ r, e = .returned (.tuple #[r, .int .i64 p.2]) ∧ CaseV w' r p.1 ∧ Below w.heap.size w w'
theorem givesC_of {w w' : World} {r : Value} {p : CaseL × Int} {c : CaseL} {d : Int} (hp : p = (c, d)) (hr : CaseV w' r c) (hb : Below w.heap.size w w') : GivesC w p (.returned (.tuple #[r, .int .i64 d])) w' := by
  subst hp; exact ⟨r, rfl, hr, hb⟩

/-- A cell that holds a slice is none that numbers are read from. -/
theorem Ints.putS {w : World} {v : Value} {xs : List Int} {p : Addr} {a : Option Addr} {l c : Nat} (h : Ints w v xs) (hp : w.cell? p = some (.slice a l c)) (u : Value) : Ints (w.setCell p u) v xs := by
  obtain ⟨a', len, cap, e, hl, hm, hs, hr⟩ := h
  refine ⟨a', len, cap, e, hl, hm, hs, fun j hj => ?_⟩
  obtain ⟨b, off, ha, hb, hc⟩ := hr j hj
  refine ⟨b, off, ha, by simpa [World.setCell] using hb, ?_⟩
  rw [World.cell?_setCell_other _ _ _ _ (by intro e; rw [← e, hp] at hc; cases hc)]
  exact hc

end Go.Proofs.Yteohpkicbkhpjaa
