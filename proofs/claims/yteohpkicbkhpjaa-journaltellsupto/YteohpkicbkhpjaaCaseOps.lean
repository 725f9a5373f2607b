/- A list of things to do in a case, in memory; what is answered of it. -/
import Derived.Test.YteohpkicbkhpjaaCaseMem
import Derived.Test.YteohpkicbkhpjaaCaseBusy
namespace Go.Proofs.Yteohpkicbkhpjaa
open Go.RowKit
set_option linter.unusedVariables false
set_option maxRecDepth 4000

def opAt (l : List (Int × Int)) (k : Nat) : Int × Int := l.getD k (0, 0)
/-- A slice of pairs of numbers. -/
def OpsV (w : World) (v : Value) (l : List (Int × Int)) : Prop :=
  ∃ a len cap, v = .slice a len cap ∧ l.length = len ∧ len ≤ 8796093022208 ∧ Shape a len cap ∧
    ∀ j, j < l.length → ∃ b off, a = some ⟨b, off, none⟩ ∧ b < w.heap.size ∧ w.cell? ⟨b, off + j * 2, none⟩ = some (.int .i64 (opAt l j).1) ∧ w.cell? ⟨b, off + j * 2 + 1, none⟩ = some (.int .i64 (opAt l j).2)
theorem OpsV.below {w w' : World} {v : Value} {l : List (Int × Int)} (h : OpsV w v l) (hb : Below w.heap.size w w') : OpsV w' v l := by
  obtain ⟨a, len, cap, e, hl, hm, hs, hr⟩ := h
  refine ⟨a, len, cap, e, hl, hm, hs, fun j hj => ?_⟩
  obtain ⟨b, off, ha, hlt, h0, h1⟩ := hr j hj
  exact ⟨b, off, ha, Nat.lt_of_lt_of_le hlt hb.size, by rw [hb.cell (p := ⟨b, _, none⟩) hlt]; exact h0, by rw [hb.cell (p := ⟨b, _, none⟩) hlt]; exact h1⟩
theorem OpsV.at {w : World} {a : Option Addr} {len cap : Nat} {l : List (Int × Int)} (h : OpsV w (.slice a len cap) l) {k : Nat} (hk : k < len) :
    ∃ b off, a = some ⟨b, off, none⟩ ∧ b < w.heap.size ∧ w.cell? ⟨b, off + k * 2, none⟩ = some (.int .i64 (opAt l k).1) ∧ w.cell? ⟨b, off + k * 2 + 1, none⟩ = some (.int .i64 (opAt l k).2) := by
  obtain ⟨a', len', cap', e, hl, hm, hs, hr⟩ := h
  injection e with e1 e2 e3
  subst e1 e2 e3
  exact hr k (by omega)
theorem OpsV.slice {w : World} {v : Value} {l : List (Int × Int)} (h : OpsV w v l) : ∃ a cap, v = .slice a l.length cap ∧ l.length ≤ 8796093022208 ∧ Shape a l.length cap := by
  obtain ⟨a, len, cap, e, hl, hm, hs, hr⟩ := h
  subst hl
  exact ⟨a, cap, e, hm, hs⟩

/-- What a call answers that plays them. -/
def GivesP (w : World) (p : CaseL × List Int × Int) (e : Ending) (w' : World) : Prop := ∃ r l, e = .returned (.tuple #[r, l, .int .i64 p.2.2]) ∧ CaseV w' r p.1 ∧ Ints w' l p.2.1 ∧ Below w.heap.size w w'
/-- What a call answers that makes a net, or tells why not. -/
def GivesN (w : World) (p : NetL × Int) (e : Ending) (w' : World) : Prop := ∃ r, e = .returned (.tuple #[r, .int .i64 p.2]) ∧ Net w' r p.1 ∧ Below w.heap.size w w'

end Go.Proofs.Yteohpkicbkhpjaa
