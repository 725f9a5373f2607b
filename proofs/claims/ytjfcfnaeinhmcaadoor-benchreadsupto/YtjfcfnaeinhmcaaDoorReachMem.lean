/- Plain words for what a space holds in memory. -/
import Derived.Test.YtjfcfnaeinhmcaaDoorReaches2
namespace Go.Proofs.YtjfcfnaeinhmcaaDoor
open Go.RowKit
set_option linter.unusedVariables false
set_option maxRecDepth 4000

/-- A slice of arcs: three numbers each. -/
def Arcs (w : World) (v : Value) (l : List (Int × Int × Int)) : Prop :=
  ∃ a len cap, v = .slice a len cap ∧ l.length = len ∧ len ≤ 5864062014805 ∧ Shape a len cap ∧
    ∀ j (hj : j < l.length), ∃ b off, a = some ⟨b, off, none⟩ ∧ b < w.heap.size ∧ w.cell? ⟨b, off + j * 3, none⟩ = some (.int .i64 l[j].1) ∧
      w.cell? ⟨b, off + j * 3 + 1, none⟩ = some (.int .i64 l[j].2.1) ∧ w.cell? ⟨b, off + j * 3 + 2, none⟩ = some (.int .i64 l[j].2.2)

theorem Arcs.below {w w' : World} {v : Value} {l : List (Int × Int × Int)} (h : Arcs w v l) (hb : Below w.heap.size w w') : Arcs w' v l := by
  obtain ⟨a, len, cap, e, hl, hm, hs, hr⟩ := h
  refine ⟨a, len, cap, e, hl, hm, hs, fun j hj => ?_⟩
  obtain ⟨b, off, ha, hlt, h0, h1, h2⟩ := hr j hj
  exact ⟨b, off, ha, Nat.lt_of_lt_of_le hlt hb.size, by rw [hb.cell (p := ⟨b, _, none⟩) hlt]; exact h0, by rw [hb.cell (p := ⟨b, _, none⟩) hlt]; exact h1, by rw [hb.cell (p := ⟨b, _, none⟩) hlt]; exact h2⟩

theorem Arcs.at {w : World} {a : Option Addr} {len cap : Nat} {l : List (Int × Int × Int)} (h : Arcs w (.slice a len cap) l) {k : Nat} (hk : k < l.length) :
    ∃ b off, a = some ⟨b, off, none⟩ ∧ b < w.heap.size ∧ w.cell? ⟨b, off + k * 3, none⟩ = some (.int .i64 l[k].1) ∧
      w.cell? ⟨b, off + k * 3 + 1, none⟩ = some (.int .i64 l[k].2.1) ∧ w.cell? ⟨b, off + k * 3 + 2, none⟩ = some (.int .i64 l[k].2.2) := by
  obtain ⟨a', len', cap', e, hl, hm, hs, hr⟩ := h
  injection e with e1 e2 e3
  subst e1 e2 e3
  exact hr k hk
theorem Arcs.slice {w : World} {v : Value} {l : List (Int × Int × Int)} (h : Arcs w v l) : ∃ a cap, v = .slice a l.length cap ∧ l.length ≤ 5864062014805 := by
  obtain ⟨a, len, cap, e, hl, hm, hs, hr⟩ := h
  exact ⟨a, cap, by rw [e, hl], by omega⟩

theorem Lists.at {w : World} {a : Option Addr} {len cap : Nat} {ls : List (List Int)} (h : Lists w (.slice a len cap) ls) {k : Nat} (hk : k < len) :
    ∃ b off u, a = some ⟨b, off, none⟩ ∧ b < w.heap.size ∧ w.cell? ⟨b, off + k, none⟩ = some u ∧ Ints w u (markAt ls k) := by
  obtain ⟨a', len', cap', e, hl, hm, hs, hr⟩ := h
  injection e with e1 e2 e3
  subst e1 e2 e3
  exact hr k (by omega)
theorem Lists.slice {w : World} {v : Value} {ls : List (List Int)} (h : Lists w v ls) : ∃ a cap, v = .slice a ls.length cap ∧ ls.length ≤ 17592186044416 ∧ Shape a ls.length cap := by
  obtain ⟨a, len, cap, e, hl, hm, hs, hr⟩ := h
  subst hl
  exact ⟨a, cap, e, hm, hs⟩

def arcZ (a : ArcL) : Int × Int × Int := (a.frm, a.tran, a.dst)

/-- A value that is this space. -/
def Space (w : World) (v : Value) (s : SpaceL) : Prop := ∃ mv av, v = .agg #[mv, av] ∧ Lists w mv s.marks ∧ Arcs w av (s.arcs.map arcZ)

theorem Space.below {w w' : World} {v : Value} {s : SpaceL} (h : Space w v s) (hb : Below w.heap.size w w') : Space w' v s := by
  obtain ⟨mv, av, e, h1, h2⟩ := h
  exact ⟨mv, av, e, h1.below hb, h2.below hb⟩

/-- What a call answers that explores, or tells what is wrong. -/
def GivesS (w : World) (p : SpaceL × Int) (e : Ending) (w' : World) : Prop := ∃ r, e = .returned (.tuple #[r, .int .i64 p.2]) ∧ Space w' r p.1 ∧ Below w.heap.size w w'

theorem graphL_code (n : NetL) (m : List Int) (most : Int) : (graphL n m most).2 = 0 ∨ (graphL n m most).2 = 2 ∨ (graphL n m most).2 = 4 := by
  unfold graphL
  split
  · split
    · exact .inl rfl
    · exact .inr (.inr rfl)
  · exact .inr (.inl rfl)

end Go.Proofs.YtjfcfnaeinhmcaaDoor
