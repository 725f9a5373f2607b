/- Plain words for what knots hold in memory; a store into a row that the call itself has made. -/
import Derived.Test.YteoofibhpifmlaaDoorPlain5
import Derived.Test.YteoofibhpifmlaaDoorReachMem
import Derived.Test.YteoofibhpifmlaaDoorFoot
namespace Go.Proofs.YteoofibhpifmlaaDoor
open Go.RowKit
set_option linter.unusedVariables false
set_option maxRecDepth 4000

def noKnotL : KnotL := ⟨0, 0, []⟩
def knotOf (l : List KnotL) (k : Nat) : KnotL := l.getD k noKnotL
theorem knotOf_map {s : List KnotX} {k : Nat} (h : k < s.length) : knotOf (s.map KnotX.knot) k = (knotAt s k).knot := by
  rw [knotOf, List.getD_eq_getElem?_getD, List.getElem?_map, knotAt, List.getD_eq_getElem?_getD, List.getElem?_eq_getElem h]; rfl
theorem knotOf_get {l : List KnotL} {k : Nat} (h : k < l.length) : knotOf l k = l[k] := by
  rw [knotOf, List.getD_eq_getElem?_getD, List.getElem?_eq_getElem h]; rfl

/-- A slice of knots: two numbers and a mark each. -/
def Knots (w : World) (v : Value) (l : List KnotL) : Prop :=
  ∃ a len cap, v = .slice a len cap ∧ l.length = len ∧ len ≤ 2513169434916 ∧ Shape a len cap ∧
    ∀ j, j < l.length → ∃ b off u, a = some ⟨b, off, none⟩ ∧ b < w.heap.size ∧ w.cell? ⟨b, off + j * 3, none⟩ = some (.int .i64 (knotOf l j).up) ∧
      w.cell? ⟨b, off + j * 3 + 1, none⟩ = some (.int .i64 (knotOf l j).tran) ∧ w.cell? ⟨b, off + j * 3 + 2, none⟩ = some u ∧ Ints w u (knotOf l j).mark

theorem Knots.below {w w' : World} {v : Value} {l : List KnotL} (h : Knots w v l) (hb : Below w.heap.size w w') : Knots w' v l := by
  obtain ⟨a, len, cap, e, hl, hm, hs, hr⟩ := h
  refine ⟨a, len, cap, e, hl, hm, hs, fun j hj => ?_⟩
  obtain ⟨b, off, u, ha, hlt, h0, h1, h2, hi⟩ := hr j hj
  exact ⟨b, off, u, ha, Nat.lt_of_lt_of_le hlt hb.size, by rw [hb.cell (p := ⟨b, _, none⟩) hlt]; exact h0, by rw [hb.cell (p := ⟨b, _, none⟩) hlt]; exact h1, by rw [hb.cell (p := ⟨b, _, none⟩) hlt]; exact h2, hi.below hb⟩
theorem Knots.at {w : World} {a : Option Addr} {len cap : Nat} {l : List KnotL} (h : Knots w (.slice a len cap) l) {k : Nat} (hk : k < len) :
    ∃ b off u, a = some ⟨b, off, none⟩ ∧ b < w.heap.size ∧ w.cell? ⟨b, off + k * 3, none⟩ = some (.int .i64 (knotOf l k).up) ∧
      w.cell? ⟨b, off + k * 3 + 1, none⟩ = some (.int .i64 (knotOf l k).tran) ∧ w.cell? ⟨b, off + k * 3 + 2, none⟩ = some u ∧ Ints w u (knotOf l k).mark := by
  obtain ⟨a', len', cap', e, hl, hm, hs, hr⟩ := h
  injection e with e1 e2 e3
  subst e1 e2 e3
  exact hr k (by omega)
theorem Knots.slice {w : World} {v : Value} {l : List KnotL} (h : Knots w v l) : ∃ a cap, v = .slice a l.length cap ∧ l.length ≤ 2513169434916 ∧ Shape a l.length cap := by
  obtain ⟨a, len, cap, e, hl, hm, hs, hr⟩ := h
  subst hl
  exact ⟨a, cap, e, hm, hs⟩
theorem Knots.nil (w : World) : Knots w (.slice none 0 0) [] := ⟨none, 0, 0, rfl, rfl, by omega, ⟨by omega, by omega, fun _ => rfl⟩, fun j hj => absurd hj (by simp)⟩

/-- What a call answers that makes a tree, or tells what is wrong. -/
def GivesK (w : World) (p : List KnotL × Int) (e : Ending) (w' : World) : Prop := ∃ r, e = .returned (.tuple #[r, .int .i64 p.2]) ∧ Knots w' r p.1 ∧ Below w.heap.size w w'
theorem givesK_of {w w' : World} {r : Value} {p : List KnotL × Int} {l : List KnotL} {c : Int} (hp : p = (l, c)) (hr : Knots w' r l) (hb : Below w.heap.size w w') : GivesK w p (.returned (.tuple #[r, .int .i64 c])) w' := by
  subst hp; exact ⟨r, rfl, hr, hb⟩

theorem setCell_blockK {w : World} {g off : Nat} {cur : Array Value} {e : TypeId} (h : w.heap[g]? = some (.cells cur e (0, 0))) (u : Value) : (w.setCell ⟨g, off, none⟩ u).heap[g]? = some (.cells (cur.setIfInBounds off u) e (0, 0)) := by
  have hlt : g < w.heap.size := (Array.getElem?_eq_some_iff.1 h).1
  have h' : w.heap[g] = .cells cur e (0, 0) := (Array.getElem?_eq_some_iff.1 h).2
  show (w.heap.modify g _)[g]? = _
  rw [Array.getElem?_eq_getElem (by simpa using hlt), Array.getElem_modify_self, h']
  rfl

/-- A store into a row that the call itself has made. -/
theorem ownsRow_set {B : Nat} {w : World} {e : TypeId} {g n cap : Nat} {xs : List Value} (h : w.ownsRow B e 1 (.slice (some ⟨g, 0, none⟩) n cap) n xs) {j : Nat} (hj : j < n) (u : Value) :
    (w.setCell ⟨g, j, none⟩ u).ownsRow B e 1 (.slice (some ⟨g, 0, none⟩) n cap) n (xs.set j u) := by
  obtain ⟨h1, h2⟩ := h
  refine ⟨by simpa using h1, ?_⟩
  rcases h2 with ⟨e1, _⟩ | ⟨g', cap', cur, e1, hg, hh, r1, r2, r3, r4⟩
  · cases e1
  · injection e1 with e2 e3 e4
    injection e2 with e2
    injection e2 with e2
    subst e2 e4
    refine .inr ⟨g, cap, cur.setIfInBounds j u, rfl, hg, setCell_blockK hh u, r1, r2, by simpa using r3, ?_⟩
    rw [Array.toList_setIfInBounds, ← r4, List.take_set]

theorem Own.put {B : Nat} {w wr : World} {g n cap : Nat} {zs : List Int} (h : Own B w wr (.slice (some ⟨g, 0, none⟩) n cap) zs) (hn : zs.length = n) {j : Nat} (hj : j < n) (x : Int) :
    Own B w (wr.setCell ⟨g, j, none⟩ (.int .i64 x)) (.slice (some ⟨g, 0, none⟩) n cap) (zs.set j x) := by
  obtain ⟨h1, h2, h3⟩ := h
  have hB : B ≤ g := (ownsRow_lt h1 (k := g) rfl).1
  have h1' := h1
  rw [hn] at h1'
  refine ⟨?_, h2.setCell (p := ⟨g, j, none⟩) hB _, by simpa [World.setCell] using h3⟩
  have := ownsRow_set h1' hj (.int .i64 x)
  rw [List.length_set, hn, List.map_set]
  exact this
theorem Own.cell {B : Nat} {w wr : World} {g n cap : Nat} {zs : List Int} (h : Own B w wr (.slice (some ⟨g, 0, none⟩) n cap) zs) (hn : zs.length = n) {j : Nat} (hj : j < n) :
    wr.cell? ⟨g, j, none⟩ = some (.int .i64 (nth zs j)) ∧ wr.frozen? ⟨g, j, none⟩ = false ∧ g < wr.heap.size := by
  have h1 := h.1
  rw [hn] at h1
  have hc := h1.cellAt j (by omega)
  obtain ⟨_, hk⟩ := h.1
  rcases hk with ⟨e1, _⟩ | ⟨g', cap', cur, e1, hg, hh, _⟩
  · cases e1
  · injection e1 with e2 e3 e4
    injection e2 with e2
    injection e2 with e2
    subst e2
    refine ⟨by rw [hc]; simp [nth, List.getD, List.getElem?_eq_getElem (show j < zs.length by omega)], by simp [World.frozen?, hh], (Array.getElem?_eq_some_iff.1 hh).1⟩

end Go.Proofs.YteoofibhpifmlaaDoor
