/- Desks in memory. -/
import Derived.Test.YteohpkicbkhpjaaDeskRun
import Derived.Test.YteohpkicbkhpjaaCaseOps
namespace Go.Proofs.Yteohpkicbkhpjaa
open Go.RowKit
set_option linter.unusedVariables false
set_option maxRecDepth 4000

/-- A slice of items. -/
def ItemsV (w : World) (v : Value) (l : List ItemL) : Prop :=
  ∃ a len cap, v = .slice a len cap ∧ l.length = len ∧ len ≤ 5864062014805 ∧ Shape a len cap ∧
    ∀ j, j < l.length → ∃ b off, a = some ⟨b, off, none⟩ ∧ b < w.heap.size ∧ w.cell? ⟨b, off + j * 3, none⟩ = some (.int .i64 (itemAt l j).user) ∧ w.cell? ⟨b, off + j * 3 + 1, none⟩ = some (.int .i64 (itemAt l j).tran) ∧ w.cell? ⟨b, off + j * 3 + 2, none⟩ = some (.bool (itemAt l j).opn)
theorem ItemsV.below {w w' : World} {v : Value} {l : List ItemL} (h : ItemsV w v l) (hb : Below w.heap.size w w') : ItemsV w' v l := by
  obtain ⟨a, len, cap, e, hl, hm, hs, hr⟩ := h
  refine ⟨a, len, cap, e, hl, hm, hs, fun j hj => ?_⟩
  obtain ⟨b, off, ha, hlt, h0, h1, h2⟩ := hr j hj
  exact ⟨b, off, ha, Nat.lt_of_lt_of_le hlt hb.size, by rw [hb.cell (p := ⟨b, _, none⟩) hlt]; exact h0, by rw [hb.cell (p := ⟨b, _, none⟩) hlt]; exact h1, by rw [hb.cell (p := ⟨b, _, none⟩) hlt]; exact h2⟩
theorem ItemsV.at {w : World} {a : Option Addr} {len cap : Nat} {l : List ItemL} (h : ItemsV w (.slice a len cap) l) {k : Nat} (hk : k < len) :
    ∃ b off, a = some ⟨b, off, none⟩ ∧ b < w.heap.size ∧ w.cell? ⟨b, off + k * 3, none⟩ = some (.int .i64 (itemAt l k).user) ∧ w.cell? ⟨b, off + k * 3 + 1, none⟩ = some (.int .i64 (itemAt l k).tran) ∧ w.cell? ⟨b, off + k * 3 + 2, none⟩ = some (.bool (itemAt l k).opn) := by
  obtain ⟨a', len', cap', e, hl, hm, hs, hr⟩ := h
  injection e with e1 e2 e3
  subst e1 e2 e3
  exact hr k (by omega)
theorem ItemsV.slice {w : World} {v : Value} {l : List ItemL} (h : ItemsV w v l) : ∃ a cap, v = .slice a l.length cap ∧ l.length ≤ 5864062014805 ∧ Shape a l.length cap := by
  obtain ⟨a, len, cap, e, hl, hm, hs, hr⟩ := h
  subst hl
  exact ⟨a, cap, e, hm, hs⟩

/-- A value that is this desk. -/
def DeskV (w : World) (v : Value) (d : DeskL) : Prop :=
  ∃ a l p a' l' p' ia ic, v = .agg #[.slice a l p, .slice a' l' p', .slice ia d.items.length ic] ∧ Ints w (.slice a l p) d.case.mark ∧ Ints w (.slice a' l' p') d.case.busy ∧ ItemsV w (.slice ia d.items.length ic) d.items
theorem DeskV.below {w w' : World} {v : Value} {d : DeskL} (h : DeskV w v d) (hb : Below w.heap.size w w') : DeskV w' v d := by
  obtain ⟨a, l, p, a', l', p', ia, ic, e, h1, h2, h3⟩ := h
  exact ⟨a, l, p, a', l', p', ia, ic, e, h1.below hb, h2.below hb, h3.below hb⟩

/-- A slice of things to do at a desk. -/
def DOpsV (w : World) (v : Value) (l : List DOp) : Prop :=
  ∃ a len cap, v = .slice a len cap ∧ l.length = len ∧ len ≤ 3518437208883 ∧ Shape a len cap ∧
    ∀ j, j < l.length → ∃ b off, a = some ⟨b, off, none⟩ ∧ b < w.heap.size ∧ w.cell? ⟨b, off + j * 5, none⟩ = some (.int .i64 (dopAt l j).kind) ∧ w.cell? ⟨b, off + j * 5 + 1, none⟩ = some (.int .i64 (dopAt l j).user) ∧ w.cell? ⟨b, off + j * 5 + 2, none⟩ = some (.int .i64 (dopAt l j).tran) ∧
      w.cell? ⟨b, off + j * 5 + 3, none⟩ = some (.int .i64 (dopAt l j).item) ∧ w.cell? ⟨b, off + j * 5 + 4, none⟩ = some (.int .i64 (dopAt l j).hand)
theorem DOpsV.below {w w' : World} {v : Value} {l : List DOp} (h : DOpsV w v l) (hb : Below w.heap.size w w') : DOpsV w' v l := by
  obtain ⟨a, len, cap, e, hl, hm, hs, hr⟩ := h
  refine ⟨a, len, cap, e, hl, hm, hs, fun j hj => ?_⟩
  obtain ⟨b, off, ha, hlt, h0, h1, h2, h3, h4⟩ := hr j hj
  exact ⟨b, off, ha, Nat.lt_of_lt_of_le hlt hb.size, by rw [hb.cell (p := ⟨b, _, none⟩) hlt]; exact h0, by rw [hb.cell (p := ⟨b, _, none⟩) hlt]; exact h1, by rw [hb.cell (p := ⟨b, _, none⟩) hlt]; exact h2, by rw [hb.cell (p := ⟨b, _, none⟩) hlt]; exact h3, by rw [hb.cell (p := ⟨b, _, none⟩) hlt]; exact h4⟩
theorem DOpsV.at {w : World} {a : Option Addr} {len cap : Nat} {l : List DOp} (h : DOpsV w (.slice a len cap) l) {k : Nat} (hk : k < len) :
    ∃ b off, a = some ⟨b, off, none⟩ ∧ b < w.heap.size ∧ w.cell? ⟨b, off + k * 5, none⟩ = some (.int .i64 (dopAt l k).kind) ∧ w.cell? ⟨b, off + k * 5 + 1, none⟩ = some (.int .i64 (dopAt l k).user) ∧ w.cell? ⟨b, off + k * 5 + 2, none⟩ = some (.int .i64 (dopAt l k).tran) ∧
      w.cell? ⟨b, off + k * 5 + 3, none⟩ = some (.int .i64 (dopAt l k).item) ∧ w.cell? ⟨b, off + k * 5 + 4, none⟩ = some (.int .i64 (dopAt l k).hand) := by
  obtain ⟨a', len', cap', e, hl, hm, hs, hr⟩ := h
  injection e with e1 e2 e3
  subst e1 e2 e3
  exact hr k (by omega)
theorem DOpsV.slice {w : World} {v : Value} {l : List DOp} (h : DOpsV w v l) : ∃ a cap, v = .slice a l.length cap ∧ l.length ≤ 3518437208883 ∧ Shape a l.length cap := by
  obtain ⟨a, len, cap, e, hl, hm, hs, hr⟩ := h
  subst hl
  exact ⟨a, cap, e, hm, hs⟩

def ansL (l : List DAns) : List (Int × Int) := l.map fun a => (a.err, a.item)
theorem ansL_length (l : List DAns) : (ansL l).length = l.length := List.length_map ..
theorem ansL_at (l : List DAns) (k : Nat) : opAt (ansL l) k = ((dansAt l k).err, (dansAt l k).item) := by
  unfold opAt ansL dansAt
  rw [List.getD_eq_getElem?_getD, List.getD_eq_getElem?_getD, List.getElem?_map]
  cases l[k]? <;> rfl

/-- What a call answers that plays them. -/
def GivesD (w : World) (p : DeskL × List DAns × Int) (e : Ending) (w' : World) : Prop :=
  ∃ r a c, e = .returned (.tuple #[r, .slice a p.2.1.length c, .int .i64 p.2.2]) ∧ DeskV w' r p.1 ∧ OpsV w' (.slice a p.2.1.length c) (ansL p.2.1) ∧ Below w.heap.size w w'

/-- A boxed desk. -/
def BoxD (w : World) (b : Nat) (x y z : Value) : Prop := b < w.heap.size ∧ w.cell? ⟨b, 0, none⟩ = some x ∧ w.cell? ⟨b, 1, none⟩ = some y ∧ w.cell? ⟨b, 2, none⟩ = some z

end Go.Proofs.Yteohpkicbkhpjaa
