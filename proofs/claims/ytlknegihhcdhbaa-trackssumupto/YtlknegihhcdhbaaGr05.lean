import Derived.Test.YtlknegihhcdhbaaGr04
import Derived.Test.YtlknegihhcdhbaaGr03
import Derived.Test.YtlknegihhcdhbaaGr00
import Derived.Laws.ResultCell
/- Cases in memory; a box that a case is answered from. -/
namespace Go.Proofs.Ytlknegihhcdhbaa
open Go.RowKit
set_option linter.unusedVariables false
set_option maxRecDepth 4000

theorem len_of_ints {w : World} {a : Option Addr} {l c : Nat} {xs : List Int} (h : Ints w (.slice a l c) xs) : xs.length = l := by
  obtain ⟨a', l', c', e, h, _⟩ := h
  injection e with _ e2 _
  rw [h, e2]

/-- A value that is this case. -/
def CaseV (w : World) (v : Value) (c : CaseL) : Prop := ∃ a l p a' l' p', v = .agg #[.slice a l p, .slice a' l' p'] ∧ Ints w (.slice a l p) c.mark ∧ Ints w (.slice a' l' p') c.busy
theorem CaseV.below {w w' : World} {v : Value} {c : CaseL} (h : CaseV w v c) (hb : Below w.heap.size w w') : CaseV w' v c := by
  obtain ⟨a, l, p, a', l', p', e, h1, h2⟩ := h
  exact ⟨a, l, p, a', l', p', e, h1.below hb, h2.below hb⟩
theorem CaseV.mk' {w : World} {mv bv : Value} {ms bs : List Int} (h1 : Ints w mv ms) (h2 : Ints w bv bs) : CaseV w (.agg #[mv, bv]) ⟨ms, bs⟩ := by
  obtain ⟨a, l, p, rfl, _⟩ := id h1
  obtain ⟨a', l', p', rfl, _⟩ := id h2
  exact ⟨a, l, p, a', l', p', rfl, h1, h2⟩
theorem CaseV.none (w : World) : CaseV w (.agg #[.slice none 0 0, .slice none 0 0]) noCase := CaseV.mk' (Ints.nil w) (Ints.nil w)

/-- What a call answers that makes a case, or tells why not. -/
def GivesC (w : World) (p : CaseL × Int) (e : Ending) (w' : World) : Prop := ∃ r, e = .returned (.tuple #[r, .int .i64 p.2]) ∧ CaseV w' r p.1 ∧ Below w.heap.size w w'
theorem givesC_of {w w' : World} {r : Value} {p : CaseL × Int} {c : CaseL} {d : Int} (hp : p = (c, d)) (hr : CaseV w' r c) (hb : Below w.heap.size w w') : GivesC w p (.returned (.tuple #[r, .int .i64 d])) w' := by
  subst hp; exact ⟨r, rfl, hr, hb⟩

/-- A cell that holds a slice is none that numbers are read from. -/
theorem Ints.putS {w : World} {v : Value} {xs : List Int} {p : Addr} {a : Option Addr} {l c : Nat} (h : Ints w v xs) (hp : w.cell? p = some (.slice a l c)) (u : Value) : Ints (w.setCell p u) v xs := by
  obtain ⟨a', len, cap, e, hl, hm, hs, hr⟩ := h
  refine ⟨a', len, cap, e, hl, hm, hs, fun j hj => ?_⟩
  obtain ⟨b, off, ha, hb, hc⟩ := hr j hj
  refine ⟨b, off, ha, by simpa [World.setCell] using hb, ?_⟩
  rw [World.cell?_setCell_other _ _ _ _ (by intro e; rw [← e, hp] at hc; cases hc)]
  exact hc

end Go.Proofs.Ytlknegihhcdhbaa

/- A list of things to do in a case, in memory; what is answered of it. -/
namespace Go.Proofs.Ytlknegihhcdhbaa
open Go.RowKit
set_option linter.unusedVariables false
set_option maxRecDepth 4000

def opAt (l : List (Int × Int)) (k : Nat) : Int × Int := l.getD k (0, 0)
/-- A slice of pairs of numbers. -/
def OpsV (w : World) (v : Value) (l : List (Int × Int)) : Prop :=
  ∃ a len cap, v = .slice a len cap ∧ l.length = len ∧ len ≤ 8796093022208 ∧ Shape a len cap ∧
    ∀ j, j < l.length → ∃ b off, a = some ⟨b, off, none⟩ ∧ b < w.heap.size ∧ w.cell? ⟨b, off + j * 2, none⟩ = some (.int .i64 (opAt l j).1) ∧ w.cell? ⟨b, off + j * 2 + 1, none⟩ = some (.int .i64 (opAt l j).2)
theorem OpsV.below {w w' : World} {v : Value} {l : List (Int × Int)} (h : OpsV w v l) (hb : Below w.heap.size w w') : OpsV w' v l := by
  obtain ⟨a, len, cap, e, hl, hm, hs, hr⟩ := h
  refine ⟨a, len, cap, e, hl, hm, hs, fun j hj => ?_⟩
  obtain ⟨b, off, ha, hlt, h0, h1⟩ := hr j hj
  exact ⟨b, off, ha, Nat.lt_of_lt_of_le hlt hb.size, by rw [hb.cell (p := ⟨b, _, none⟩) hlt]; exact h0, by rw [hb.cell (p := ⟨b, _, none⟩) hlt]; exact h1⟩
theorem OpsV.at {w : World} {a : Option Addr} {len cap : Nat} {l : List (Int × Int)} (h : OpsV w (.slice a len cap) l) {k : Nat} (hk : k < len) :
    ∃ b off, a = some ⟨b, off, none⟩ ∧ b < w.heap.size ∧ w.cell? ⟨b, off + k * 2, none⟩ = some (.int .i64 (opAt l k).1) ∧ w.cell? ⟨b, off + k * 2 + 1, none⟩ = some (.int .i64 (opAt l k).2) := by
  obtain ⟨a', len', cap', e, hl, hm, hs, hr⟩ := h
  injection e with e1 e2 e3
  subst e1 e2 e3
  exact hr k (by omega)
theorem OpsV.slice {w : World} {v : Value} {l : List (Int × Int)} (h : OpsV w v l) : ∃ a cap, v = .slice a l.length cap ∧ l.length ≤ 8796093022208 ∧ Shape a l.length cap := by
  obtain ⟨a, len, cap, e, hl, hm, hs, hr⟩ := h
  subst hl
  exact ⟨a, cap, e, hm, hs⟩

/-- What a call answers that plays them. -/
def GivesP (w : World) (p : CaseL × List Int × Int) (e : Ending) (w' : World) : Prop := ∃ r l, e = .returned (.tuple #[r, l, .int .i64 p.2.2]) ∧ CaseV w' r p.1 ∧ Ints w' l p.2.1 ∧ Below w.heap.size w w'
/-- What a call answers that makes a net, or tells why not. -/
def GivesN (w : World) (p : NetL × Int) (e : Ending) (w' : World) : Prop := ∃ r, e = .returned (.tuple #[r, .int .i64 p.2]) ∧ Net w' r p.1 ∧ Below w.heap.size w w'

end Go.Proofs.Ytlknegihhcdhbaa

/- Desks in memory. -/
namespace Go.Proofs.Ytlknegihhcdhbaa
open Go.RowKit
set_option linter.unusedVariables false
set_option maxRecDepth 4000

/-- A slice of items. -/
def ItemsV (w : World) (v : Value) (l : List ItemL) : Prop :=
  ∃ a len cap, v = .slice a len cap ∧ l.length = len ∧ len ≤ 5864062014805 ∧ Shape a len cap ∧
    ∀ j, j < l.length → ∃ b off, a = some ⟨b, off, none⟩ ∧ b < w.heap.size ∧ w.cell? ⟨b, off + j * 3, none⟩ = some (.int .i64 (itemAt l j).user) ∧ w.cell? ⟨b, off + j * 3 + 1, none⟩ = some (.int .i64 (itemAt l j).tran) ∧ w.cell? ⟨b, off + j * 3 + 2, none⟩ = some (.bool (itemAt l j).opn)
theorem ItemsV.below {w w' : World} {v : Value} {l : List ItemL} (h : ItemsV w v l) (hb : Below w.heap.size w w') : ItemsV w' v l := by
  obtain ⟨a, len, cap, e, hl, hm, hs, hr⟩ := h
  refine ⟨a, len, cap, e, hl, hm, hs, fun j hj => ?_⟩
  obtain ⟨b, off, ha, hlt, h0, h1, h2⟩ := hr j hj
  exact ⟨b, off, ha, Nat.lt_of_lt_of_le hlt hb.size, by rw [hb.cell (p := ⟨b, _, none⟩) hlt]; exact h0, by rw [hb.cell (p := ⟨b, _, none⟩) hlt]; exact h1, by rw [hb.cell (p := ⟨b, _, none⟩) hlt]; exact h2⟩
theorem ItemsV.at {w : World} {a : Option Addr} {len cap : Nat} {l : List ItemL} (h : ItemsV w (.slice a len cap) l) {k : Nat} (hk : k < len) :
    ∃ b off, a = some ⟨b, off, none⟩ ∧ b < w.heap.size ∧ w.cell? ⟨b, off + k * 3, none⟩ = some (.int .i64 (itemAt l k).user) ∧ w.cell? ⟨b, off + k * 3 + 1, none⟩ = some (.int .i64 (itemAt l k).tran) ∧ w.cell? ⟨b, off + k * 3 + 2, none⟩ = some (.bool (itemAt l k).opn) := by
  obtain ⟨a', len', cap', e, hl, hm, hs, hr⟩ := h
  injection e with e1 e2 e3
  subst e1 e2 e3
  exact hr k (by omega)
theorem ItemsV.slice {w : World} {v : Value} {l : List ItemL} (h : ItemsV w v l) : ∃ a cap, v = .slice a l.length cap ∧ l.length ≤ 5864062014805 ∧ Shape a l.length cap := by
  obtain ⟨a, len, cap, e, hl, hm, hs, hr⟩ := h
  subst hl
  exact ⟨a, cap, e, hm, hs⟩

/-- A value that is this desk. -/
def DeskV (w : World) (v : Value) (d : DeskL) : Prop :=
  ∃ a l p a' l' p' ia ic, v = .agg #[.slice a l p, .slice a' l' p', .slice ia d.items.length ic] ∧ Ints w (.slice a l p) d.case.mark ∧ Ints w (.slice a' l' p') d.case.busy ∧ ItemsV w (.slice ia d.items.length ic) d.items
theorem DeskV.below {w w' : World} {v : Value} {d : DeskL} (h : DeskV w v d) (hb : Below w.heap.size w w') : DeskV w' v d := by
  obtain ⟨a, l, p, a', l', p', ia, ic, e, h1, h2, h3⟩ := h
  exact ⟨a, l, p, a', l', p', ia, ic, e, h1.below hb, h2.below hb, h3.below hb⟩

/-- A slice of things to do at a desk. -/
def DOpsV (w : World) (v : Value) (l : List DOp) : Prop :=
  ∃ a len cap, v = .slice a len cap ∧ l.length = len ∧ len ≤ 3518437208883 ∧ Shape a len cap ∧
    ∀ j, j < l.length → ∃ b off, a = some ⟨b, off, none⟩ ∧ b < w.heap.size ∧ w.cell? ⟨b, off + j * 5, none⟩ = some (.int .i64 (dopAt l j).kind) ∧ w.cell? ⟨b, off + j * 5 + 1, none⟩ = some (.int .i64 (dopAt l j).user) ∧ w.cell? ⟨b, off + j * 5 + 2, none⟩ = some (.int .i64 (dopAt l j).tran) ∧
      w.cell? ⟨b, off + j * 5 + 3, none⟩ = some (.int .i64 (dopAt l j).item) ∧ w.cell? ⟨b, off + j * 5 + 4, none⟩ = some (.int .i64 (dopAt l j).hand)
theorem DOpsV.below {w w' : World} {v : Value} {l : List DOp} (h : DOpsV w v l) (hb : Below w.heap.size w w') : DOpsV w' v l := by
  obtain ⟨a, len, cap, e, hl, hm, hs, hr⟩ := h
  refine ⟨a, len, cap, e, hl, hm, hs, fun j hj => ?_⟩
  obtain ⟨b, off, ha, hlt, h0, h1, h2, h3, h4⟩ := hr j hj
  exact ⟨b, off, ha, Nat.lt_of_lt_of_le hlt hb.size, by rw [hb.cell (p := ⟨b, _, none⟩) hlt]; exact h0, by rw [hb.cell (p := ⟨b, _, none⟩) hlt]; exact h1, by rw [hb.cell (p := ⟨b, _, none⟩) hlt]; exact h2, by rw [hb.cell (p := ⟨b, _, none⟩) hlt]; exact h3, by rw [hb.cell (p := ⟨b, _, none⟩) hlt]; exact h4⟩
theorem DOpsV.at {w : World} {a : Option Addr} {len cap : Nat} {l : List DOp} (h : DOpsV w (.slice a len cap) l) {k : Nat} (hk : k < len) :
    ∃ b off, a = some ⟨b, off, none⟩ ∧ b < w.heap.size ∧ w.cell? ⟨b, off + k * 5, none⟩ = some (.int .i64 (dopAt l k).kind) ∧ w.cell? ⟨b, off + k * 5 + 1, none⟩ = some (.int .i64 (dopAt l k).user) ∧ w.cell? ⟨b, off + k * 5 + 2, none⟩ = some (.int .i64 (dopAt l k).tran) ∧
      w.cell? ⟨b, off + k * 5 + 3, none⟩ = some (.int .i64 (dopAt l k).item) ∧ w.cell? ⟨b, off + k * 5 + 4, none⟩ = some (.int .i64 (dopAt l k).hand) := by
  obtain ⟨a', len', cap', e, hl, hm, hs, hr⟩ := h
  injection e with e1 e2 e3
  subst e1 e2 e3
  exact hr k (by omega)
theorem DOpsV.slice {w : World} {v : Value} {l : List DOp} (h : DOpsV w v l) : ∃ a cap, v = .slice a l.length cap ∧ l.length ≤ 3518437208883 ∧ Shape a l.length cap := by
  obtain ⟨a, len, cap, e, hl, hm, hs, hr⟩ := h
  subst hl
  exact ⟨a, cap, e, hm, hs⟩

def ansL (l : List DAns) : List (Int × Int) := l.map fun a => (a.err, a.item)
theorem ansL_length (l : List DAns) : (ansL l).length = l.length := List.length_map ..
theorem ansL_at (l : List DAns) (k : Nat) : opAt (ansL l) k = ((dansAt l k).err, (dansAt l k).item) := by
  unfold opAt ansL dansAt
  rw [List.getD_eq_getElem?_getD, List.getD_eq_getElem?_getD, List.getElem?_map]
  cases l[k]? <;> rfl

/-- What a call answers that plays them. -/
def GivesD (w : World) (p : DeskL × List DAns × Int) (e : Ending) (w' : World) : Prop :=
  ∃ r a c, e = .returned (.tuple #[r, .slice a p.2.1.length c, .int .i64 p.2.2]) ∧ DeskV w' r p.1 ∧ OpsV w' (.slice a p.2.1.length c) (ansL p.2.1) ∧ Below w.heap.size w w'

/-- A boxed desk. -/
def BoxD (w : World) (b : Nat) (x y z : Value) : Prop := b < w.heap.size ∧ w.cell? ⟨b, 0, none⟩ = some x ∧ w.cell? ⟨b, 1, none⟩ = some y ∧ w.cell? ⟨b, 2, none⟩ = some z

end Go.Proofs.Ytlknegihhcdhbaa
