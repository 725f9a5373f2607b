/- A block in memory. -/
import Derived.Test.YtjfcfnaeinhmcaaDoorBlockBase
import Derived.Test.YtjfcfnaeinhmcaaDoorOwn
import Derived.Test.YtjfcfnaeinhmcaaDoorBoxes
namespace Go.Proofs.YtjfcfnaeinhmcaaDoor
open Go.RowKit
set_option linter.unusedVariables false
set_option maxRecDepth 4000

/-- A value that is this block, as deep as f. -/
def BlockF : Nat → World → Value → BlockL → Prop
  | 0, _, _, _ => True
  | f + 1, w, v, b => ∃ a len cap, v = .agg #[.int .i64 b.kind, .int .i64 b.label, .slice a len cap] ∧ b.kids.length = len ∧ len ≤ 3518437208780 ∧ Shape a len cap ∧
      ∀ j (hj : j < b.kids.length), ∃ bk off x y z, a = some ⟨bk, off, none⟩ ∧ bk < w.heap.size ∧ w.cell? ⟨bk, off + j * 3, none⟩ = some x ∧ w.cell? ⟨bk, off + j * 3 + 1, none⟩ = some y ∧ w.cell? ⟨bk, off + j * 3 + 2, none⟩ = some z ∧ BlockF f w (.agg #[x, y, z]) b.kids[j]
/-- A value that is this block. -/
def BlockV (w : World) (v : Value) (b : BlockL) : Prop := ∀ f, BlockF f w v b
/-- A slice of these blocks. -/
def KidsV (w : World) (v : Value) (l : List BlockL) : Prop := ∃ a len cap, v = .slice a len cap ∧ l.length = len ∧ len ≤ 3518437208780 ∧ Shape a len cap ∧
      ∀ j (hj : j < l.length), ∃ bk off x y z, a = some ⟨bk, off, none⟩ ∧ bk < w.heap.size ∧ w.cell? ⟨bk, off + j * 3, none⟩ = some x ∧ w.cell? ⟨bk, off + j * 3 + 1, none⟩ = some y ∧ w.cell? ⟨bk, off + j * 3 + 2, none⟩ = some z ∧ BlockV w (.agg #[x, y, z]) l[j]

theorem BlockF.below : ∀ {f : Nat} {w w' : World} {v : Value} {b : BlockL}, BlockF f w v b → Below w.heap.size w w' → BlockF f w' v b
  | 0, _, _, _, _, _, _ => trivial
  | f + 1, w, w', v, b, h, hb => by
    obtain ⟨a, len, cap, e, hl, hm, hs, hr⟩ := h
    refine ⟨a, len, cap, e, hl, hm, hs, fun j hj => ?_⟩
    obtain ⟨bk, off, x, y, z, ha, hlt, h0, h1, h2, hk⟩ := hr j hj
    exact ⟨bk, off, x, y, z, ha, Nat.lt_of_lt_of_le hlt hb.size, (hb.cell (p := ⟨bk, off + j * 3, none⟩) hlt).trans h0, (hb.cell (p := ⟨bk, off + j * 3 + 1, none⟩) hlt).trans h1, (hb.cell (p := ⟨bk, off + j * 3 + 2, none⟩) hlt).trans h2, hk.below hb⟩
theorem BlockV.below {w w' : World} {v : Value} {b : BlockL} (h : BlockV w v b) (hb : Below w.heap.size w w') : BlockV w' v b := fun f => (h f).below hb
theorem KidsV.below {w w' : World} {v : Value} {l : List BlockL} (h : KidsV w v l) (hb : Below w.heap.size w w') : KidsV w' v l := by
  obtain ⟨a, len, cap, e, hl, hm, hs, hr⟩ := h
  refine ⟨a, len, cap, e, hl, hm, hs, fun j hj => ?_⟩
  obtain ⟨bk, off, x, y, z, ha, hlt, h0, h1, h2, hk⟩ := hr j hj
  exact ⟨bk, off, x, y, z, ha, Nat.lt_of_lt_of_le hlt hb.size, (hb.cell (p := ⟨bk, off + j * 3, none⟩) hlt).trans h0, (hb.cell (p := ⟨bk, off + j * 3 + 1, none⟩) hlt).trans h1, (hb.cell (p := ⟨bk, off + j * 3 + 2, none⟩) hlt).trans h2, hk.below hb⟩
/-- A block is what it is by itself, and a slice of its kids. -/
theorem blockV_iff {w : World} {v : Value} {b : BlockL} : BlockV w v b ↔ ∃ kv, v = .agg #[.int .i64 b.kind, .int .i64 b.label, kv] ∧ KidsV w kv b.kids := by
  constructor
  · intro h
    obtain ⟨a, len, cap, e, hl, hm, hs, hr⟩ := h 1
    refine ⟨_, e, a, len, cap, rfl, hl, hm, hs, fun j hj => ?_⟩
    obtain ⟨bk, off, x, y, z, ha, hlt, h0, h1, h2, _⟩ := hr j hj
    refine ⟨bk, off, x, y, z, ha, hlt, h0, h1, h2, fun f => ?_⟩
    obtain ⟨a', len', cap', e', _, _, _, hr'⟩ := h (f + 1)
    rw [e] at e'
    injection e' with e'
    simp only [Array.mk.injEq, List.cons.injEq, Value.slice.injEq, and_true, true_and] at e'
    obtain ⟨rfl, rfl, rfl⟩ := e'
    obtain ⟨bk', off', x', y', z', ha', _, g0, g1, g2, hk⟩ := hr' j hj
    rw [ha] at ha'
    injection ha' with ha'
    injection ha' with r1 r2
    subst r1 r2
    rw [h0] at g0
    rw [h1] at g1
    rw [h2] at g2
    injection g0 with g0
    injection g1 with g1
    injection g2 with g2
    subst g0 g1 g2
    exact hk
  · rintro ⟨kv, e, a, len, cap, rfl, hl, hm, hs, hr⟩ f
    cases f with
    | zero => trivial
    | succ f =>
      refine ⟨a, len, cap, e, hl, hm, hs, fun j hj => ?_⟩
      obtain ⟨bk, off, x, y, z, ha, hlt, h0, h1, h2, hk⟩ := hr j hj
      exact ⟨bk, off, x, y, z, ha, hlt, h0, h1, h2, hk f⟩
theorem KidsV.slice {w : World} {v : Value} {l : List BlockL} (h : KidsV w v l) : ∃ a cap, v = .slice a l.length cap ∧ l.length ≤ 3518437208780 ∧ Shape a l.length cap := by
  obtain ⟨a, len, cap, e, hl, hm, hs, hr⟩ := h
  subst hl
  exact ⟨a, cap, e, hm, hs⟩
/-- The j-th of them. -/
theorem KidsV.at {w : World} {a : Option Addr} {len cap : Nat} {l : List BlockL} (h : KidsV w (.slice a len cap) l) {j : Nat} (hj : j < l.length) :
    ∃ bk off kv, a = some ⟨bk, off, none⟩ ∧ bk < w.heap.size ∧ w.cell? ⟨bk, off + j * 3, none⟩ = some (.int .i64 l[j].kind) ∧ w.cell? ⟨bk, off + j * 3 + 1, none⟩ = some (.int .i64 l[j].label) ∧ w.cell? ⟨bk, off + j * 3 + 2, none⟩ = some kv ∧
      BlockV w (.agg #[.int .i64 l[j].kind, .int .i64 l[j].label, kv]) l[j] := by
  obtain ⟨a', len', cap', e, hl, hm, hs, hr⟩ := h
  injection e with e1 e2 e3
  subst e1 e2 e3
  obtain ⟨bk, off, x, y, z, ha, hlt, h0, h1, h2, hk⟩ := hr j hj
  obtain ⟨kv, e, hkv⟩ := blockV_iff.1 hk
  injection e with e
  simp only [Array.mk.injEq, List.cons.injEq, and_true] at e
  obtain ⟨rfl, rfl, rfl⟩ := e
  exact ⟨bk, off, z, ha, hlt, h0, h1, h2, hk⟩
/-- All but the first. -/
theorem KidsV.tail {w : World} {a : Addr} {n cap : Nat} {k : BlockL} {l : List BlockL} (h : KidsV w (.slice (some a) (n + 1) cap) (k :: l)) : KidsV w (.slice (some (a.add 3)) n (cap - 1)) l := by
  obtain ⟨a', len', cap', e, hl, hm, hs, hr⟩ := h
  injection e with e1 e2 e3
  subst e1 e2 e3
  simp only [List.length_cons] at hl
  refine ⟨_, _, _, rfl, by omega, by omega, ⟨by have := hs.1; omega, by have := hs.2.1; omega, fun q => by cases q⟩, fun j hj => ?_⟩
  obtain ⟨bk, off, x, y, z, ha, hlt, h0, h1, h2, hk⟩ := hr (j + 1) (by simp; omega)
  injection ha with ha
  subst ha
  refine ⟨bk, off + 3, x, y, z, by simp [Addr.add], hlt, ?_, ?_, ?_, hk⟩
  · rw [← h0]; congr 2; omega
  · rw [← h1]; congr 2; omega
  · rw [← h2]; congr 2; omega

end Go.Proofs.YtjfcfnaeinhmcaaDoor
