/- Plain words for what a net holds in memory. -/
import Derived.Test.YtjfcfnaeinhmcaaDoorBase
namespace Go.Proofs.YtjfcfnaeinhmcaaDoor
open Go.RowKit
set_option linter.unusedVariables false
set_option maxRecDepth 4000

/-- A transition. -/
structure TranL where
  label : Int
  pre : List Int
  post : List Int

/-- A net. -/
structure NetL where
  places : Int
  trans : List TranL

def noTran : TranL := ⟨0, [], []⟩
def tranAt (ts : List TranL) (k : Nat) : TranL := ts.getD k noTran

/-- Three cells that are a transition. -/
def IsTran (w : World) (c0 c1 c2 : Value) (t : TranL) : Prop := c0 = .int .i64 t.label ∧ Ints w c1 t.pre ∧ Ints w c2 t.post

theorem IsTran.below {w w' : World} {c0 c1 c2 : Value} {t : TranL} (h : IsTran w c0 c1 c2 t) (hb : Below w.heap.size w w') : IsTran w' c0 c1 c2 t :=
  ⟨h.1, h.2.1.below hb, h.2.2.below hb⟩

/-- Where a slice of transitions begins, and what they are. -/
def TranRow (w : World) (a : Option Addr) (ts : List TranL) : Prop :=
  ∀ j, j < ts.length → ∃ b off c1 c2, a = some ⟨b, off, none⟩ ∧ b < w.heap.size ∧ w.cell? ⟨b, off + j * 3, none⟩ = some (.int .i64 (tranAt ts j).label) ∧
    w.cell? ⟨b, off + j * 3 + 1, none⟩ = some c1 ∧ w.cell? ⟨b, off + j * 3 + 2, none⟩ = some c2 ∧ Ints w c1 (tranAt ts j).pre ∧ Ints w c2 (tranAt ts j).post

theorem TranRow.below {w w' : World} {a : Option Addr} {ts : List TranL} (h : TranRow w a ts) (hb : Below w.heap.size w w') : TranRow w' a ts := by
  intro j hj
  obtain ⟨b, off, c1, c2, ha, hlt, h0, h1, h2, h3, h4⟩ := h j hj
  exact ⟨b, off, c1, c2, ha, Nat.lt_of_lt_of_le hlt hb.size, by rw [hb.cell (p := ⟨b, _, none⟩) hlt]; exact h0, by rw [hb.cell (p := ⟨b, _, none⟩) hlt]; exact h1, by rw [hb.cell (p := ⟨b, _, none⟩) hlt]; exact h2, h3.below hb, h4.below hb⟩

/-- A value that is a slice of these transitions. -/
def Trans (w : World) (v : Value) (ts : List TranL) : Prop :=
  ∃ a len cap, v = .slice a len cap ∧ ts.length = len ∧ len ≤ 2513169434916 ∧ Shape a len cap ∧ TranRow w a ts

theorem Trans.below {w w' : World} {v : Value} {ts : List TranL} (h : Trans w v ts) (hb : Below w.heap.size w w') : Trans w' v ts := by
  obtain ⟨a, len, cap, e, hl, hm, hs, hr⟩ := h
  exact ⟨a, len, cap, e, hl, hm, hs, hr.below hb⟩

theorem Trans.at {w : World} {a : Option Addr} {len cap : Nat} {ts : List TranL} (h : Trans w (.slice a len cap) ts) {k : Nat} (hk : k < len) :
    ∃ b off c1 c2, a = some ⟨b, off, none⟩ ∧ b < w.heap.size ∧ w.cell? ⟨b, off + k * 3, none⟩ = some (.int .i64 (tranAt ts k).label) ∧
      w.cell? ⟨b, off + k * 3 + 1, none⟩ = some c1 ∧ w.cell? ⟨b, off + k * 3 + 2, none⟩ = some c2 ∧ Ints w c1 (tranAt ts k).pre ∧ Ints w c2 (tranAt ts k).post := by
  obtain ⟨a', len', cap', e, hl, hm, hs, hr⟩ := h
  injection e with e1 e2 e3
  subst e1 e2 e3
  exact hr k (by omega)

theorem trans_lit2 (w : World) (b : Nat) (c1 c2 d1 d2 : Value) (p1 q1 p2 q2 : List Int) (l1 l2 : Int) (t : TypeId) (h1 : Ints w c1 p1) (h2 : Ints w c2 q1) (h3 : Ints w d1 p2) (h4 : Ints w d2 q2) (hb : b = w.heap.size) :
    Trans (w.alloc (.cells #[.int .i64 l1, c1, c2, .int .i64 l2, d1, d2] t)) (.slice (some ⟨b, 0, none⟩) 2 2) [⟨l1, p1, q1⟩, ⟨l2, p2, q2⟩] := by
  subst hb
  have hn := below_new w (.cells #[.int .i64 l1, c1, c2, .int .i64 l2, d1, d2] t)
  refine ⟨_, _, _, rfl, rfl, by omega, ⟨by omega, by omega, fun h => by cases h⟩, fun j hj => ?_⟩
  match j, hj with
  | 0, _ => exact ⟨w.heap.size, 0, c1, c2, rfl, by simp, by rw [World.cell?_alloc_at _ _ _ _ rfl]; rfl, by rw [World.cell?_alloc_at _ _ _ _ rfl]; rfl, by rw [World.cell?_alloc_at _ _ _ _ rfl]; rfl, h1.below hn, h2.below hn⟩
  | 1, _ => exact ⟨w.heap.size, 0, d1, d2, rfl, by simp, by rw [World.cell?_alloc_at _ _ _ _ rfl]; rfl, by rw [World.cell?_alloc_at _ _ _ _ rfl]; rfl, by rw [World.cell?_alloc_at _ _ _ _ rfl]; rfl, h3.below hn, h4.below hn⟩
  | j + 2, h => simp at h; omega

/-- A value that is this net. -/
def Net (w : World) (v : Value) (n : NetL) : Prop := ∃ tv, v = .agg #[.int .i64 n.places, tv] ∧ Trans w tv n.trans

theorem Net.below {w w' : World} {v : Value} {n : NetL} (h : Net w v n) (hb : Below w.heap.size w w') : Net w' v n := by
  obtain ⟨tv, e, ht⟩ := h
  exact ⟨tv, e, ht.below hb⟩

/-- A net that is not great. -/
def BulkNet (n : NetL) : Prop := n.trans.length ≤ 1048576 ∧ ∀ k, k < n.trans.length → (tranAt n.trans k).pre.length + (tranAt n.trans k).post.length ≤ 1048576

/-- No transition has so much that it has no room. -/
def SmallNet (n : NetL) : Prop := ∀ k, k < n.trans.length → (tranAt n.trans k).pre.length + (tranAt n.trans k).post.length ≤ 17592186044416

theorem BulkNet.small {n : NetL} (h : BulkNet n) : SmallNet n := fun k hk => Nat.le_trans (h.2 k hk) (by omega)

/-- A slice of slices of ints. -/
def Lists (w : World) (v : Value) (ls : List (List Int)) : Prop :=
  ∃ a len cap, v = .slice a len cap ∧ ls.length = len ∧ len ≤ 17592186044416 ∧ Shape a len cap ∧
    ∀ j, j < ls.length → ∃ b off u, a = some ⟨b, off, none⟩ ∧ b < w.heap.size ∧ w.cell? ⟨b, off + j, none⟩ = some u ∧ Ints w u (ls.getD j [])

theorem Lists.below {w w' : World} {v : Value} {ls : List (List Int)} (h : Lists w v ls) (hb : Below w.heap.size w w') : Lists w' v ls := by
  obtain ⟨a, len, cap, e, hl, hm, hs, hr⟩ := h
  refine ⟨a, len, cap, e, hl, hm, hs, fun j hj => ?_⟩
  obtain ⟨b, off, u, ha, hlt, hc, hu⟩ := hr j hj
  exact ⟨b, off, u, ha, Nat.lt_of_lt_of_le hlt hb.size, by rw [hb.cell (p := ⟨b, _, none⟩) hlt]; exact hc, hu.below hb⟩

theorem lists_lit2 (w : World) (b : Nat) (x y : Value) (xs ys : List Int) (t : TypeId) (hx : Ints w x xs) (hy : Ints w y ys) (hb : b = w.heap.size) :
    Lists (w.alloc (.cells #[x, y] t)) (.slice (some ⟨b, 0, none⟩) 2 2) [xs, ys] := by
  subst hb
  have hn := below_new w (.cells #[x, y] t)
  refine ⟨_, _, _, rfl, rfl, by omega, ⟨by omega, by omega, fun h => by cases h⟩, fun j hj => ?_⟩
  match j, hj with
  | 0, _ => exact ⟨w.heap.size, 0, x, rfl, by simp, by rw [World.cell?_alloc_at _ _ _ _ rfl]; rfl, hx.below hn⟩
  | 1, _ => exact ⟨w.heap.size, 0, y, rfl, by simp, by rw [World.cell?_alloc_at _ _ _ _ rfl]; rfl, hy.below hn⟩
  | j + 2, h => simp at h; omega

end Go.Proofs.YtjfcfnaeinhmcaaDoor
