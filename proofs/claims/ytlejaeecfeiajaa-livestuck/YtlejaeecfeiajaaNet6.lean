/- Whether two nets are the same, as the document itself asks it. -/
import Derived.Test.YtlejaeecfeiajaaNet5
namespace Go.Proofs.Ytlejaeecfeiajaa
open Go.RowKit
set_option linter.unusedVariables false
set_option maxRecDepth 4000

def sameT (t u : TranL) : Bool := (t.label == u.label) && (t.pre == u.pre) && (t.post == u.post)
def sameTo (ts us : List TranL) (k : Nat) : Bool := (List.range k).all fun j => sameT (tranAt ts j) (tranAt us j)
def sameTs (ts us : List TranL) : Bool := (ts.length == us.length) && sameTo ts us ts.length
def sameN (n m : NetL) : Bool := (n.places == m.places) && sameTs n.trans m.trans

theorem sameTo_succ (ts us : List TranL) (k : Nat) : sameTo ts us (k + 1) = (sameTo ts us k && sameT (tranAt ts k) (tranAt us k)) := by
  unfold sameTo; rw [List.range_succ, List.all_append]; simp
theorem sameTo_false (ts us : List TranL) (n k : Nat) (h : k < n) (hf : sameT (tranAt ts k) (tranAt us k) = false) : sameTo ts us n = false := by
  unfold sameTo; rw [List.all_eq_false]; exact ⟨k, by simpa using h, by simp [hf]⟩

/-- Three cells of a block. -/
def Box3 (w : World) (b : Nat) (x y z : Value) : Prop := b < w.heap.size ∧ w.cell? ⟨b, 0, none⟩ = some x ∧ w.cell? ⟨b, 1, none⟩ = some y ∧ w.cell? ⟨b, 2, none⟩ = some z
theorem Box3.below {w w' : World} {b : Nat} {x y z : Value} (h : Box3 w b x y z) (hb : Below w.heap.size w w') : Box3 w' b x y z :=
  ⟨Nat.lt_of_lt_of_le h.1 hb.size, by rw [hb.cell (p := ⟨b, _, none⟩) h.1]; exact h.2.1, by rw [hb.cell (p := ⟨b, _, none⟩) h.1]; exact h.2.2.1, by rw [hb.cell (p := ⟨b, _, none⟩) h.1]; exact h.2.2.2⟩
theorem box3_new (w : World) (x y z : Value) (t : TypeId) : Box3 (w.alloc (.cells #[x, y, z] t)) w.heap.size x y z :=
  ⟨by simp, by rw [World.cell?_alloc_at _ _ _ _ rfl]; rfl, by rw [World.cell?_alloc_at _ _ _ _ rfl]; rfl, by rw [World.cell?_alloc_at _ _ _ _ rfl]; rfl⟩

theorem Trans.get {w : World} {v : Value} {ts : List TranL} (h : Trans w v ts) : ∃ a len cap, v = .slice a len cap ∧ ts.length = len ∧ len ≤ 2513169434916 := by
  obtain ⟨a, len, cap, e, hl, hm, _, _⟩ := h; exact ⟨a, len, cap, e, hl, hm⟩

end Go.Proofs.Ytlejaeecfeiajaa
