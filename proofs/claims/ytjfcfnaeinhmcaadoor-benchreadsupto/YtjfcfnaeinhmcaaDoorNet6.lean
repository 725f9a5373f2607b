/- Whether two nets are the same, as the document itself asks it. -/
import Derived.Test.YtjfcfnaeinhmcaaDoorNet5
namespace Go.Proofs.YtjfcfnaeinhmcaaDoor
open Go.RowKit
set_option linter.unusedVariables false
set_option maxRecDepth 4000

def sameT (t u : TranL) : Bool := (t.label == u.label) && (t.pre == u.pre) && (t.post == u.post)
def sameTo (ts us : List TranL) (k : Nat) : Bool := (List.range k).all fun j => sameT (tranAt ts j) (tranAt us j)
def sameTs (ts us : List TranL) : Bool := (ts.length == us.length) && sameTo ts us ts.length
def sameN (n m : NetL) : Bool := (n.places == m.places) && sameTs n.trans m.trans

theorem sameTo_succ (ts us : List TranL) (k : Nat) : sameTo ts us (k + 1) = (sameTo ts us k && sameT (tranAt ts k) (tranAt us k)) := by
  unfold sameTo; rw [List.range_succ, List.all_append]; simp
theorem sameTo_false (ts us : List TranL) (n k : Nat) (h : k < n) (hf : sameT (tranAt ts k) (tranAt us k) = false) : sameTo ts us n = false := by
  unfold sameTo; rw [List.all_eq_false]; exact ⟨k, by simpa using h, by simp [hf]⟩

theorem Trans.get {w : World} {v : Value} {ts : List TranL} (h : Trans w v ts) : ∃ a len cap, v = .slice a len cap ∧ ts.length = len ∧ len ≤ 2513169434916 := by
  obtain ⟨a, len, cap, e, hl, hm, _, _⟩ := h; exact ⟨a, len, cap, e, hl, hm⟩

end Go.Proofs.YtjfcfnaeinhmcaaDoor
