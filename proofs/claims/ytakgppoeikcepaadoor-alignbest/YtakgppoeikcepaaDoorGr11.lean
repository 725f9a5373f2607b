import Derived.Test.YtakgppoeikcepaaDoorGr06
import Derived.Test.YtakgppoeikcepaaDoorGr04
/- The answers of the document itself for shape: what is behind a place, walked. -/
namespace Go.Proofs.YtakgppoeikcepaaDoor
open Go.RowKit
set_option linter.unusedVariables false
set_option maxRecDepth 4000

/-- A row of yes and no. -/
def BoolsV (w : World) (v : Value) (n : Nat) (f : Nat → Bool) : Prop := ∃ B, v = .slice (some ⟨B, 0, none⟩) n n ∧ B < w.heap.size ∧ ∀ j, j < n → w.cell? ⟨B, j, none⟩ = some (.bool (f j))
theorem BoolsV.below {w w' : World} {v : Value} {n : Nat} {f : Nat → Bool} (h : BoolsV w v n f) (hb : Below w.heap.size w w') : BoolsV w' v n f := by
  obtain ⟨B, e, hlt, hc⟩ := h
  exact ⟨B, e, Nat.lt_of_lt_of_le hlt hb.size, fun j hj => (hb.cell (p := ⟨B, j, none⟩) hlt).trans (hc j hj)⟩

theorem lead_succ (ps : Nat → Bool) (w : List Int) (b : Bool) (j : Nat) : leadTo ps w b (j + 1) = (leadTo ps w b j || (ps j && decide (0 < nth w j))) := rfl
theorem feed_at (ps : Nat → Bool) (w : List Int) (b : Bool) (j : Nat) : feedTo ps w b (j + 1) j = (ps j || (b && decide (0 < nth w j))) := by unfold feedTo; simp
theorem feed_other (ps : Nat → Bool) (w : List Int) (b : Bool) (j q : Nat) (h : q ≠ j) : feedTo ps w b (j + 1) q = feedTo ps w b j q := by
  unfold feedTo
  have : decide (q < j + 1) = decide (q < j) := by rw [decide_eq_decide]; omega
  rw [this]
theorem feed_self (ps : Nat → Bool) (w : List Int) (b : Bool) (j : Nat) : feedTo ps w b j j = ps j := by unfold feedTo; simp
theorem feed_zero (ps : Nat → Bool) (w : List Int) (b : Bool) : feedTo ps w b 0 = ps := by funext q; simp [feedTo]
theorem set_self (ts : Nat → Bool) (k : Nat) : setAt ts k (ts k) = ts := by funext j; unfold setAt; split <;> simp_all
theorem set_same (ts : Nat → Bool) (k : Nat) (b : Bool) : setAt ts k b k = b := by unfold setAt; simp
theorem set_diff (ts : Nat → Bool) (k j : Nat) (b c : Bool) (h : j ≠ k) : setAt ts k b j = setAt ts k c j := by unfold setAt; simp [h]

end Go.Proofs.YtakgppoeikcepaaDoor

/- The answers of the document itself for shape: what is wrong. -/
namespace Go.Proofs.YtakgppoeikcepaaDoor
open Go.RowKit
set_option linter.unusedVariables false
set_option maxRecDepth 4000

/-- What the reckoning has to tell. -/
theorem shape_iff {n : NetL} {i o : Nat} (hn : netOk n = true) (hi : (i : Int) < n.places) (ho : (o : Int) < n.places) (hne : (i : Int) ≠ o) :
    ShapeOk n i o ↔ (∀ p, p < n.places.toNat → (waysL n i).ps p = true ∧ (waysL (turnL n) o).ps p = true) ∧ (∀ k, k < n.trans.length → ((waysL n i).ts k = true ∧ (waysL (turnL n) o).ts k = true) ∧ nth (tranAt n.trans k).post i = 0 ∧ nth (tranAt n.trans k).pre o = 0) := by
  obtain ⟨a1, a2⟩ := ways_iff hn hi
  obtain ⟨b1, b2⟩ := ways_iff (n := turnL n) (by rw [turn_ok_iff]; exact hn) (f := o) ho
  rw [turn_count] at b2
  constructor
  · intro h
    refine ⟨fun p hp => ⟨(a1 p).2 ?_, (b1 p).2 ?_⟩, fun k hk => ⟨⟨(a2 k hk).2 ?_, (b2 k hk).2 ?_⟩, ?_, ?_⟩⟩
    · have := h.p1 p (by omega); simpa using this
    · have := h.p2 p (by omega); simpa using this
    · have := h.t1 k hk; simpa using this
    · have := h.t2 k hk; simpa using this
    · have := h.put k hk; simpa using this
    · have := h.take k hk; simpa using this
  · rintro ⟨h1, h2⟩
    refine ⟨hn, hne, by omega, hi, by omega, ho, fun p hp => ?_, fun p hp => ?_, fun k hk => ?_, fun k hk => ?_, fun k hk => ?_, fun k hk => ?_⟩
    · rw [Int.toNat_natCast]; exact (a1 p).1 (h1 p (by omega)).1
    · rw [Int.toNat_natCast]; exact (b1 p).1 (h1 p (by omega)).2
    · rw [Int.toNat_natCast]; exact (a2 k hk).1 (h2 k hk).1.1
    · rw [Int.toNat_natCast]; exact (b2 k hk).1 (h2 k hk).1.2
    · rw [Int.toNat_natCast]; exact (h2 k hk).2.1
    · rw [Int.toNat_natCast]; exact (h2 k hk).2.2

theorem below_le {n : Nat} {Q : Nat → Prop} {k : Nat} (h : ∀ j, j < k → Q j) (hk : Q k) : ∀ j, j < k + 1 → Q j := by
  intro j hj
  by_cases e : j = k
  · subst e; exact hk
  · exact h j (by omega)

/-- Is one of the two no place, or are both one? -/
def sameOrOut (P i o : Int) : Bool := decide (i = o ∨ i < 0 ∨ o < 0 ∨ P ≤ i ∨ P ≤ o)

end Go.Proofs.YtakgppoeikcepaaDoor
