/- A box for a space that is made ahead of the space. -/
import Derived.Test.YteoofibhpifmlaaDoorLiveMem
import Derived.Test.YteoofibhpifmlaaDoorNetBoth
namespace Go.Proofs.YteoofibhpifmlaaDoor
open Go.RowKit
set_option linter.unusedVariables false
set_option maxRecDepth 4000

/-- A cell that holds an empty slice is none that a list of marks, each with something, is read from. -/
theorem ints_putNil {w : World} {v : Value} {xs : List Int} {p : Addr} (h : Ints w v xs) (hp : w.cell? p = some (.slice none 0 0)) (u : Value) : Ints (w.setCell p u) v xs := by
  obtain ⟨a, len, cap, e, hl, hm, hs, hr⟩ := h
  refine ⟨a, len, cap, e, hl, hm, hs, fun j hj => ?_⟩
  obtain ⟨b, off, ha, hb, hc⟩ := hr j hj
  refine ⟨b, off, ha, by simpa [World.setCell] using hb, ?_⟩
  rw [World.cell?_setCell_other _ _ _ _ (by intro e; rw [← e, hp] at hc; cases hc)]
  exact hc
theorem lists_putNil {w : World} {v : Value} {ls : List (List Int)} {p : Addr} (h : Lists w v ls) (hne : ∀ j, j < ls.length → markAt ls j ≠ []) (hp : w.cell? p = some (.slice none 0 0)) (u : Value) : Lists (w.setCell p u) v ls := by
  obtain ⟨a, len, cap, e, hl, hm, hs, hr⟩ := h
  refine ⟨a, len, cap, e, hl, hm, hs, fun j hj => ?_⟩
  obtain ⟨b, off, x, ha, hb, hc, hi⟩ := hr j hj
  refine ⟨b, off, x, ha, by simpa [World.setCell] using hb, ?_, ints_putNil hi hp u⟩
  rw [World.cell?_setCell_other _ _ _ _ ?_]
  · exact hc
  · intro e
    rw [← e, hp] at hc
    injection hc with hc
    subst hc
    obtain ⟨a', len', cap', e', hl', _⟩ := hi
    injection e' with _ e'
    exact hne j hj (List.length_eq_zero_iff.1 (by have : (ls.getD j []).length = len' := hl'; rw [← e'] at this; exact this))
theorem arcs_putNil {w : World} {v : Value} {l : List (Int × Int × Int)} {p : Addr} (h : Arcs w v l) (hp : w.cell? p = some (.slice none 0 0)) (u : Value) : Arcs (w.setCell p u) v l := by
  obtain ⟨a, len, cap, e, hl, hm, hs, hr⟩ := h
  refine ⟨a, len, cap, e, hl, hm, hs, fun j hj => ?_⟩
  obtain ⟨b, off, ha, hb, c0, c1, c2⟩ := hr j hj
  refine ⟨b, off, ha, by simpa [World.setCell] using hb, ?_, ?_, ?_⟩
  · rw [World.cell?_setCell_other _ _ _ _ (by intro e; rw [← e, hp] at c0; cases c0)]; exact c0
  · rw [World.cell?_setCell_other _ _ _ _ (by intro e; rw [← e, hp] at c1; cases c1)]; exact c1
  · rw [World.cell?_setCell_other _ _ _ _ (by intro e; rw [← e, hp] at c2; cases c2)]; exact c2
theorem space_putNil {w : World} {v : Value} {s : SpaceL} {p : Addr} (h : Space w v s) (hne : ∀ j, j < s.marks.length → markAt s.marks j ≠ []) (hp : w.cell? p = some (.slice none 0 0)) (u : Value) : Space (w.setCell p u) v s := by
  obtain ⟨mv, av, e, h1, h2⟩ := h
  exact ⟨mv, av, e, lists_putNil h1 hne hp u, arcs_putNil h2 hp u⟩

/-- A box for a space, made and still empty. -/
def NilBox (w : World) (b : Nat) : Prop := w.heap[b]? = some (.cells #[.slice none 0 0, .slice none 0 0] 56 (0, 0))
theorem NilBox.below {w w' : World} {b : Nat} (h : NilBox w b) (hb : Below w.heap.size w w') : NilBox w' b := by unfold NilBox at *; rw [hb.block b (Array.getElem?_eq_some_iff.1 h).1]; exact h
theorem nilBox_new (w : World) : NilBox (w.alloc (.cells #[.slice none 0 0, .slice none 0 0] 56)) w.heap.size := by
  show (w.heap.push _)[w.heap.size]? = _
  exact Array.getElem?_push_size
theorem NilBox.at {w : World} {b : Nat} (h : NilBox w b) : b < w.heap.size ∧ w.cell? ⟨b, 0, none⟩ = some (.slice none 0 0) ∧ w.cell? ⟨b, 1, none⟩ = some (.slice none 0 0) ∧ w.frozen? ⟨b, 0, none⟩ = false ∧ w.frozen? ⟨b, 1, none⟩ = false := by
  have h' := h
  unfold NilBox at h
  exact ⟨(Array.getElem?_eq_some_iff.1 h).1, by simp [World.cell?, h], by simp [World.cell?, h], by simp [World.frozen?, h], by simp [World.frozen?, h]⟩
theorem NilBox.fill {w : World} {b : Nat} {mv av : Value} {s : SpaceL} (h : NilBox w b) (hs : Space w (.agg #[mv, av]) s) (hne : ∀ j, j < s.marks.length → markAt s.marks j ≠ []) :
    Space ((w.setCell ⟨b, 0, none⟩ mv).setCell ⟨b, 1, none⟩ av) (.agg #[mv, av]) s ∧ Box2 ((w.setCell ⟨b, 0, none⟩ mv).setCell ⟨b, 1, none⟩ av) b mv av ∧ Below b w ((w.setCell ⟨b, 0, none⟩ mv).setCell ⟨b, 1, none⟩ av) := by
  obtain ⟨h0, h1, h2, _, _⟩ := h.at
  have e1 : (w.setCell ⟨b, 0, none⟩ mv).cell? ⟨b, 1, none⟩ = some (.slice none 0 0) := by rw [World.cell?_setCell_other _ _ _ _ (by simp)]; exact h2
  refine ⟨space_putNil (space_putNil hs hne h1 mv) hne e1 av, ⟨by simpa [World.setCell] using h0, ?_, World.cell?_setCell_same _ _ _ e1⟩, ((Below.refl _ _).setCell (p := ⟨b, 0, none⟩) (Nat.le_refl _) _).setCell (p := ⟨b, 1, none⟩) (Nat.le_refl _) _⟩
  rw [World.cell?_setCell_other _ _ _ _ (by simp)]
  exact World.cell?_setCell_same _ _ _ h1

theorem graph_full {n : NetL} {m : List Int} {most : Int} (hm : m ≠ []) : ∀ j, j < (graphL n m most).1.marks.length → markAt (graphL n m most).1.marks j ≠ [] := by
  intro j hj e
  by_cases h : (graphL n m most).2 = 0
  · obtain ⟨_, _, hf, _, hF⟩ := graphL_ok (s := (graphL n m most).1) (by rw [← h])
    have h1 := hF.fits _ (markAt_mem hj)
    have h2 := (fits_net h1).2.1
    have h3 := (fits_net hf).2.1
    rw [e] at h2
    have : (m.length : Int) = 0 := by rw [h3, ← h2]; rfl
    exact hm (List.length_eq_zero_iff.1 (by omega))
  · rw [graphL_err h] at hj
    simp at hj

end Go.Proofs.YteoofibhpifmlaaDoor
