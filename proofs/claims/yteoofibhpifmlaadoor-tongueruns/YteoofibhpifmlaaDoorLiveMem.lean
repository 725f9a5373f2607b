/- A value that is a space of whatever arcs. -/
import Derived.Test.YteoofibhpifmlaaDoorLiveBase
namespace Go.Proofs.YteoofibhpifmlaaDoor
open Go.RowKit
set_option linter.unusedVariables false
set_option maxRecDepth 4000

/-- A space; there are not more marks than memory holds. -/
def SpaceV (w : World) (v : Value) (s : SpaceZ) : Prop := s.marks.length ≤ 5864062014805 ∧ ∃ mv av, v = .agg #[mv, av] ∧ Lists w mv s.marks ∧ Arcs w av s.arcs
theorem SpaceV.below {w w' : World} {v : Value} {s : SpaceZ} (h : SpaceV w v s) (hb : Below w.heap.size w w') : SpaceV w' v s := by
  obtain ⟨hN, mv, av, e, h1, h2⟩ := h
  exact ⟨hN, mv, av, e, h1.below hb, h2.below hb⟩
theorem Space.toV {w : World} {v : Value} {s : SpaceL} (h : Space w v s) (hl : s.marks.length ≤ 300) : SpaceV w v (toZ s) := ⟨by simp only [toZ]; omega, h⟩
theorem graphL_small (n : NetL) (m : List Int) (most : Int) : (graphL n m most).1.marks.length ≤ 300 := by
  by_cases h : (graphL n m most).2 = 0
  · have h1 := graphL_ok (s := (graphL n m most).1) (by rw [← h])
    have h2 := h1.2.2.2.2.most_le
    omega
  · rw [graphL_err h]; simp

theorem lists_lit3 (w : World) (b : Nat) (v0 v1 v2 : Value) (x0 x1 x2 : List Int) (h0 : Ints w v0 x0) (h1 : Ints w v1 x1) (h2 : Ints w v2 x2) (hb : b = w.heap.size) : Lists (w.alloc (.cells #[v0, v1, v2] 25)) (.slice (some ⟨b, 0, none⟩) 3 3) [x0, x1, x2] := by
  subst hb
  have b1 := below_new w (.cells #[v0, v1, v2] 25)
  refine ⟨_, _, _, rfl, rfl, by omega, ⟨by omega, by omega, fun h => by cases h⟩, fun j hj => ?_⟩
  match j, hj with
  | 0, _ => exact ⟨w.heap.size, 0, v0, rfl, by simp, by rw [World.cell?_alloc_at _ _ _ _ rfl]; rfl, h0.below b1⟩
  | 1, _ => exact ⟨w.heap.size, 0, v1, rfl, by simp, by rw [World.cell?_alloc_at _ _ _ _ rfl]; rfl, h1.below b1⟩
  | 2, _ => exact ⟨w.heap.size, 0, v2, rfl, by simp, by rw [World.cell?_alloc_at _ _ _ _ rfl]; rfl, h2.below b1⟩
  | j + 3, h => simp at h; omega
theorem lists_lit1 (w : World) (b : Nat) (v0 : Value) (x0 : List Int) (h0 : Ints w v0 x0) (hb : b = w.heap.size) : Lists (w.alloc (.cells #[v0] 25)) (.slice (some ⟨b, 0, none⟩) 1 1) [x0] := by
  subst hb
  have b1 := below_new w (.cells #[v0] 25)
  refine ⟨_, _, _, rfl, rfl, by omega, ⟨by omega, by omega, fun h => by cases h⟩, fun j hj => ?_⟩
  match j, hj with
  | 0, _ => exact ⟨w.heap.size, 0, v0, rfl, by simp, by rw [World.cell?_alloc_at _ _ _ _ rfl]; rfl, h0.below b1⟩
  | j + 1, h => simp at h
theorem arcs_lit3 (w : World) (b : Nat) (a0 a1 a2 b0 b1 b2 c0 c1 c2 : Int) (hb : b = w.heap.size) :
    Arcs (w.alloc (.cells #[.int .i64 a0, .int .i64 a1, .int .i64 a2, .int .i64 b0, .int .i64 b1, .int .i64 b2, .int .i64 c0, .int .i64 c1, .int .i64 c2] 63)) (.slice (some ⟨b, 0, none⟩) 3 3) [(a0, a1, a2), (b0, b1, b2), (c0, c1, c2)] := by
  subst hb
  refine ⟨_, _, _, rfl, rfl, by omega, ⟨by omega, by omega, fun h => by cases h⟩, fun j hj => ?_⟩
  match j, hj with
  | 0, _ => exact ⟨w.heap.size, 0, rfl, by simp, by rw [World.cell?_alloc_at _ _ _ _ rfl]; rfl, by rw [World.cell?_alloc_at _ _ _ _ rfl]; rfl, by rw [World.cell?_alloc_at _ _ _ _ rfl]; rfl⟩
  | 1, _ => exact ⟨w.heap.size, 0, rfl, by simp, by rw [World.cell?_alloc_at _ _ _ _ rfl]; rfl, by rw [World.cell?_alloc_at _ _ _ _ rfl]; rfl, by rw [World.cell?_alloc_at _ _ _ _ rfl]; rfl⟩
  | 2, _ => exact ⟨w.heap.size, 0, rfl, by simp, by rw [World.cell?_alloc_at _ _ _ _ rfl]; rfl, by rw [World.cell?_alloc_at _ _ _ _ rfl]; rfl, by rw [World.cell?_alloc_at _ _ _ _ rfl]; rfl⟩
  | j + 3, h => simp at h; omega
theorem arcs_lit1 (w : World) (b : Nat) (a0 a1 a2 : Int) (hb : b = w.heap.size) :
    Arcs (w.alloc (.cells #[.int .i64 a0, .int .i64 a1, .int .i64 a2] 63)) (.slice (some ⟨b, 0, none⟩) 1 1) [(a0, a1, a2)] := by
  subst hb
  refine ⟨_, _, _, rfl, rfl, by omega, ⟨by omega, by omega, fun h => by cases h⟩, fun j hj => ?_⟩
  match j, hj with
  | 0, _ => exact ⟨w.heap.size, 0, rfl, by simp, by rw [World.cell?_alloc_at _ _ _ _ rfl]; rfl, by rw [World.cell?_alloc_at _ _ _ _ rfl]; rfl, by rw [World.cell?_alloc_at _ _ _ _ rfl]; rfl⟩
  | j + 1, h => simp at h

end Go.Proofs.YteoofibhpifmlaaDoor
