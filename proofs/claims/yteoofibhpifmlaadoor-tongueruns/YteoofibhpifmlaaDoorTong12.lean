/- Plain: the small net of package tongue's trial, and its two words. -/
import Derived.Test.YteoofibhpifmlaaDoorGr30
import Derived.Test.YteoofibhpifmlaaDoorGr34
namespace Go.Proofs.YteoofibhpifmlaaDoor
set_option linter.unusedVariables false
set_option maxRecDepth 100000

def net12 : NetL := ⟨6, [⟨0, [1, 0, 0, 0, 0, 0], [0, 0, 1, 0, 1, 0]⟩, ⟨1, [0, 0, 1, 0, 0, 0], [0, 0, 0, 1, 0, 0]⟩, ⟨2, [0, 0, 0, 0, 1, 0], [0, 0, 0, 0, 0, 1]⟩, ⟨0, [0, 0, 0, 1, 0, 1], [0, 1, 0, 0, 0, 0]⟩]⟩
def space12 : SpaceL := ⟨[[1, 0, 0, 0, 0, 0], [0, 0, 1, 0, 1, 0], [0, 0, 0, 1, 1, 0], [0, 0, 1, 0, 0, 1], [0, 0, 0, 1, 0, 1], [0, 1, 0, 0, 0, 0]], [⟨0, 0, 1⟩, ⟨1, 1, 2⟩, ⟨1, 2, 3⟩, ⟨2, 2, 4⟩, ⟨3, 1, 4⟩, ⟨4, 3, 5⟩]⟩
theorem grown12 : growL (manyL 5 [stepL 1, stepL 2]) = (net12, 0) := by rfl
theorem graph12 : graphL net12 (startL net12.places 0) 300 = (space12, 0) := by kernel_rfl
theorem shape12 : ShapeOk net12 0 1 := by
  have hw : wrongB (manyL 5 [stepL 1, stepL 2]) = 0 := by rfl
  have hf : FitG (grownB (manyL 5 [stepL 1, stepL 2])) := by unfold FitG; decide +kernel
  obtain ⟨St, hO⟩ := grown_one (wrong_zero.1 hw) hf
  have e : net12 = netG (grownB (manyL 5 [stepL 1, stepL 2])) := by rfl
  rw [e]
  exact hO.shape

theorem err12 : TongErr net12 0 1 0 := .inr ⟨shape12, by rw [graph12]⟩

theorem lab12 : labT net12 0 = 0 ∧ labT net12 1 = 1 ∧ labT net12 2 = 2 ∧ labT net12 3 = 0 := ⟨rfl, rfl, rfl, rfl⟩
theorem way12_5 : ∀ {k : Nat} {w : List Int}, WayN space12.arcs (labT net12) k 5 w 5 → w = []
  | 0, w, h => h.2
  | k + 1, w, ⟨a, ha, hf, u, hu, e⟩ => by
    simp only [space12, List.mem_cons, List.not_mem_nil, or_false] at ha
    rcases ha with rfl | rfl | rfl | rfl | rfl | rfl <;> simp at hf
theorem way12_4 : ∀ {k : Nat} {w : List Int}, WayN space12.arcs (labT net12) k 4 w 5 → w = []
  | 0, w, h => h.2
  | k + 1, w, ⟨a, ha, hf, u, hu, e⟩ => by
    simp only [space12, List.mem_cons, List.not_mem_nil, or_false] at ha
    rcases ha with rfl | rfl | rfl | rfl | rfl | rfl <;> simp at hf
    simp only [lab12.2.2.2] at e
    rw [e, if_pos trivial]; exact way12_5 hu
theorem way12_3 : ∀ {k : Nat} {w : List Int}, WayN space12.arcs (labT net12) k 3 w 5 → w = [1]
  | 0, w, h => by have := h.1; omega
  | k + 1, w, ⟨a, ha, hf, u, hu, e⟩ => by
    simp only [space12, List.mem_cons, List.not_mem_nil, or_false] at ha
    rcases ha with rfl | rfl | rfl | rfl | rfl | rfl <;> simp at hf
    simp only [lab12.2.1] at e
    rw [e, if_neg (by omega), way12_4 hu]
theorem way12_2 : ∀ {k : Nat} {w : List Int}, WayN space12.arcs (labT net12) k 2 w 5 → w = [2]
  | 0, w, h => by have := h.1; omega
  | k + 1, w, ⟨a, ha, hf, u, hu, e⟩ => by
    simp only [space12, List.mem_cons, List.not_mem_nil, or_false] at ha
    rcases ha with rfl | rfl | rfl | rfl | rfl | rfl <;> simp at hf
    simp only [lab12.2.2.1] at e
    rw [e, if_neg (by omega), way12_4 hu]
theorem way12_1 : ∀ {k : Nat} {w : List Int}, WayN space12.arcs (labT net12) k 1 w 5 → w = [1, 2] ∨ w = [2, 1]
  | 0, w, h => by have := h.1; omega
  | k + 1, w, ⟨a, ha, hf, u, hu, e⟩ => by
    simp only [space12, List.mem_cons, List.not_mem_nil, or_false] at ha
    rcases ha with rfl | rfl | rfl | rfl | rfl | rfl <;> simp at hf
    · simp only [lab12.2.1] at e
      rw [e, if_neg (by omega), way12_2 hu]; exact .inl rfl
    · simp only [lab12.2.2.1] at e
      rw [e, if_neg (by omega), way12_3 hu]; exact .inr rfl
theorem way12_0 : ∀ {k : Nat} {w : List Int}, WayN space12.arcs (labT net12) k 0 w 5 → w = [1, 2] ∨ w = [2, 1]
  | 0, w, h => by have := h.1; omega
  | k + 1, w, ⟨a, ha, hf, u, hu, e⟩ => by
    simp only [space12, List.mem_cons, List.not_mem_nil, or_false] at ha
    rcases ha with rfl | rfl | rfl | rfl | rfl | rfl <;> simp at hf
    simp only [lab12.1] at e
    rw [e, if_pos trivial]; exact way12_1 hu

theorem word12 (w : List Int) : WordI net12 0 1 w ↔ w = [1, 2] ∨ w = [2, 1] := by
  have hW := graphL_whole graph12
  have e1 : startL net12.places 1 = [0, 1, 0, 0, 0, 0] := by rfl
  show WordN _ _ _ _ ↔ _
  constructor
  · intro h
    obtain ⟨e, he, hm, k, hk⟩ := hW.word.1 h
    have he5 : e = 5 := by
      rw [e1] at hm
      have he : e < 6 := he
      match e, he with
      | 0, _ => exact absurd hm (by decide)
      | 1, _ => exact absurd hm (by decide)
      | 2, _ => exact absurd hm (by decide)
      | 3, _ => exact absurd hm (by decide)
      | 4, _ => exact absurd hm (by decide)
      | 5, _ => rfl
    subst he5
    exact way12_0 hk
  · rintro (rfl | rfl)
    · exact ⟨[0, 1, 2, 3], by kernel_rfl, by rfl⟩
    · exact ⟨[0, 2, 1, 3], by kernel_rfl, by rfl⟩

theorem words12 {l : List (List Int)} {d : Int} (h : WordsAns net12 0 1 4 l d) : l = [[1, 2], [2, 1]] ∧ d = 0 := by
  refine h.unique ⟨0, err12, fun h => absurd rfl h, fun _ => ⟨fun h => absurd ⟨by omega, by omega⟩ h, fun _ => .inr ⟨by decide, rfl, ?_, fun x => ?_⟩⟩⟩
  · simp [SLex, LexI]
  · rw [word12]
    constructor
    · intro h
      simp only [List.mem_cons, List.not_mem_nil, or_false] at h
      rcases h with rfl | rfl
      · exact ⟨.inl rfl, by decide⟩
      · exact ⟨.inr rfl, by decide⟩
    · rintro ⟨rfl | rfl, _⟩ <;> simp
theorem has12 {b : Bool} {d : Int} (h : HasAns net12 0 1 [2, 1] b d) : b = true ∧ d = 0 := by
  refine h.unique ⟨err12, fun h => absurd rfl h, fun _ => ⟨fun _ => (word12 _).2 (.inr rfl), fun _ => rfl⟩⟩
theorem least12 {k d : Int} (h : LeastAns net12 0 1 k d) : k = 2 ∧ d = 0 := by
  refine h.unique ⟨0, err12, fun h => absurd rfl h, fun _ => .inr ⟨rfl, [1, 2], (word12 _).2 (.inl rfl), by decide, fun x hx => ?_⟩⟩
  rcases (word12 x).1 hx with rfl | rfl <;> decide

end Go.Proofs.YteoofibhpifmlaaDoor
