/- What can be seen of a net: what heard makes, plainly. -/
import Derived.Test.YteoofibhpifmlaaDoorTongLeastE
import Derived.Test.YteoofibhpifmlaaDoorTongTalk
import Derived.Test.YteoofibhpifmlaaDoorShapeBase
namespace Go.Proofs.YteoofibhpifmlaaDoor
open Go.RowKit Go.Shelf
set_option linter.unusedVariables false
set_option maxRecDepth 4000

/-- What heard tells. -/
structure TalkOk (n : NetL) (s : SpaceL) (E : List Int) (t : TalkL) : Prop where
  size : t.n = s.marks.length
  bg : ∀ j, j < 320 → (t.bg.has j = true ↔ Way s.arcs (labT n) 0 [] j)
  next : ∀ m c, m < t.n → 1 ≤ c → c < 27 → ∀ j, j < 320 → ((t.next m c).has j = true ↔ ∃ a ∈ s.arcs, a.frm = m ∧ labT n a.tran = (c : Int) ∧ Way s.arcs (labT n) a.dst [] j)
  least : LeastAll n s E (nth t.least)

/-- Sets of the first k arcs. -/
def NextTo (n : NetL) (A : List ArcL) (N : Nat) (f : Nat → SetL) (k : Nat) (g : Nat → SetL) : Prop := ∀ m c, m < N → c < 27 → ∀ j, j < 320 → ((g (m * 27 + c)).has j = true ↔ ∃ a ∈ A.take k, a.frm = m ∧ labT n a.tran = (c : Int) ∧ 0 < c ∧ (f a.dst).has j = true)
theorem NextTo.zero {n : NetL} {A : List ArcL} {N : Nat} {f : Nat → SetL} : NextTo n A N f 0 (fun _ => noneS) := fun m c _ _ j _ => by rw [has_none]; simp
theorem NextTo.skip {n : NetL} {A : List ArcL} {N k : Nat} {f g : Nat → SetL} (h : NextTo n A N f k g) (hk : k < A.length) (hl : labT n A[k].tran ≤ 0) : NextTo n A N f (k + 1) g := by
  intro m c hm hc j hj
  rw [h m c hm hc j hj, List.take_succ_eq_append_getElem hk]
  constructor
  · rintro ⟨a, ha, q⟩; exact ⟨a, List.mem_append_left _ ha, q⟩
  · rintro ⟨a, ha, q1, q2, q3, q4⟩
    rcases List.mem_append.1 ha with ha | ha
    · exact ⟨a, ha, q1, q2, q3, q4⟩
    · rw [List.mem_singleton.1 ha] at q2; omega
theorem NextTo.step {n : NetL} {A : List ArcL} {N k l : Nat} {f g : Nat → SetL} (h : NextTo n A N f k g) (hk : k < A.length) (hl : labT n A[k].tran = (l : Int)) (hl0 : 0 < l) (hl27 : l < 27) :
    NextTo n A N f (k + 1) (updS g (A[k].frm * 27 + l) (orS (g (A[k].frm * 27 + l)) (f A[k].dst))) := by
  intro m c hm hc j hj
  rw [List.take_succ_eq_append_getElem hk]
  by_cases e : m = A[k].frm ∧ c = l
  · obtain ⟨rfl, rfl⟩ := e
    rw [updS_same, has_or, Bool.or_eq_true, h _ _ hm hc j hj]
    constructor
    · rintro (⟨a, ha, q⟩ | q)
      · exact ⟨a, List.mem_append_left _ ha, q⟩
      · exact ⟨_, List.mem_append_right _ (List.mem_singleton.2 rfl), rfl, hl, hl0, q⟩
    · rintro ⟨a, ha, q1, q2, q3, q4⟩
      rcases List.mem_append.1 ha with ha | ha
      · exact .inl ⟨a, ha, q1, q2, q3, q4⟩
      · rw [List.mem_singleton.1 ha] at q4; exact .inr q4
  · rw [updS_other _ _ (by intro q; apply e; omega), h m c hm hc j hj]
    constructor
    · rintro ⟨a, ha, q⟩; exact ⟨a, List.mem_append_left _ ha, q⟩
    · rintro ⟨a, ha, q1, q2, q3, q4⟩
      rcases List.mem_append.1 ha with ha | ha
      · exact ⟨a, ha, q1, q2, q3, q4⟩
      · rw [List.mem_singleton.1 ha] at q1 q2
        exact absurd ⟨q1.symm, by omega⟩ e
theorem NextTo.done {n : NetL} {A : List ArcL} {N : Nat} {f g : Nat → SetL} (h : NextTo n A N f A.length g) (hf : FarAll A (labT n) N f) (hA : ∀ a ∈ A, a.dst < N) : ∀ m c, m < N → 1 ≤ c → c < 27 → ∀ j, j < 320 → ((g (m * 27 + c)).has j = true ↔ ∃ a ∈ A, a.frm = m ∧ labT n a.tran = (c : Int) ∧ Way A (labT n) a.dst [] j) := by
  intro m c hm hc1 hc j hj
  rw [h m c hm hc j hj, List.take_length]
  constructor
  · rintro ⟨a, ha, q1, q2, q3, q4⟩; exact ⟨a, ha, q1, q2, (hf _ (hA a ha) j hj).1 q4⟩
  · rintro ⟨a, ha, q1, q2, q4⟩; exact ⟨a, ha, q1, q2, by omega, (hf _ (hA a ha) j hj).2 q4⟩

theorem two_places {n : NetL} {i o : Int} (h : ShapeOk n i o) : 2 ≤ n.places := by
  have h1 := h.i0
  have h2 := h.o0
  have h3 := h.i1
  have h4 := h.o1
  have h5 := h.ne
  omega
/-- The labels of a right net. -/
theorem lab_ok {n : NetL} (h : netOk n = true) (t : Nat) (ht : t < n.trans.length) : 0 ≤ labT n t ∧ labT n t ≤ 26 := by
  unfold netOk at h
  rw [Bool.and_eq_true, List.all_eq_true] at h
  have := h.2 (tranAt n.trans t) (by unfold tranAt; rw [List.getD_eq_getElem?_getD, List.getElem?_eq_getElem ht]; exact List.getElem_mem ht)
  unfold tranOk tranHead at this
  unfold labT
  simp only [Bool.and_eq_true, decide_eq_true_eq] at this
  omega

end Go.Proofs.YteoofibhpifmlaaDoor
