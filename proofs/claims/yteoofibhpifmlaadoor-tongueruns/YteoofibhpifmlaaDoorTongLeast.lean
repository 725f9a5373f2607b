/- How many letters there are to the end, at least, plainly. -/
import Derived.Test.YteoofibhpifmlaaDoorTongFar
namespace Go.Proofs.YteoofibhpifmlaaDoor
set_option linter.unusedVariables false
set_option maxRecDepth 4000

/-- What a letter costs. -/
def costL (l : Int) : Int := if 1 < l then 1 else l
/-- The numbers while they fall: each that is below 300 has a way of as many letters; ends have 0. -/
structure LeastOk (n : NetL) (s : SpaceL) (E : List Int) (f : Nat → Int) : Prop where
  pos : ∀ m, m < s.marks.length → 0 ≤ f m ∧ f m ≤ 300
  ends : ∀ m, m < s.marks.length → markAt s.marks m = E → f m = 0
  sound : ∀ m, m < s.marks.length → f m < 300 → ∃ w, ToEnd n s E m w ∧ (w.length : Int) = f m
def updI (f : Nat → Int) (x : Nat) (t : Int) : Nat → Int := fun k => if k = x then t else f k
theorem updI_same (f : Nat → Int) (x : Nat) (t : Int) : updI f x t x = t := by simp [updI]
theorem updI_other (f : Nat → Int) {x k : Nat} (t : Int) (h : k ≠ x) : updI f x t k = f k := by simp [updI, h]

theorem LeastOk.start {n : NetL} {s : SpaceL} {E : List Int} {f : Nat → Int} (h : ∀ m, m < s.marks.length → f m = if markAt s.marks m = E then 0 else 300) : LeastOk n s E f := by
  refine ⟨fun m hm => by rw [h m hm]; split <;> omega, fun m hm e => by rw [h m hm, if_pos e], fun m hm hl => ?_⟩
  rw [h m hm] at hl ⊢
  by_cases e : markAt s.marks m = E
  · rw [if_pos e]; exact ⟨[], ⟨m, hm, e, Way.here _⟩, rfl⟩
  · rw [if_neg e] at hl; omega
/-- One arc. -/
def stepI (n : NetL) (f : Nat → Int) (a : ArcL) : Int := if f a.dst + costL (labT n a.tran) < f a.frm then f a.dst + costL (labT n a.tran) else f a.frm
theorem cost_pos {l : Int} (h : 0 ≤ l) : 0 ≤ costL l ∧ costL l ≤ 1 := by unfold costL; split <;> omega
theorem LeastOk.step {n : NetL} {s : SpaceL} {E : List Int} {f : Nat → Int} (h : LeastOk n s E f) {a : ArcL} (ha : a ∈ s.arcs) (hx : a.frm < s.marks.length) (hy : a.dst < s.marks.length) (hl : 0 ≤ labT n a.tran) : LeastOk n s E (updI f a.frm (stepI n f a)) := by
  have hc := cost_pos hl
  have px := h.pos _ hx
  have py := h.pos _ hy
  refine ⟨fun m hm => ?_, fun m hm e => ?_, fun m hm hlt => ?_⟩
  · by_cases e : m = a.frm
    · subst e; rw [updI_same]; unfold stepI; split <;> omega
    · rw [updI_other _ _ e]; exact h.pos m hm
  · by_cases e2 : m = a.frm
    · subst e2; rw [updI_same]; unfold stepI; rw [h.ends _ hm e]; split <;> omega
    · rw [updI_other _ _ e2]; exact h.ends m hm e
  · by_cases e : m = a.frm
    · subst e
      rw [updI_same] at hlt ⊢
      unfold stepI at hlt ⊢
      by_cases hq : f a.dst + costL (labT n a.tran) < f a.frm
      · rw [if_pos hq] at hlt ⊢
        obtain ⟨w, ⟨e1, h1, h2, h3⟩, h4⟩ := h.sound a.dst hy (by omega)
        by_cases h0 : labT n a.tran = 0
        · refine ⟨w, ⟨e1, h1, h2, (Way.arc0 ha h0).append h3⟩, ?_⟩
          unfold costL; rw [h0]; simp; exact h4
        · refine ⟨labT n a.tran :: w, ⟨e1, h1, h2, (Way.arc ha h0).append h3⟩, ?_⟩
          unfold costL; simp only [List.length_cons]; split <;> omega
      · rw [if_neg hq] at hlt ⊢
        exact h.sound _ hm hlt
    · rw [updI_other _ _ e] at hlt ⊢; exact h.sound m hm hlt
def sumI (N : Nat) (f : Nat → Int) : Nat := sumN (fun m => (f m).toNat) N
theorem sumI_less {N x : Nat} {f : Nat → Int} {t : Int} (hx : x < N) (ht : t < f x) (h0 : 0 ≤ t) : sumI N (updI f x t) < sumI N f := by
  refine sumN_lt (x := x) ?_ N hx fun m hm => ?_
  · rw [updI_same]; omega
  · by_cases e : m = x
    · subst e; rw [updI_same]; omega
    · rw [updI_other _ _ e]; exact Nat.le_refl _
/-- An arc that lessens nothing. -/
def LeastShut (n : NetL) (f : Nat → Int) (a : Int × Int × Int) : Prop := f a.1.toNat ≤ f a.2.2.toNat + costL (labT n a.2.1.toNat)
/-- These are the numbers. -/
structure LeastAll (n : NetL) (s : SpaceL) (E : List Int) (f : Nat → Int) : Prop where
  pos : ∀ m, m < s.marks.length → 0 ≤ f m ∧ f m ≤ 300
  sound : ∀ m, m < s.marks.length → f m < 300 → ∃ w, ToEnd n s E m w ∧ (w.length : Int) = f m
  least : ∀ m, m < s.marks.length → ∀ w, ToEnd n s E m w → f m ≤ w.length ∧ f m < 300
theorem LeastOk.done {n : NetL} {s : SpaceL} {E : List Int} {f : Nat → Int} (h : LeastOk n s E f) (hN : s.marks.length ≤ 300) (hA : ∀ a ∈ s.arcs, a.frm < s.marks.length ∧ a.dst < s.marks.length ∧ 0 ≤ labT n a.tran) (hs : ∀ a ∈ s.arcs.map arcZ, LeastShut n f a) : LeastAll n s E f := by
  have key : ∀ k m w e, m < s.marks.length → e < s.marks.length → markAt s.marks e = E → WayN s.arcs (labT n) k m w e → f m ≤ w.length := by
    intro k
    induction k with
    | zero =>
      intro m w e hm he hE hw
      obtain ⟨rfl, rfl⟩ := hw
      rw [h.ends m hm hE]; simp
    | succ k ih =>
      intro m w e hm he hE hw
      obtain ⟨a, ha, rfl, u, h1, rfl⟩ := hw
      obtain ⟨q1, q2, q3⟩ := hA a ha
      have h2 := ih a.dst u e q2 he hE h1
      have h3 : f a.frm ≤ f a.dst + costL (labT n a.tran) := by simpa [LeastShut, arcZ] using hs (arcZ a) (List.mem_map_of_mem ha)
      unfold costL at h3
      split
      · rename_i h0; rw [h0] at h3; simp at h3; omega
      · simp only [List.length_cons]; split at h3 <;> omega
  refine ⟨h.pos, h.sound, fun m hm w hw => ?_⟩
  obtain ⟨e, he, hE, k, hk⟩ := hw
  refine ⟨key k m w e hm he hE hk, ?_⟩
  obtain ⟨L, k', hB⟩ := best_of (E := fun e => e < s.marks.length ∧ markAt s.marks e = E) ⟨he, hE⟩ ⟨k, hk⟩
  have hL := hB.short (fun a ha => (hA a ha).2.1) hm
  obtain ⟨⟨w', e', ⟨he', hE'⟩, hl', hw'⟩, _⟩ := hB
  have := key k' m w' e' hm he' hE' hw'
  omega
theorem LeastAll.zero {n : NetL} {s : SpaceL} {E : List Int} {f : Nat → Int} (h : LeastAll n s E f) {m : Nat} (hm : m < s.marks.length) : f m = 0 ↔ ToEnd n s E m [] := by
  constructor
  · intro e
    obtain ⟨w, hw, hl⟩ := h.sound m hm (by omega)
    obtain rfl : w = [] := List.length_eq_zero_iff.1 (by omega)
    exact hw
  · intro hw
    have := (h.least m hm [] hw).1
    have := (h.pos m hm).1
    simp at *; omega

end Go.Proofs.YteoofibhpifmlaaDoor
