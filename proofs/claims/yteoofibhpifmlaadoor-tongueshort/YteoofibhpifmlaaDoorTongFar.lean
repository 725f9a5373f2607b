/- Where one comes without letters, plainly: sets by marks that only grow. -/
import Derived.Test.YteoofibhpifmlaaDoorTongBase
import Derived.Test.YteoofibhpifmlaaDoorTongRow
namespace Go.Proofs.YteoofibhpifmlaaDoor
set_option linter.unusedVariables false
set_option maxRecDepth 4000

theorem cntF_le_of {f g : Nat → Bool} : ∀ (n : Nat), (∀ j, j < n → f j = true → g j = true) → cntF g n ≤ cntF f n
  | 0, _ => Nat.le_refl _
  | n + 1, h => by
    have := cntF_le_of n fun j hj => h j (by omega)
    have hn := h n (by omega)
    simp only [cntF]
    cases hf : f n
    · simp; split <;> omega
    · rw [hn hf]; simp; omega
theorem cntF_lt {f g : Nat → Bool} {x : Nat} (hf : f x = false) (hg : g x = true) : ∀ (n : Nat), x < n → (∀ j, j < n → f j = true → g j = true) → cntF g n < cntF f n
  | 0, h, _ => absurd h (Nat.not_lt_zero _)
  | n + 1, h, hh => by
    simp only [cntF]
    by_cases e : x = n
    · subst e
      have := cntF_le_of x fun j hj => hh j (by omega)
      rw [hf, hg]; simp; omega
    · have := cntF_lt hf hg n (by omega) fun j hj => hh j (by omega)
      have hn := hh n (by omega)
      cases hq : f n
      · simp; split <;> omega
      · rw [hn hq]; simp; omega
def sumN (c : Nat → Nat) : Nat → Nat
  | 0 => 0
  | n + 1 => sumN c n + c n
theorem sumN_le {c d : Nat → Nat} : ∀ (n : Nat), (∀ j, j < n → c j ≤ d j) → sumN c n ≤ sumN d n
  | 0, _ => Nat.le_refl _
  | n + 1, h => by
    have h1 := sumN_le n fun j hj => h j (by omega)
    have h2 := h n (by omega)
    simp only [sumN]; omega
theorem sumN_lt {c d : Nat → Nat} {x : Nat} (hx : c x < d x) : ∀ (n : Nat), x < n → (∀ j, j < n → c j ≤ d j) → sumN c n < sumN d n
  | 0, h, _ => absurd h (Nat.not_lt_zero _)
  | n + 1, h, hh => by
    simp only [sumN]
    by_cases e : x = n
    · subst e
      have := sumN_le (c := c) (d := d) x fun j hj => hh j (by omega)
      omega
    · have h1 := sumN_lt hx n (by omega) fun j hj => hh j (by omega)
      have h2 := hh n (by omega)
      omega

/-- How much is not in the sets. -/
def lackM (N : Nat) (f : Nat → SetL) : Nat := sumN (fun m => cntF (fun j => (f m).has j) 320) N
theorem lackM_less {N x : Nat} {f : Nat → SetL} {u : SetL} (hx : x < N) (hne : eqS (orS (f x) u) (f x) = false) : lackM N (updS f x (orS (f x) u)) < lackM N f := by
  have hd : ∃ j, j < 320 ∧ (orS (f x) u).has j = true ∧ (f x).has j = false := by
    refine Classical.byContradiction fun hno => ?_
    have : SameS (orS (f x) u) (f x) := SameS.of_has fun m hm => by
      rw [has_or]
      cases h1 : (f x).has m
      · cases h2 : u.has m
        · rfl
        · exact absurd ⟨m, hm, by rw [has_or, h1, h2]; rfl, h1⟩ hno
      · rfl
    rw [(eqS_iff _ _).2 this] at hne
    cases hne
  obtain ⟨j, hj, h1, h2⟩ := hd
  refine sumN_lt (x := x) ?_ N hx fun m hm => ?_
  · rw [updS_same]
    exact cntF_lt h2 h1 320 hj fun i _ hi => by rw [has_or, hi]; rfl
  · by_cases e : m = x
    · subst e
      rw [updS_same]
      exact cntF_le_of 320 fun i _ hi => by rw [has_or, hi]; rfl
    · rw [updS_other _ _ e]; exact Nat.le_refl _

/-- All that is in the sets is come to without letters; each mark is in its own. -/
structure FarOk (A : List ArcL) (lb : Nat → Int) (N : Nat) (f : Nat → SetL) : Prop where
  self : ∀ m, m < N → (f m).has m = true
  sound : ∀ m, m < N → ∀ j, j < 320 → (f m).has j = true → Way A lb m [] j
theorem FarOk.start {A : List ArcL} {lb : Nat → Int} {N : Nat} {f : Nat → SetL} (h : ∀ m, m < N → f m = onlyS m) : FarOk A lb N f := by
  refine ⟨fun m hm => by rw [h m hm, has_only]; simp, fun m hm j hj hh => ?_⟩
  rw [h m hm, has_only] at hh
  obtain rfl : j = m := by simpa using hh
  exact Way.here _
theorem FarOk.step {A : List ArcL} {lb : Nat → Int} {N : Nat} {f : Nat → SetL} (h : FarOk A lb N f) {a : ArcL} (ha : a ∈ A) (h0 : lb a.tran = 0) (hd : a.dst < N) : FarOk A lb N (updS f a.frm (orS (f a.frm) (f a.dst))) := by
  refine ⟨fun m hm => ?_, fun m hm j hj hh => ?_⟩
  · by_cases e : m = a.frm
    · subst e; rw [updS_same, has_or, h.self _ hm]; rfl
    · rw [updS_other _ _ e]; exact h.self m hm
  · by_cases e : m = a.frm
    · subst e
      rw [updS_same, has_or, Bool.or_eq_true] at hh
      rcases hh with hh | hh
      · exact h.sound _ hm j hj hh
      · exact (Way.arc0 ha h0).append (h.sound _ hd j hj hh)
    · rw [updS_other _ _ e] at hh; exact h.sound m hm j hj hh
/-- Nothing more comes of an arc. -/
def FarShut (lb : Nat → Int) (f : Nat → SetL) (a : Int × Int × Int) : Prop := lb a.2.1.toNat = 0 → ∀ j, j < 320 → (f a.2.2.toNat).has j = true → (f a.1.toNat).has j = true
/-- These are the sets. -/
def FarAll (A : List ArcL) (lb : Nat → Int) (N : Nat) (f : Nat → SetL) : Prop := ∀ m, m < N → ∀ j, j < 320 → ((f m).has j = true ↔ Way A lb m [] j)
theorem FarOk.done {A : List ArcL} {lb : Nat → Int} {N : Nat} {f : Nat → SetL} (h : FarOk A lb N f) (hN : N ≤ 300) (hA : ∀ a ∈ A, a.frm < N ∧ a.dst < N) (hs : ∀ a ∈ A.map arcZ, FarShut lb f a) : FarAll A lb N f := by
  intro m hm j hj
  refine ⟨h.sound m hm j hj, fun hw => ?_⟩
  have hjN : j < N := hw.end_lt (fun a ha => (hA a ha).2) hm
  refine Way.unseenB (P := fun k => (f k).has j = true) (fun a ha h0 hd => ?_) hw (h.self j hjN)
  exact hs (arcZ a) (List.mem_map_of_mem ha) (by simpa [arcZ] using h0) j hj (by simpa [arcZ] using hd)

end Go.Proofs.YteoofibhpifmlaaDoor
