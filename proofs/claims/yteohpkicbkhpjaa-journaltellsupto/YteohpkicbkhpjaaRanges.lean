/- The first numbers, and lists that rise. -/
import Derived.Test.YteohpkicbkhpjaaBase
namespace Go.Proofs.Yteohpkicbkhpjaa
set_option linter.unusedVariables false
set_option maxRecDepth 4000

def rangeL (P : Nat) : List Int := (List.range P).map fun p : Nat => (p : Int)
theorem mem_range {P : Nat} {p : Int} : p ∈ rangeL P ↔ 0 ≤ p ∧ p < P := by
  unfold rangeL
  rw [List.mem_map]
  constructor
  · rintro ⟨a, ha, rfl⟩; rw [List.mem_range] at ha; omega
  · rintro ⟨h1, h2⟩; exact ⟨p.toNat, by rw [List.mem_range]; omega, by omega⟩
theorem pw_cast : ∀ {l : List Nat}, l.Pairwise (fun a b => a < b) → l.Pairwise (fun a b : Nat => (a : Int) < (b : Int))
  | [], _ => List.Pairwise.nil
  | a :: l, h => by
    rw [List.pairwise_cons] at h ⊢
    exact ⟨fun b hb => by have := h.1 b hb; omega, pw_cast h.2⟩
theorem range_sorted (P : Nat) : (rangeL P).Pairwise (· < ·) := by
  unfold rangeL
  rw [List.pairwise_map]
  exact pw_cast List.pairwise_lt_range

/-- Two lists that rise, of the same numbers, are one. -/
theorem up_unique : ∀ {xs ys : List Int}, xs.Pairwise (· < ·) → ys.Pairwise (· < ·) → (∀ t, t ∈ xs ↔ t ∈ ys) → xs = ys
  | [], [], _, _, _ => rfl
  | [], y :: yr, _, _, h => by have := (h y).2 (by simp); simp at this
  | x :: xr, [], _, _, h => by have := (h x).1 (by simp); simp at this
  | x :: xr, y :: yr, hx, hy, h => by
    obtain ⟨x1, x2⟩ := List.pairwise_cons.1 hx
    obtain ⟨y1, y2⟩ := List.pairwise_cons.1 hy
    have e : x = y := by
      have a1 := (h x).1 (by simp)
      have a2 := (h y).2 (by simp)
      rcases List.mem_cons.1 a1 with q | q
      · exact q
      · rcases List.mem_cons.1 a2 with r | r
        · exact r.symm
        · have := y1 x q; have := x1 y r; omega
    subst e
    have : xr = yr := up_unique x2 y2 fun t => by
      constructor
      · intro ht
        rcases List.mem_cons.1 ((h t).1 (by simp [ht])) with q | q
        · subst q; have := x1 t ht; omega
        · exact q
      · intro ht
        rcases List.mem_cons.1 ((h t).2 (by simp [ht])) with q | q
        · subst q; have := y1 t ht; omega
        · exact q
    rw [this]

end Go.Proofs.Yteohpkicbkhpjaa
