/- slices.Compact over numbers of an own row. -/
import Derived.Test.YtgedpebnipghlaaSlices7
import Derived.BigQuiet
namespace Go.Proofs.Ytgedpebnipghlaa
open Go.RowKit
set_option linter.unusedVariables false
set_option maxRecDepth 4000

/-- The first j, each run of equals once. -/
def ddTo (xs : List Int) : Nat → List Int
  | 0 => []
  | j + 1 => if j = 0 ∨ nth xs j ≠ nth xs (j - 1) then ddTo xs j ++ [nth xs j] else ddTo xs j
theorem ddTo_yes {xs : List Int} {j : Nat} (h : j = 0 ∨ nth xs j ≠ nth xs (j - 1)) : ddTo xs (j + 1) = ddTo xs j ++ [nth xs j] := by simp only [ddTo]; rw [if_pos h]
theorem ddTo_no {xs : List Int} {j : Nat} (h : ¬ (j = 0 ∨ nth xs j ≠ nth xs (j - 1))) : ddTo xs (j + 1) = ddTo xs j := by simp only [ddTo]; rw [if_neg h]
theorem ddTo_le (xs : List Int) : ∀ j, (ddTo xs j).length ≤ j
  | 0 => by simp [ddTo]
  | j + 1 => by
    have := ddTo_le xs j
    simp only [ddTo]
    split
    · simp; omega
    · omega
theorem ddTo_take {xs : List Int} : ∀ {k : Nat}, k ≤ xs.length → (∀ j, 0 < j → j < k → nth xs j ≠ nth xs (j - 1)) → ddTo xs k = xs.take k
  | 0, _, _ => by simp [ddTo]
  | k + 1, hk, h => by
    rw [ddTo_yes (by by_cases e : k = 0; exact .inl e; exact .inr (h k (by omega) (by omega))), ddTo_take (by omega) fun j h0 hj => h j h0 (by omega), List.take_succ_eq_append_getElem (by omega)]
    congr 2
    simp [nth, List.getD, List.getElem?_eq_getElem (show k < xs.length by omega)]

theorem nth_mono {xs : List Int} (hs : xs.Pairwise (· ≤ ·)) {i j : Nat} (hij : i < j) (hj : j < xs.length) : nth xs i ≤ nth xs j := by
  have := List.pairwise_iff_getElem.1 hs i j (by omega) hj hij
  simpa [nth, List.getD, List.getElem?_eq_getElem hj, List.getElem?_eq_getElem (show i < xs.length by omega)] using this
/-- What is kept rises, ends with the last that has come, and is what has come. -/
theorem ddTo_ok {xs : List Int} (hs : xs.Pairwise (· ≤ ·)) : ∀ {j : Nat}, j ≤ xs.length → (ddTo xs j).Pairwise (· < ·) ∧ (∀ t, t ∈ ddTo xs j ↔ ∃ i, i < j ∧ nth xs i = t)
  | 0, _ => by simp [ddTo]
  | j + 1, hj => by
    obtain ⟨h1, h2⟩ := ddTo_ok hs (j := j) (by omega)
    by_cases h : j = 0 ∨ nth xs j ≠ nth xs (j - 1)
    · rw [ddTo_yes h]
      refine ⟨?_, fun t => ?_⟩
      · rw [List.pairwise_append]
        refine ⟨h1, List.pairwise_singleton _ _, fun a ha b hb => ?_⟩
        rw [List.mem_singleton] at hb
        subst hb
        obtain ⟨i, hi, rfl⟩ := (h2 a).1 ha
        have m1 := nth_mono hs (show i < j from hi) (by omega)
        rcases h with q | q
        · omega
        · by_cases e : i = j - 1
          · subst e; omega
          · have m2 := nth_mono hs (show i < j - 1 by omega) (by omega)
            have m3 := nth_mono hs (show j - 1 < j by omega) (by omega)
            omega
      · rw [List.mem_append, h2, List.mem_singleton]
        constructor
        · rintro (⟨i, hi, rfl⟩ | rfl)
          · exact ⟨i, by omega, rfl⟩
          · exact ⟨j, by omega, rfl⟩
        · rintro ⟨i, hi, rfl⟩
          by_cases e : i = j
          · subst e; exact .inr rfl
          · exact .inl ⟨i, by omega, rfl⟩
    · rw [ddTo_no h]
      refine ⟨h1, fun t => ?_⟩
      rw [h2]
      constructor
      · rintro ⟨i, hi, rfl⟩; exact ⟨i, by omega, rfl⟩
      · rintro ⟨i, hi, rfl⟩
        by_cases e : i = j
        · subst e
          exact ⟨i - 1, by omega, by omega⟩
        · exact ⟨i, by omega, rfl⟩
theorem ddTo_mem {xs : List Int} (hs : xs.Pairwise (· ≤ ·)) (t : Int) : t ∈ ddTo xs xs.length ↔ t ∈ xs := by
  rw [(ddTo_ok hs (Nat.le_refl _)).2]
  constructor
  · rintro ⟨i, hi, rfl⟩
    have e : nth xs i = xs[i] := by simp [nth, List.getD, List.getElem?_eq_getElem hi]
    rw [e]; exact List.getElem_mem hi
  · intro h
    obtain ⟨i, hi, rfl⟩ := List.getElem_of_mem h
    exact ⟨i, hi, by simp [nth, List.getD, List.getElem?_eq_getElem hi]⟩

end Go.Proofs.Ytgedpebnipghlaa
