/- slices.Reverse over a slice of ints that the call itself has made. -/
import Derived.Test.YtakgppoeikcepaaGr09
import Derived.BigRegion
namespace Go.Proofs.Ytakgppoeikcepaa
open Go.RowKit
set_option linter.unusedVariables false
set_option maxRecDepth 4000

/-- The first k changed for the last k. -/
def swapTo (zs : List Int) : Nat → List Int
  | 0 => zs
  | k + 1 => ((swapTo zs k).set k (nth (swapTo zs k) (zs.length - 1 - k))).set (zs.length - 1 - k) (nth (swapTo zs k) k)

theorem swapTo_length (zs : List Int) (k : Nat) : (swapTo zs k).length = zs.length := by
  induction k with
  | zero => rfl
  | succ k ih => simp [swapTo, ih]

theorem nth_set (xs : List Int) (i : Nat) (x : Int) (p : Nat) (hi : i < xs.length) : nth (xs.set i x) p = if p = i then x else nth xs p := by
  by_cases h : p = i
  · subst h; simp [nth, List.getD, hi]
  · rw [if_neg h]
    simp [nth, List.getD, Ne.symm h]

theorem swapTo_nth (zs : List Int) (k : Nat) (hk : 2 * k ≤ zs.length) (p : Nat) (hp : p < zs.length) :
    nth (swapTo zs k) p = if p < k ∨ zs.length - k ≤ p then nth zs (zs.length - 1 - p) else nth zs p := by
  induction k generalizing p with
  | zero => rw [if_neg (by omega)]; rfl
  | succ k ih =>
    have i1 := ih (by omega)
    rw [swapTo, nth_set _ _ _ _ (by simp [swapTo_length]; omega), nth_set _ _ _ _ (by rw [swapTo_length]; omega)]
    by_cases h1 : p = zs.length - 1 - k
    · rw [if_pos h1, if_pos (by omega), i1 k (by omega), if_neg (by omega)]
      congr 1; omega
    · rw [if_neg h1]
      by_cases h2 : p = k
      · rw [if_pos h2, if_pos (by omega), i1 _ (by omega), if_neg (by omega)]
        congr 1; omega
      · rw [if_neg h2, i1 p hp]
        by_cases h3 : p < k ∨ zs.length - k ≤ p
        · rw [if_pos h3, if_pos (by omega)]
        · rw [if_neg h3, if_neg (by omega)]

theorem nth_eq {xs ys : List Int} (hl : xs.length = ys.length) (h : ∀ j, j < xs.length → nth xs j = nth ys j) : xs = ys := by
  refine List.ext_getElem hl fun i h1 h2 => ?_
  have := h i h1
  simpa [nth, List.getD, List.getElem?_eq_getElem h1, List.getElem?_eq_getElem h2] using this

theorem swapTo_reverse (zs : List Int) (k : Nat) (hk : 2 * k ≤ zs.length) (hk2 : zs.length ≤ 2 * k + 1) : swapTo zs k = zs.reverse := by
  refine nth_eq (by simp [swapTo_length]) fun j hj => ?_
  rw [swapTo_length] at hj
  rw [swapTo_nth zs k hk j hj]
  have e : nth zs.reverse j = nth zs (zs.length - 1 - j) := by
    simp [nth, List.getD, List.getElem?_reverse hj]
  rw [e]
  by_cases h : j < k ∨ zs.length - k ≤ j
  · rw [if_pos h]
  · rw [if_neg h]; congr 1; omega

end Go.Proofs.Ytakgppoeikcepaa
