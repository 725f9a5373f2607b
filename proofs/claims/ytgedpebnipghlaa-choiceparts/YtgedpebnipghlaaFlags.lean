/- Yes and no of numbers: how many are no; one more that is yes. -/
import Derived.Test.YtgedpebnipghlaaBase
namespace Go.Proofs.Ytgedpebnipghlaa
set_option linter.unusedVariables false
set_option maxRecDepth 4000

def cntF (f : Nat → Bool) : Nat → Nat
  | 0 => 0
  | n + 1 => cntF f n + (if f n then 0 else 1)
theorem cntF_same {f g : Nat → Bool} : ∀ (n : Nat), (∀ j, j < n → g j = f j) → cntF g n = cntF f n
  | 0, _ => rfl
  | n + 1, h => by
    simp only [cntF]
    rw [cntF_same n fun j hj => h j (by omega), h n (by omega)]
theorem cntF_set {f g : Nat → Bool} {b : Nat} (hf : f b = false) (hg : g b = true) (ho : ∀ j, j ≠ b → g j = f j) : ∀ (n : Nat), b < n → cntF g n + 1 = cntF f n
  | 0, h => absurd h (Nat.not_lt_zero _)
  | n + 1, h => by
    simp only [cntF]
    by_cases e : b = n
    · subst e
      rw [cntF_same b fun j hj => ho j (by omega), hf, hg]
      simp
    · have := cntF_set hf hg ho n (by omega)
      rw [ho n (by omega)]
      omega
theorem cntF_le (f : Nat → Bool) : ∀ n, cntF f n ≤ n
  | 0 => Nat.le_refl _
  | n + 1 => by have := cntF_le f n; simp only [cntF]; split <;> omega
def updT (f : Nat → Bool) (x : Nat) : Nat → Bool := fun j => if j = x then true else f j
theorem updT_same (f : Nat → Bool) (x : Nat) : updT f x x = true := by simp [updT]
theorem updT_other (f : Nat → Bool) {x j : Nat} (h : j ≠ x) : updT f x j = f j := by simp [updT, h]
theorem updT_grew {f : Nat → Bool} {x j : Nat} (h : f j = true) : updT f x j = true := by
  unfold updT; split
  · rfl
  · exact h

end Go.Proofs.Ytgedpebnipghlaa
