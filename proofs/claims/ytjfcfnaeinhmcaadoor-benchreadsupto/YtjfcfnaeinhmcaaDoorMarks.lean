/- Plain facts on marks as lists: sums, differences, covering. -/
import Derived.Test.YtjfcfnaeinhmcaaDoorMark4
namespace Go.Proofs.YtjfcfnaeinhmcaaDoor
set_option linter.unusedVariables false
set_option maxRecDepth 4000

theorem zip_comm (xs ys : List Int) : zipL (fun x1 x2 => x1 + x2) ys xs = zipL (fun x1 x2 => x1 + x2) xs ys := by
  simp only [zipL, Nat.max_comm ys.length xs.length]; congr 1; funext p; omega

theorem plusL_comm (xs ys : List Int) : plusL ys xs = plusL xs ys := by
  unfold plusL; rw [zip_comm, Bool.and_comm]

theorem sum_at (xs ys : List Int) (j : Nat) : nth (zipL (fun x1 x2 => x1 + x2) xs ys) j = nth xs j + nth ys j := zipL_at _ rfl _ _ _
theorem less_at (xs ys : List Int) (j : Nat) : nth (zipL (fun x1 x2 => x1 - x2) xs ys) j = nth xs j - nth ys j := zipL_at _ rfl _ _ _

/-- What an answer of Plus can be. -/
theorem plusL_cases (xs ys : List Int) : (plusL xs ys = (zipL (fun x1 x2 => x1 + x2) xs ys, 0) ∧ rightL xs = true ∧ rightL ys = true ∧ rightL (zipL (fun x1 x2 => x1 + x2) xs ys) = true) ∨
    (∃ c, plusL xs ys = ([], c) ∧ c ≠ 0) := by
  cases hx : rightL xs
  · exact .inr ⟨2, plusL_range1 hx, by decide⟩
  cases hy : rightL ys
  · exact .inr ⟨2, plusL_range2 hy, by decide⟩
  cases hz : rightL (zipL (fun x1 x2 => x1 + x2) xs ys)
  · exact .inr ⟨4, plusL_full hx hy hz, by decide⟩
  · exact .inl ⟨plusL_ok hx hy hz, rfl, rfl, rfl⟩

theorem covers_self (xs : List Int) : coversL xs xs = true := (coversL_iff _ _).2 fun j => Int.le_refl _
theorem covers_sum {xs ys : List Int} (hy : rightL ys = true) : coversL (zipL (fun x1 x2 => x1 + x2) xs ys) xs = true :=
  (coversL_iff _ _).2 fun j => by have := (rightL_iff _).1 hy j; rw [sum_at]; omega
theorem covers_sum2 {xs ys : List Int} (hx : rightL xs = true) : coversL (zipL (fun x1 x2 => x1 + x2) xs ys) ys = true :=
  (coversL_iff _ _).2 fun j => by have := (rightL_iff _).1 hx j; rw [sum_at]; omega

theorem sameL_iff (xs ys : List Int) : (coversL xs ys && coversL ys xs) = true ↔ ∀ j, nth xs j = nth ys j := by
  rw [Bool.and_eq_true, coversL_iff, coversL_iff]
  exact ⟨fun ⟨h, k⟩ j => by have := h j; have := k j; omega, fun h => ⟨fun j => by rw [h j]; omega, fun j => by rw [h j]; omega⟩⟩

/-- What was added is taken away again. -/
theorem minus_sum {xs ys : List Int} (hx : rightL xs = true) (hy : rightL ys = true) (hz : rightL (zipL (fun x1 x2 => x1 + x2) xs ys) = true) :
    ∃ zz, minusL (zipL (fun x1 x2 => x1 + x2) xs ys) ys = (zz, 0) ∧ (coversL zz xs && coversL xs zz) = true :=
  ⟨_, minusL_ok hz hy (covers_sum2 hx), (sameL_iff _ _).2 fun j => by rw [less_at, sum_at]; omega⟩

/-- In whatever order. -/
theorem plus_assoc {xs ys cs : List Int} (hx : rightL xs = true) (hy : rightL ys = true) (h : (plusL (zipL (fun x1 x2 => x1 + x2) xs ys) cs).2 = 0) :
    (plusL ys cs).2 = 0 ∧ (plusL xs (plusL ys cs).1).2 = 0 ∧
      (coversL (plusL (zipL (fun x1 x2 => x1 + x2) xs ys) cs).1 (plusL xs (plusL ys cs).1).1 && coversL (plusL xs (plusL ys cs).1).1 (plusL (zipL (fun x1 x2 => x1 + x2) xs ys) cs).1) = true := by
  rcases plusL_cases (zipL (fun x1 x2 => x1 + x2) xs ys) cs with ⟨e, _, hc, hr⟩ | ⟨c, e, hc⟩
  · have hr' := (rightL_iff _).1 hr
    have hx' := (rightL_iff _).1 hx
    have hy' := (rightL_iff _).1 hy
    have hc' := (rightL_iff _).1 hc
    have h1 : rightL (zipL (fun x1 x2 => x1 + x2) ys cs) = true := (rightL_iff _).2 fun j => by
      have := hr' j; have := hx' j; have := hy' j; have := hc' j
      simp only [sum_at] at *; omega
    have e1 := plusL_ok hy hc h1
    have h2 : rightL (zipL (fun x1 x2 => x1 + x2) xs (zipL (fun x1 x2 => x1 + x2) ys cs)) = true := (rightL_iff _).2 fun j => by
      have := hr' j
      simp only [sum_at] at *; omega
    have e2 := plusL_ok hx h1 h2
    refine ⟨by rw [e1], by rw [e1]; exact congrArg Prod.snd e2, ?_⟩
    rw [e, e1]
    show (coversL _ (plusL xs (zipL (fun x1 x2 => x1 + x2) ys cs)).1 && coversL (plusL xs (zipL (fun x1 x2 => x1 + x2) ys cs)).1 _) = true
    rw [e2]
    exact (sameL_iff _ _).2 fun j => by rw [sum_at, sum_at, sum_at, sum_at]; omega
  · rw [e] at h; exact absurd h hc

/-- What was taken away is added again. -/
theorem plus_less {xs ys : List Int} (hx : rightL xs = true) (hy : rightL ys = true) (hc : coversL xs ys = true) :
    ∃ zz, plusL (zipL (fun x1 x2 => x1 - x2) xs ys) ys = (zz, 0) ∧ (coversL zz xs && coversL xs zz) = true := by
  have h1 : rightL (zipL (fun x1 x2 => x1 - x2) xs ys) = true := by rw [right_minus hx hy]; exact hc
  have h2 : rightL (zipL (fun x1 x2 => x1 + x2) (zipL (fun x1 x2 => x1 - x2) xs ys) ys) = true := (rightL_iff _).2 fun j => by
    have := (rightL_iff _).1 hx j
    rw [sum_at, less_at]; omega
  exact ⟨_, plusL_ok h1 hy h2, (sameL_iff _ _).2 fun j => by rw [sum_at, less_at]; omega⟩

theorem covers_trans {xs ys cs : List Int} (h : coversL xs ys = true) (k : coversL ys cs = true) : coversL xs cs = true :=
  (coversL_iff _ _).2 fun j => Int.le_trans ((coversL_iff _ _).1 k j) ((coversL_iff _ _).1 h j)

end Go.Proofs.YtjfcfnaeinhmcaaDoor
