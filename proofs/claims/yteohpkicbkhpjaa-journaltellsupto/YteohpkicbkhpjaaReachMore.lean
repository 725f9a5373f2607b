/- Where a search breaks off; how many can be different. -/
import Derived.Test.YteohpkicbkhpjaaReaches2
namespace Go.Proofs.Yteohpkicbkhpjaa
set_option linter.unusedVariables false
set_option maxRecDepth 4000

theorem row_broke {n : NetL} {m : List Int} {most k : Nat} {s : SpaceL} (h : Found n m most k 0 s) (hk : k < s.marks.length) : ∀ (t : Nat), t ≤ n.trans.length → rowTo n most k s t = none →
    ∃ j s', j < n.trans.length ∧ Found n m most k j s' ∧ k < s'.marks.length ∧ tryT n most k s' j = none
  | 0, _, e => by simp [rowTo] at e
  | t + 1, ht, e => by
    rw [rowTo] at e
    cases e1 : rowTo n most k s t with
    | none => exact row_broke h hk t (by omega) e1
    | some s1 =>
      rw [e1] at e
      obtain ⟨g1, l1⟩ := rowTo_found h hk t (by omega) e1
      exact ⟨t, s1, by omega, g1, Nat.lt_of_lt_of_le hk l1.le, e⟩
theorem graph_broke {n : NetL} {m : List Int} {most : Nat} (hm : 1 ≤ most) (hf : fitsL n m = true) : ∀ (k : Nat), graphTo n m most k = none →
    ∃ f j s', j < n.trans.length ∧ Found n m most f j s' ∧ f < s'.marks.length ∧ tryT n most f s' j = none
  | 0, e => by simp [graphTo] at e
  | k + 1, e => by
    rw [graphTo] at e
    cases e1 : graphTo n m most k with
    | none => exact graph_broke hm hf k e1
    | some s1 =>
      rw [e1] at e
      simp only [Option.bind_some] at e
      split at e
      · rename_i hk
        obtain ⟨j, s', q1, q2, q3, q4⟩ := row_broke (graphTo_found hm hf k e1) hk _ (Nat.le_refl _) e
        exact ⟨k, j, s', q1, q2, q3, q4⟩
      · cases e

theorem nodup_sub {l1 : List (List Int)} : ∀ {l2 : List (List Int)}, l1.Nodup → (∀ x ∈ l1, x ∈ l2) → l1.length ≤ l2.length := by
  induction l1 with
  | nil => intro l2 _ _; simp
  | cons a l ih =>
    intro l2 hn hs
    rw [List.nodup_cons] at hn
    have ha := hs a (by simp)
    have := ih (l2 := l2.erase a) hn.2 fun x hx => (List.mem_erase_of_ne (fun (e : x = a) => hn.1 (e ▸ hx))).2 (hs x (by simp [hx]))
    rw [List.length_erase_of_mem ha] at this
    have := List.length_pos_of_mem ha
    simp; omega

theorem graphOk_300 {n : NetL} {m : List Int} (hf : fitsL n m = true) : graphOk n m 300 = true := by simp [graphOk, hf]

end Go.Proofs.Yteohpkicbkhpjaa
