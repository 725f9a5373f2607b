/- The law MarkOrder, walked: it answers true, and writes nothing that was there. -/
import Derived.Test.YtccehbbdebochaaMarks
import Derived.Test.YtccehbbdebochaaAlive1
namespace Go.Proofs.Ytccehbbdebochaa
open Go.RowKit
set_option linter.unusedVariables false

set_option maxHeartbeats 2000000 in
theorem markOrder_walk (va vb vc : Value) (xs ys cs : List Int) (w : World) (ha : Ints w va xs) (hb : Ints w vb ys) (hc : Ints w vc cs) :
    Calls Try.prog 5 #[va, vb, vc] w fun e w' => e = .returned (.bool true) ∧ Below w.heap.size w w' := by
  go_enter Try.func5, Try.ntmps5
  go_wp2_with fail
  refine (alive1_any _).mono ?_
  rintro e w1 ⟨rfl, d⟩
  have ha := ha.below d
  have hb := hb.below d
  have hc := hc.below d
  go_wp2_with fail
  refine (right_any _ xs _ ha).mono ?_
  rintro e w' ⟨rfl, rfl⟩
  cases r1 : rightL xs
  · cases c1 : coversL xs ys
    · go_wp2_with fail
      refine (covers_any _ _ xs xs _ ha ha).mono ?_
      rintro e w' ⟨rfl, rfl⟩
      rw [covers_self]
      go_wp2_with fail
      refine (covers_any _ _ xs ys _ ha hb).mono ?_
      rintro e w' ⟨rfl, rfl⟩
      rw [c1]
      go_wp2_with fail
      refine (covers_any _ _ xs ys _ ha hb).mono ?_
      rintro e w' ⟨rfl, rfl⟩
      rw [c1]
      go_wp2_with fail
      refine (same_any _ _ xs ys _ ha hb).mono ?_
      rintro e w' ⟨rfl, rfl⟩
      rw [c1]
      rw [Bool.false_and]
      go_wp2
      go_ret
      exact ⟨rfl, d⟩
    · go_wp2_with fail
      refine (covers_any _ _ xs xs _ ha ha).mono ?_
      rintro e w' ⟨rfl, rfl⟩
      rw [covers_self]
      go_wp2_with fail
      refine (covers_any _ _ xs ys _ ha hb).mono ?_
      rintro e w' ⟨rfl, rfl⟩
      rw [c1]
      go_wp2_with fail
      refine (covers_any _ _ ys cs _ hb hc).mono ?_
      rintro e w' ⟨rfl, rfl⟩
      cases c2 : coversL ys cs
      · go_wp2_with fail
        refine (covers_any _ _ xs ys _ ha hb).mono ?_
        rintro e w' ⟨rfl, rfl⟩
        rw [c1]
        go_wp2_with fail
        refine (covers_any _ _ ys xs _ hb ha).mono ?_
        rintro e w' ⟨rfl, rfl⟩
        go_wp2_with fail
        refine (same_any _ _ xs ys _ ha hb).mono ?_
        rintro e w' ⟨rfl, rfl⟩
        rw [c1]
        rw [Bool.true_and]
        go_wp2
        go_ret
        exact ⟨rfl, d⟩
      · go_wp2_with fail
        refine (covers_any _ _ xs cs _ ha hc).mono ?_
        rintro e w' ⟨rfl, rfl⟩
        rw [covers_trans c1 c2]
        go_wp2_with fail
        refine (covers_any _ _ xs ys _ ha hb).mono ?_
        rintro e w' ⟨rfl, rfl⟩
        rw [c1]
        go_wp2_with fail
        refine (covers_any _ _ ys xs _ hb ha).mono ?_
        rintro e w' ⟨rfl, rfl⟩
        go_wp2_with fail
        refine (same_any _ _ xs ys _ ha hb).mono ?_
        rintro e w' ⟨rfl, rfl⟩
        rw [c1]
        rw [Bool.true_and]
        go_wp2
        go_ret
        exact ⟨rfl, d⟩
  · go_wp2_with fail
    refine (right_any _ ys _ hb).mono ?_
    rintro e w' ⟨rfl, rfl⟩
    cases r2 : rightL ys
    · cases c1 : coversL xs ys
      · go_wp2_with fail
        refine (covers_any _ _ xs xs _ ha ha).mono ?_
        rintro e w' ⟨rfl, rfl⟩
        rw [covers_self]
        go_wp2_with fail
        refine (covers_any _ _ xs ys _ ha hb).mono ?_
        rintro e w' ⟨rfl, rfl⟩
        rw [c1]
        go_wp2_with fail
        refine (covers_any _ _ xs ys _ ha hb).mono ?_
        rintro e w' ⟨rfl, rfl⟩
        rw [c1]
        go_wp2_with fail
        refine (same_any _ _ xs ys _ ha hb).mono ?_
        rintro e w' ⟨rfl, rfl⟩
        rw [c1]
        rw [Bool.false_and]
        go_wp2
        go_ret
        exact ⟨rfl, d⟩
      · go_wp2_with fail
        refine (covers_any _ _ xs xs _ ha ha).mono ?_
        rintro e w' ⟨rfl, rfl⟩
        rw [covers_self]
        go_wp2_with fail
        refine (covers_any _ _ xs ys _ ha hb).mono ?_
        rintro e w' ⟨rfl, rfl⟩
        rw [c1]
        go_wp2_with fail
        refine (covers_any _ _ ys cs _ hb hc).mono ?_
        rintro e w' ⟨rfl, rfl⟩
        cases c2 : coversL ys cs
        · go_wp2_with fail
          refine (covers_any _ _ xs ys _ ha hb).mono ?_
          rintro e w' ⟨rfl, rfl⟩
          rw [c1]
          go_wp2_with fail
          refine (covers_any _ _ ys xs _ hb ha).mono ?_
          rintro e w' ⟨rfl, rfl⟩
          go_wp2_with fail
          refine (same_any _ _ xs ys _ ha hb).mono ?_
          rintro e w' ⟨rfl, rfl⟩
          rw [c1]
          rw [Bool.true_and]
          go_wp2
          go_ret
          exact ⟨rfl, d⟩
        · go_wp2_with fail
          refine (covers_any _ _ xs cs _ ha hc).mono ?_
          rintro e w' ⟨rfl, rfl⟩
          rw [covers_trans c1 c2]
          go_wp2_with fail
          refine (covers_any _ _ xs ys _ ha hb).mono ?_
          rintro e w' ⟨rfl, rfl⟩
          rw [c1]
          go_wp2_with fail
          refine (covers_any _ _ ys xs _ hb ha).mono ?_
          rintro e w' ⟨rfl, rfl⟩
          go_wp2_with fail
          refine (same_any _ _ xs ys _ ha hb).mono ?_
          rintro e w' ⟨rfl, rfl⟩
          rw [c1]
          rw [Bool.true_and]
          go_wp2
          go_ret
          exact ⟨rfl, d⟩
    · cases c1 : coversL xs ys
      · go_wp2_with fail
        refine (minus_any _ _ xs ys _ ha hb).mono ?_
        rintro e w2 ⟨rx, rfl, hx, b⟩
        have ha := ha.below b
        have hb := hb.below b
        have hc := hc.below b
        have d := below_then d b
        clear b
        have e1 := minusL_none r1 r2 c1
        rw [e1] at hx
        simp only [e1]
        clear e1
        go_wp2_with fail
        refine (covers_any _ _ xs ys _ ha hb).mono ?_
        rintro e w' ⟨rfl, rfl⟩
        rw [c1]
        go_wp2_with fail
        refine (plus_any _ _ [] ys _ hx hb).mono ?_
        rintro e w3 ⟨ry, rfl, hy, b⟩
        have ha := ha.below b
        have hb := hb.below b
        have hc := hc.below b
        have d := below_then d b
        clear b
        go_wp2_with fail
        refine (covers_any _ _ xs xs _ ha ha).mono ?_
        rintro e w' ⟨rfl, rfl⟩
        rw [covers_self]
        go_wp2_with fail
        refine (covers_any _ _ xs ys _ ha hb).mono ?_
        rintro e w' ⟨rfl, rfl⟩
        rw [c1]
        go_wp2_with fail
        refine (covers_any _ _ xs ys _ ha hb).mono ?_
        rintro e w' ⟨rfl, rfl⟩
        rw [c1]
        go_wp2_with fail
        refine (same_any _ _ xs ys _ ha hb).mono ?_
        rintro e w' ⟨rfl, rfl⟩
        rw [c1]
        rw [Bool.false_and]
        go_wp2
        go_ret
        exact ⟨rfl, d⟩
      · go_wp2_with fail
        refine (minus_any _ _ xs ys _ ha hb).mono ?_
        rintro e w2 ⟨rx, rfl, hx, b⟩
        have ha := ha.below b
        have hb := hb.below b
        have hc := hc.below b
        have d := below_then d b
        clear b
        have e1 := minusL_ok r1 r2 c1
        rw [e1] at hx
        simp only [e1]
        clear e1
        obtain ⟨zz, e2, hsz⟩ := plus_less r1 r2 c1
        go_wp2_with fail
        refine (covers_any _ _ xs ys _ ha hb).mono ?_
        rintro e w' ⟨rfl, rfl⟩
        rw [c1]
        go_wp2_with fail
        refine (plus_any _ _ _ ys _ hx hb).mono ?_
        rintro e w3 ⟨ry, rfl, hy, b⟩
        have ha := ha.below b
        have hb := hb.below b
        have hc := hc.below b
        have d := below_then d b
        clear b
        rw [e2] at hy
        simp only [e2]
        clear e2
        go_wp2_with fail
        refine (same_any _ _ _ _ _ hy ha).mono ?_
        rintro e w' ⟨rfl, rfl⟩
        rw [hsz]
        go_wp2_with fail
        refine (covers_any _ _ xs xs _ ha ha).mono ?_
        rintro e w' ⟨rfl, rfl⟩
        rw [covers_self]
        go_wp2_with fail
        refine (covers_any _ _ xs ys _ ha hb).mono ?_
        rintro e w' ⟨rfl, rfl⟩
        rw [c1]
        go_wp2_with fail
        refine (covers_any _ _ ys cs _ hb hc).mono ?_
        rintro e w' ⟨rfl, rfl⟩
        cases c2 : coversL ys cs
        · go_wp2_with fail
          refine (covers_any _ _ xs ys _ ha hb).mono ?_
          rintro e w' ⟨rfl, rfl⟩
          rw [c1]
          go_wp2_with fail
          refine (covers_any _ _ ys xs _ hb ha).mono ?_
          rintro e w' ⟨rfl, rfl⟩
          go_wp2_with fail
          refine (same_any _ _ xs ys _ ha hb).mono ?_
          rintro e w' ⟨rfl, rfl⟩
          rw [c1]
          rw [Bool.true_and]
          go_wp2
          go_ret
          exact ⟨rfl, d⟩
        · go_wp2_with fail
          refine (covers_any _ _ xs cs _ ha hc).mono ?_
          rintro e w' ⟨rfl, rfl⟩
          rw [covers_trans c1 c2]
          go_wp2_with fail
          refine (covers_any _ _ xs ys _ ha hb).mono ?_
          rintro e w' ⟨rfl, rfl⟩
          rw [c1]
          go_wp2_with fail
          refine (covers_any _ _ ys xs _ hb ha).mono ?_
          rintro e w' ⟨rfl, rfl⟩
          go_wp2_with fail
          refine (same_any _ _ xs ys _ ha hb).mono ?_
          rintro e w' ⟨rfl, rfl⟩
          rw [c1]
          rw [Bool.true_and]
          go_wp2
          go_ret
          exact ⟨rfl, d⟩

end Go.Proofs.Ytccehbbdebochaa
