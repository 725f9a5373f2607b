/- The law MarkSums, walked: it answers true, and writes nothing that was there. -/
import Derived.Test.YtccehbbdebochaaMarks
import Derived.Test.YtccehbbdebochaaAlive1
namespace Go.Proofs.Ytccehbbdebochaa
open Go.RowKit
set_option linter.unusedVariables false

set_option maxHeartbeats 1000000 in
theorem markSums_walk (va vb vc : Value) (xs ys cs : List Int) (w : World) (ha : Ints w va xs) (hb : Ints w vb ys) (hc : Ints w vc cs) :
    Calls Try.prog 4 #[va, vb, vc] w fun e w' => e = .returned (.bool true) ∧ Below w.heap.size w w' := by
  go_enter Try.func4, Try.ntmps4
  go_wp2_with fail
  refine (alive1_any _).mono ?_
  rintro e w1 ⟨rfl, d1⟩
  have ha := ha.below d1
  have hb := hb.below d1
  have hc := hc.below d1
  go_wp2_with fail
  refine (plus_any _ _ xs ys _ ha hb).mono ?_
  rintro e w2 ⟨rx, rfl, hx, b⟩
  have d2 := below_then d1 b
  have ha := ha.below b
  have hb := hb.below b
  have hc := hc.below b
  clear d1 b
  go_wp2_with fail
  refine (plus_any _ _ ys xs _ hb ha).mono ?_
  rintro e w3 ⟨ry, rfl, hy, b⟩
  rw [plusL_comm] at hy
  have d3 := below_then d2 b
  have ha := ha.below b
  have hb := hb.below b
  have hc := hc.below b
  have hx := hx.below b
  clear d2 b
  rw [plusL_comm]
  have hs : (coversL (plusL xs ys).1 (plusL xs ys).1 && coversL (plusL xs ys).1 (plusL xs ys).1) = true := by rw [covers_self]; rfl
  rcases plusL_cases xs ys with ⟨e1, r1, r2, r3⟩ | ⟨c, e1, hne⟩
  · rw [e1] at hx hy hs
    simp only [e1]
    go_wp2_with fail
    refine (same_any _ _ _ _ _ hx hy).mono ?_
    rintro e w' ⟨rfl, rfl⟩
    rw [hs]
    clear hs e1
    obtain ⟨zz, e2, hsz⟩ := minus_sum r1 r2 r3
    have hcv := covers_sum (xs := xs) r2
    have has := fun cs => plus_assoc (cs := cs) r1 r2
    have Has : Hid (∀ cs, (plusL (zipL (fun x1 x2 => x1 + x2) xs ys) cs).2 = 0 → _) := has
    clear has
    generalize zipL (fun x1 x2 => x1 + x2) xs ys = z at *
    go_wp2_with fail
    refine (minus_any _ _ z ys _ hx hb).mono ?_
    rintro e w4 ⟨rz, rfl, hz, b⟩
    rw [e2] at hz
    simp only [e2]
    have d4 := below_then d3 b
    have ha := ha.below b
    have hb := hb.below b
    have hc := hc.below b
    have hx := hx.below b
    clear d3 b e2
    go_wp2_with fail
    refine (plus_any _ _ z cs _ hx hc).mono ?_
    rintro e w5 ⟨ru, rfl, hu, b⟩
    have d5 := below_then d4 b
    have ha := ha.below b
    have hb := hb.below b
    have hc := hc.below b
    have hx := hx.below b
    have hz := hz.below b
    clear d4 b
    go_wp2_with fail
    refine (plus_any _ _ ys cs _ hb hc).mono ?_
    rintro e w6 ⟨rv, rfl, hv, b⟩
    have d6 := below_then d5 b
    have ha := ha.below b
    have hx := hx.below b
    have hz := hz.below b
    have hu := hu.below b
    clear d5 b
    go_wp2_with fail
    refine (plus_any _ _ xs (plusL ys cs).1 _ ha hv).mono ?_
    rintro e w7 ⟨rw', rfl, hw, b⟩
    have d7 := below_then d6 b
    have ha := ha.below b
    have hx := hx.below b
    have hz := hz.below b
    have hu := hu.below b
    clear d6 b hv hb hc
    go_wp2_with fail
    refine (same_any _ _ zz xs _ hz ha).mono ?_
    rintro e w' ⟨rfl, rfl⟩
    rw [hsz]
    clear hsz
    by_cases h0 : (plusL z cs).2 = 0
    · obtain ⟨q1, q2, q3⟩ := Has.out cs h0
      rw [h0, q1, q2]
      go_wp2_with fail
      refine (same_any _ _ _ _ _ hu hw).mono ?_
      rintro e w' ⟨rfl, rfl⟩
      rw [q3]
      clear q1 q2 q3
      go_wp2_with fail
      refine (covers_any _ _ z xs _ hx ha).mono ?_
      rintro e w' ⟨rfl, rfl⟩
      rw [hcv]
      go_wp2
      go_ret
      exact ⟨rfl, d7⟩
    · have e5 : ((plusL z cs).2 != 0) = true := by simpa using h0
      go_wp2_with fail
      refine (covers_any _ _ z xs _ hx ha).mono ?_
      rintro e w' ⟨rfl, rfl⟩
      rw [hcv]
      go_wp2
      go_ret
      exact ⟨rfl, d7⟩
  · rw [e1] at hx hy hs
    simp only [e1]
    have n1 : (c != 0) = true := by simpa using hne
    have n2 : (c == 0) = false := by simpa using hne
    go_wp2_with fail
    refine (same_any _ _ _ _ _ hx hy).mono ?_
    rintro e w' ⟨rfl, rfl⟩
    rw [hs]
    obtain ⟨a, len, cap, rfl, hl, _, _⟩ := hx
    simp only [List.length_nil] at hl
    subst hl
    go_wp2
    go_ret
    exact ⟨rfl, d3⟩

end Go.Proofs.Ytccehbbdebochaa
