/- The law MarkTells, walked: it answers true, and writes nothing that was there. -/
import Derived.Test.YtccehbbdebochaaMark4
namespace Go.Proofs.Ytccehbbdebochaa
open Go.RowKit
set_option linter.unusedVariables false

theorem acovers_b (v u : Value) (xs ys : List Int) (w : World) (hv : Ints w v xs) (hu : Ints w u ys) :
    Calls Try.prog 13 #[v, u] w fun e w' => e = .returned (.bool (coversL xs ys)) ∧ Below w.heap.size w w' :=
  (acovers_any v u xs ys w hv hu).mono fun _ _ h => ⟨h.1, below_of_drewN h.2⟩

theorem equal_b (v u : Value) (xs ys : List Int) (w : World) (hv : Ints w v xs) (hu : Ints w u ys) :
    Calls Try.prog 15 #[v, u] w fun e w' => e = .returned (.bool (xs == ys)) ∧ Below w.heap.size w w' :=
  (equal_any v u xs ys w hv hu).mono fun _ _ h => ⟨h.1, below_of_drewN h.2⟩

set_option maxHeartbeats 1000000 in
theorem markTells_walk (v u : Value) (xs ys : List Int) (w : World) (hv : Ints w v xs) (hu : Ints w u ys) :
    Calls Try.prog 3 #[v, u] w fun e w' => e = .returned (.bool true) ∧ Below w.heap.size w w' := by
  go_enter Try.func3, Try.ntmps3
  go_wp2_with fail
  refine (plus_any _ _ xs ys _ hv hu).mono ?_
  rintro e w1 ⟨r1, rfl, hr1, hb1⟩
  go_wp2_with fail
  refine (aplus_any _ _ xs ys _ (hv.below hb1) (hu.below hb1)).mono ?_
  rintro e w2 ⟨r2, rfl, hr2, hb2⟩
  have hc2 := below_then hb1 hb2
  have hr1 := hr1.below hb2
  clear hb1 hb2
  go_wp2_with fail
  refine (minus_any _ _ xs ys _ (hv.below hc2) (hu.below hc2)).mono ?_
  rintro e w3 ⟨r3, rfl, hr3, hb3⟩
  have hc3 := below_then hc2 hb3
  have hr1 := hr1.below hb3
  have hr2 := hr2.below hb3
  clear hb3 hc2
  go_wp2_with fail
  refine (aminus_any _ _ xs ys _ (hv.below hc3) (hu.below hc3)).mono ?_
  rintro e w4 ⟨r4, rfl, hr4, hb4⟩
  have hc4 := below_then hc3 hb4
  have hr1 := hr1.below hb4
  have hr2 := hr2.below hb4
  have hr3 := hr3.below hb4
  have hv := hv.below hc4
  have hu := hu.below hc4
  clear hb4 hc3
  go_wp2_with fail
  refine (right_any _ xs _ hv).mono ?_
  rintro e w' ⟨rfl, rfl⟩
  go_wp2_with fail
  refine (aright_any _ xs _ hv).mono ?_
  rintro e w' ⟨rfl, rfl⟩
  go_wp2_with fail
  refine (covers_any _ _ xs ys _ hv hu).mono ?_
  rintro e w' ⟨rfl, rfl⟩
  go_wp2_with fail
  refine (acovers_b _ _ xs ys _ hv hu).mono ?_
  rintro e w5 ⟨rfl, hb⟩
  have hv := hv.below hb
  have hu := hu.below hb
  have hr1 := hr1.below hb
  have hr2 := hr2.below hb
  have hr3 := hr3.below hb
  have hr4 := hr4.below hb
  have hc4 := below_then hc4 hb
  clear hb
  go_wp2_with fail
  refine (same_any _ _ xs ys _ hv hu).mono ?_
  rintro e w' ⟨rfl, rfl⟩
  go_wp2_with fail
  refine (acovers_b _ _ xs ys _ hv hu).mono ?_
  rintro e w6 ⟨rfl, hb⟩
  have hv := hv.below hb
  have hu := hu.below hb
  have hr1 := hr1.below hb
  have hr2 := hr2.below hb
  have hr3 := hr3.below hb
  have hr4 := hr4.below hb
  have hc4 := below_then hc4 hb
  clear hb
  cases hcv : coversL xs ys
  · go_wp2_with fail
    refine (equal_b _ _ _ _ _ hr1 hr2).mono ?_
    rintro e w7 ⟨rfl, hb⟩
    have hr3 := hr3.below hb
    have hr4 := hr4.below hb
    have hc4 := below_then hc4 hb
    clear hb
    go_wp2_with fail
    refine (equal_b _ _ _ _ _ hr3 hr4).mono ?_
    rintro e w8 ⟨rfl, hb⟩
    have hc4 := below_then hc4 hb
    clear hb
    go_wp2
    go_ret
    exact ⟨rfl, hc4⟩
  · go_wp2_with fail
    refine (acovers_b _ _ ys xs _ hu hv).mono ?_
    rintro e w9 ⟨rfl, hb⟩
    have hr1 := hr1.below hb
    have hr2 := hr2.below hb
    have hr3 := hr3.below hb
    have hr4 := hr4.below hb
    have hc4 := below_then hc4 hb
    clear hb
    go_wp2_with fail
    refine (equal_b _ _ _ _ _ hr1 hr2).mono ?_
    rintro e w7 ⟨rfl, hb⟩
    have hr3 := hr3.below hb
    have hr4 := hr4.below hb
    have hc4 := below_then hc4 hb
    clear hb
    go_wp2_with fail
    refine (equal_b _ _ _ _ _ hr3 hr4).mono ?_
    rintro e w8 ⟨rfl, hb⟩
    have hc4 := below_then hc4 hb
    clear hb
    go_wp2
    go_ret
    exact ⟨rfl, hc4⟩

end Go.Proofs.Ytccehbbdebochaa
