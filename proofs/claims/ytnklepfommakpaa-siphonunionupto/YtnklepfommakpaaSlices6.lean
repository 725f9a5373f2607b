/- slices.IsSorted of a list of numbers that rises. -/
import Derived.Test.YtnklepfommakpaaOwn
import Derived.Deep.QuietTactic
namespace Go.Proofs.Ytnklepfommakpaa
open Go.RowKit
set_option linter.unusedVariables false

theorem isnan_any (x : Int) (w : World) : Calls Try.prog 62 #[.int .i64 x] w fun e w' => e = .returned (.bool false) ∧ w' = w := by
  go_enter Try.func62, Try.ntmps62
  go_wp2
  go_ret
  exact ⟨by simp, rfl⟩

set_option maxHeartbeats 400000 in
theorem less_any (x y : Int) (w : World) : Calls Try.prog 48 #[.int .i64 x, .int .i64 y] w fun e w' => e = .returned (.bool (decide (x < y))) ∧ w' = w := by
  go_enter Try.func48, Try.ntmps48
  go_wp2_with fail
  refine (isnan_any x w).mono ?_
  rintro e w' ⟨rfl, rfl⟩
  go_wp2
  go_ret
  exact ⟨by simp, rfl⟩

theorem sorted_nth {xs : List Int} (h : xs.Pairwise (· < ·)) {i : Nat} (hi : i + 1 < xs.length) : nth xs i < nth xs (i + 1) := by
  rw [List.pairwise_iff_getElem] at h
  have := h i (i + 1) (by omega) hi (by omega)
  simpa [nth, List.getD, List.getElem?_eq_getElem hi, List.getElem?_eq_getElem (show i < xs.length by omega)] using this

set_option maxHeartbeats 1000000 in
theorem issorted_any (v : Value) (xs : List Int) (w : World) (hv : Ints w v xs) (hs : xs.Pairwise (· < ·)) :
    Calls Try.prog 24 #[v] w fun e w' => e = .returned (.bool true) ∧ Below w.heap.size w w' := by
  obtain ⟨a, len, cap, rfl, hlen, hmx, hsh, hr⟩ := hv
  have HS : Hid (∀ i, i + 1 < len → nth xs i < nth xs (i + 1)) := fun i hi => sorted_nth hs (by omega)
  clear hs
  go_enter Try.func24, Try.ntmps24
  go_wp2_with fail
  go_loopg [3] len (fun g i wr => ∃ z : Int, i = .int .i64 z ∧ z + 1 ≤ g ∧ z < len ∧ -1 ≤ z ∧ Below w.heap.size w wr)
  case atStart => exact ⟨(len : Int) - 1, rfl, by omega, by omega, by omega, Below.refl _ _⟩
  case round =>
    obtain ⟨z, rfl, hzg, hzl, hz1, hb⟩ := hrel
    by_cases hz0 : 0 < z
    · obtain ⟨i, rfl⟩ : ∃ i : Nat, z = (i : Int) + 1 := ⟨(z - 1).toNat, by omega⟩
      obtain ⟨b1, o1, rfl, hb1, c0⟩ := (hr.below hb) (i + 1) (by omega)
      obtain ⟨b2, o2, e, hb2, c1⟩ := (hr.below hb) i (by omega)
      injection e with e
      injection e with e1 e2
      subst e1 e2
      have hlt := HS.out i (by omega)
      generalize nth xs (i + 1) = x at *
      generalize nth xs i = y at *
      have hnl : ¬ x < y := by omega
      go_wp2_with fail
      go_quiet ((go_at_call 48; exact Calls.quiet_of_same (less_any _ _ _)))
      have R := below_drewN hb nq
      clear c0 c1 hb1 hb2
      go_wp2
      go_roundg (gk - 1)
      case measure => omega
      case rel => exact ⟨(i : Int), by go_num, by omega, by omega, by omega, R⟩
    · go_wp2
      go_ret
      exact ⟨rfl, hb⟩

end Go.Proofs.Ytnklepfommakpaa
