/- slices.Max of a list of numbers. -/
import Derived.Test.YtlejaeecfeiajaaOwn
namespace Go.Proofs.Ytlejaeecfeiajaa
open Go.RowKit
set_option linter.unusedVariables false
set_option maxRecDepth 4000

/-- The greatest of the first k. -/
def maxTo (xs : List Int) : Nat → Int
  | 0 => nth xs 0
  | k + 1 => max (maxTo xs k) (nth xs (k + 1))
def maxL (xs : List Int) : Int := maxTo xs (xs.length - 1)
theorem maxTo_ge (xs : List Int) : ∀ k j, j ≤ k → nth xs j ≤ maxTo xs k
  | 0, j, h => by have : j = 0 := by omega
                  subst this; exact Int.le_refl _
  | k + 1, j, h => by
    rw [maxTo]
    by_cases e : j = k + 1
    · subst e; omega
    · have := maxTo_ge xs k j (by omega); omega

set_option maxHeartbeats 1000000 in
theorem max_any (v : Value) (xs : List Int) (w : World) (hv : Ints w v xs) (hne : 0 < xs.length) :
    Calls Try.prog 42 #[v] w fun e w' => e = .returned (.int .i64 (maxL xs)) ∧ w' = w := by
  obtain ⟨a, len, cap, rfl, hlen, hmx, hsh, hr⟩ := hv
  obtain ⟨b, off, rfl, hb, hc0⟩ := hr 0 hne
  have hl1 : 0 < len := by omega
  have HA : Hid (maxTo xs (len - 1) = maxL xs) := by show _ = _; rw [maxL, hlen]
  have Hs : Hid (∀ k, maxTo xs (k + 1) = max (maxTo xs k) (nth xs (k + 1))) := fun k => rfl
  have hc0' : w.cell? ⟨b, off, none⟩ = some (.int .i64 (nth xs 0)) := hc0
  clear hc0
  go_enter Try.func42, Try.ntmps42
  go_wp2_with fail
  go_loop [3, 4] (fun o i => ∃ j : Nat, 1 ≤ j ∧ j ≤ len ∧ i = .int .i64 j ∧ o = .int .i64 (maxTo xs (j - 1))) (fun _ i => len - (intOf i).toNat)
  case atStart => exact ⟨1, by omega, by omega, rfl, rfl⟩
  case round =>
    obtain ⟨j, hj1, hj, rfl, rfl⟩ := hrel
    by_cases hjn : j < len
    · obtain ⟨b', off', e, hb', hc⟩ := hr j (by omega)
      injection e with e
      injection e with e1 e2
      subst e1 e2
      have F : Hid (maxTo xs j = max (maxTo xs (j - 1)) (nth xs j)) := by
        show _ = _
        have := Hs.out (j - 1)
        rw [show j - 1 + 1 = j by omega] at this
        exact this
      clear hr
      obtain ⟨d, Hd⟩ : ∃ d, Hid (maxTo xs (j - 1) = d) := ⟨_, rfl⟩
      rw [Hd.out] at F ⊢
      rcases Int.lt_trichotomy d (nth xs j) with q | q | q
      · have G : Hid (maxTo xs (j + 1 - 1) = nth xs j) := by show _ = _; rw [Nat.add_sub_cancel, F.out]; omega
        go_wp2
        go_round
        case rel => exact ⟨j + 1, by omega, by omega, by go_num, by rw [G.out]⟩
        case measure => simp [intOf]; omega
      · have G : Hid (maxTo xs (j + 1 - 1) = d) := by show _ = _; rw [Nat.add_sub_cancel, F.out]; omega
        rw [← q] at hc
        clear q
        go_wp2
        go_round
        case rel => exact ⟨j + 1, by omega, by omega, by go_num, by rw [G.out]⟩
        case measure => simp [intOf]; omega
      · have G : Hid (maxTo xs (j + 1 - 1) = d) := by show _ = _; rw [Nat.add_sub_cancel, F.out]; omega
        go_wp2
        go_round
        case rel => exact ⟨j + 1, by omega, by omega, by go_num, by rw [G.out]⟩
        case measure => simp [intOf]; omega
    · have ej : j = len := by omega
      have F : Hid (maxTo xs (j - 1) = maxL xs) := by show _ = _; rw [ej]; exact HA.out
      rw [F.out]
      go_wp2
      go_ret
      exact ⟨rfl, rfl⟩

theorem maxTo_at (xs : List Int) : ∀ k, ∃ j, j ≤ k ∧ maxTo xs k = nth xs j
  | 0 => ⟨0, Nat.le_refl _, rfl⟩
  | k + 1 => by
    obtain ⟨j, h1, h2⟩ := maxTo_at xs k
    rw [maxTo]
    rcases Int.le_total (maxTo xs k) (nth xs (k + 1)) with q | q
    · exact ⟨k + 1, Nat.le_refl _, by omega⟩
    · exact ⟨j, by omega, by omega⟩
theorem maxL_ge {xs : List Int} {j : Nat} (hj : j < xs.length) : nth xs j ≤ maxL xs := maxTo_ge xs _ j (by omega)
theorem maxL_at {xs : List Int} (h : 0 < xs.length) : ∃ j, j < xs.length ∧ maxL xs = nth xs j := by
  obtain ⟨j, h1, h2⟩ := maxTo_at xs (xs.length - 1)
  exact ⟨j, by omega, h2⟩

end Go.Proofs.Ytlejaeecfeiajaa
