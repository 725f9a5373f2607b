/- TracksSum: union. -/
import Derived.Test.YtlknegihhcdhbaaGr07
import Derived.Test.YtlknegihhcdhbaaGr03
import Derived.Test.YtlknegihhcdhbaaGr04
import Derived.Test.YtlknegihhcdhbaaGr16
namespace Go.Proofs.Ytlknegihhcdhbaa
open Go.RowKit
set_option linter.unusedVariables false
set_option linter.unusedSimpArgs false
set_option maxRecDepth 4000

set_option maxHeartbeats 1000000 in
theorem union_any (v u : Value) (a b : List Int) (w : World) (hv : Ints w v a) (hu : Ints w u b) (hl : a.length + b.length ≤ 1000000) :
    Calls Try.prog 22 #[v, u] w fun e w' => ∃ r ys, e = .returned r ∧ Ints w' r ys ∧ ys.Pairwise (· < ·) ∧ (∀ t, t ∈ ys ↔ t ∈ a ∨ t ∈ b) ∧ Below w.heap.size w w' := by
  obtain ⟨va, vc, rfl⟩ := ints_slice hv
  obtain ⟨ua, uc, rfl⟩ := ints_slice hu
  have hlit := lists_lit2 w w.heap.size _ _ a b 23 hv hu rfl
  have hn := below_new w (.cells #[.slice va a.length vc, .slice ua b.length uc] 23)
  have HF : Hid ([a, b].flatten = a ++ b) := by show _ = _; simp
  have HL : Hid ((a ++ b).length ≤ 1000000) := by show _ ≤ _; rw [List.length_append]; exact hl
  have HM : Hid (∀ t, t ∈ a ++ b ↔ t ∈ a ∨ t ∈ b) := fun t => List.mem_append
  clear hv hu hl
  obtain ⟨la, Hla⟩ : ∃ n, Hid (a.length = n) := ⟨_, rfl⟩
  obtain ⟨lb, Hlb⟩ : ∃ n, Hid (b.length = n) := ⟨_, rfl⟩
  rw [Hla.out, Hlb.out] at hlit hn
  rw [Hla.out, Hlb.out]
  obtain ⟨w0, H0⟩ : ∃ u, Hid (w.alloc (.cells #[.slice va la vc, .slice ua lb uc] 23) = u) := ⟨_, rfl⟩
  rw [H0.out] at hlit hn
  have HW : Hid (Below w.heap.size w w0) := hn
  go_enter Try.func22, Try.ntmps22
  go_wp2_with fail
  rw [H0.out]
  refine (concat_own _ [a, b] _ (by exact hlit) (by rw [HF.out]; have := HL.out; omega)).mono ?_
  rintro e w1 ⟨r, rfl, hO⟩
  rw [HF.out] at hO
  go_wp2_with fail
  refine (sort_own _ _ _ _ _ hO (by have := HL.out; omega)).mono ?_
  rintro e w2 ⟨rfl, hO2⟩
  have hlen : ((a ++ b).mergeSort fun x y => decide (x ≤ y)).length ≤ 17592186044416 := by rw [List.length_mergeSort]; have := HL.out; omega
  have hsrt : ((a ++ b).mergeSort fun x y => decide (x ≤ y)).Pairwise (· ≤ ·) := by
    have := List.pairwise_mergeSort (le := fun x y : Int => decide (x ≤ y)) (by intro x y z h1 h2; simp only [decide_eq_true_eq] at *; omega) (by intro x y; simp only [Bool.or_eq_true, decide_eq_true_eq]; omega) (a ++ b)
    exact this.imp (fun h => by simpa using h)
  have HS : Hid (∀ t, t ∈ ((a ++ b).mergeSort fun x y => decide (x ≤ y)) ↔ t ∈ a ∨ t ∈ b) := fun t => by rw [List.mem_mergeSort]; exact HM.out t
  generalize ((a ++ b).mergeSort fun x y => decide (x ≤ y)) = zs at hO2 hlen hsrt HS
  go_wp2_with fail
  refine (compact_own _ _ _ _ zs hO2 hsrt hlen).mono ?_
  rintro e w3 ⟨r3, ys, rfl, hY, hp, hm, b3⟩
  have HX : Hid (∀ t, t ∈ ys ↔ t ∈ a ∨ t ∈ b) := fun t => by rw [hm]; exact HS.out t
  clear hm
  go_wp2
  go_ret
  exact ⟨_, ys, rfl, hY, hp, HX.out, below_then HW.out b3⟩

end Go.Proofs.Ytlknegihhcdhbaa
