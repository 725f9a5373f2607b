/- The answers of the document itself for flow: the sum of products. -/
import Derived.Test.YtdaigbamgplboaaFlow1
import Derived.Deep.RegionHeld3
namespace Go.Proofs.Ytdaigbamgplboaa
open Go.RowKit
set_option linter.unusedVariables false

theorem weigh_cons (y m : Int) (ys ms : List Int) : IntKind.i64.wrap (IntKind.i64.wrap (y * m) + weighL ys ms) = weighL (y :: ys) (m :: ms) := by
  unfold weighL; rw [wrap_add]; rfl
theorem weigh_nil1 (m : List Int) : weighL [] m = 0 := by unfold weighL; rw [dotL]; rfl; simp
theorem weigh_nil2 (y : List Int) : weighL y [] = 0 := by unfold weighL; rw [dotL]; rfl; simp

set_option maxHeartbeats 1000000 in
theorem cweigh_any : ∀ (ys ms : List Int) (v u : Value) (w : World), Ints w v ys → Ints w u ms →
    Calls Try.prog 15 #[v, u] w fun e w' => e = .returned (.int .i64 (weighL ys ms)) ∧ Below w.heap.size w w' := by
  intro ys
  induction ys with
  | nil =>
    intro ms v u w hv hu
    obtain ⟨a, la, ca, rfl, hla, hma, hsa, hra⟩ := hv
    obtain ⟨b, lb, cb, rfl, hlb, hmb, hsb, hrb⟩ := hu
    simp only [List.length_nil] at hla
    subst hla
    have F : Hid _ := weigh_nil1 ms
    clear hra hrb
    go_enter Try.func15, Try.ntmps15
    go_wp2
    go_ret
    exact ⟨ret_int F.out.symm, Below.refl _ _⟩
  | cons y ys ih =>
    intro ms v u w hv hu
    have IH : Hid _ := ih
    clear ih
    obtain ⟨a, la, ca, rfl, hla, hma, hsa, hra⟩ := hv
    obtain ⟨b, lb, cb, rfl, hlb, hmb, hsb, hrb⟩ := hu
    simp only [List.length_cons] at hla
    have hla0 : ((la : Int) == 0) = false := by simp; omega
    cases ms with
    | nil =>
      simp only [List.length_nil] at hlb
      subst hlb
      have F : Hid _ := weigh_nil2 (y :: ys)
      clear hra hrb
      go_enter Try.func15, Try.ntmps15
      go_wp2
      go_ret
      exact ⟨ret_int F.out.symm, Below.refl _ _⟩
    | cons m ms =>
      simp only [List.length_cons] at hlb
      have hlb0 : ((lb : Int) == 0) = false := by simp; omega
      have F : Hid _ := weigh_cons y m ys ms
      obtain ⟨ba, oa, rfl, hba, hca⟩ := hra 0 (by simp)
      obtain ⟨bb, ob, rfl, hbb, hcb⟩ := hrb 0 (by simp)
      have hca' : w.cell? ⟨ba, oa, none⟩ = some (.int .i64 y) := by simpa [nth] using hca
      have hcb' : w.cell? ⟨bb, ob, none⟩ = some (.int .i64 m) := by simpa [nth] using hcb
      have p1 : (0 : Int) < (la : Int) := by omega
      have p2 : 0 < la := by omega
      have p3 : ¬ la = 0 := by omega
      have p4 : (1 : Int) ≤ (la : Int) := by omega
      have p5 : (la : Int) ≤ (ca : Int) := by have := hsa.1; omega
      have q1 : (0 : Int) < (lb : Int) := by omega
      have q2 : 0 < lb := by omega
      have q3 : ¬ lb = 0 := by omega
      have q4 : (1 : Int) ≤ (lb : Int) := by omega
      have q5 : (lb : Int) ≤ (cb : Int) := by have := hsb.1; omega
      have I1 := ints_tail (hra.drewN 1) hla hma hsa
      have I2 := ints_tail (hrb.drewN 1) hlb hmb hsb
      have hcap : 0 < ca := by have := hsa.1; omega
      have hcap2 : 0 < cb := by have := hsb.1; omega
      clear hra hrb hca hcb
      by_cases hc1 : ca = 1 <;> by_cases hc2 : cb = 1
      all_goals
        first | rw [if_pos hc1] at I1 | rw [if_neg hc1] at I1
        first | rw [if_pos hc2] at I2 | rw [if_neg hc2] at I2
        try subst hc1
        try subst hc2
      all_goals
        go_enter Try.func15, Try.ntmps15
        go_wp2
        go_region_held3 (fun w' => w'.cell? ⟨ba, oa, none⟩ = some (.int .i64 y) ∧ w'.cell? ⟨bb, ob, none⟩ = some (.int .i64 m))
          (go_keep)
          (first | (go_at_call 15; refine (IH.out ms _ _ _ ?_ ?_).mono ?_; exact I1; exact I2; rintro e w5 ⟨rfl, b5⟩; have k1 := (b5.cell (p := ⟨ba, oa, none⟩) hba).trans hca'; have k2 := (b5.cell (p := ⟨bb, ob, none⟩) hbb).trans hcb'))
        have R : Below w.heap.size w w5 := (below_drewN (Below.refl _ _) 1).trans b5
        clear k1 k2 b5 I1 I2
        go_wp2
        go_ret
        exact ⟨ret_int F.out, R⟩

end Go.Proofs.Ytdaigbamgplboaa
