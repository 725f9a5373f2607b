/- The small trial of package siphon that the laws make first: it answers true. -/
import Derived.Test.YtnklepfommakpaaSiphDev
import Derived.Test.YtnklepfommakpaaLits2
namespace Go.Proofs.Ytnklepfommakpaa
open Go.RowKit
set_option linter.unusedVariables false

def net6 : NetL := ⟨3, [⟨0, [1, 0, 0], [0, 1, 0]⟩, ⟨0, [0, 1, 0], [0, 0, 1]⟩]⟩
theorem net6_a : siphL net6 [0] = true := by rfl
theorem net6_b : siphL net6 [1] = false := by rfl
theorem net6_c : trapL net6 [2] = true := by rfl
theorem net6_d : trapL net6 [0] = false := by rfl
theorem net6_e : mostL net6 [0, 2] = [0] := by rfl
theorem net6_f : mostL (turnL net6) [0, 2] = [2] := by rfl

set_option maxHeartbeats 2000000 in
theorem alive6_any (w : World) :
    Calls Try.prog 17 #[] w fun e w' => e = .returned (.bool true) ∧ Below w.heap.size w w' := by
  obtain ⟨hT, hb, hs⟩ := lit_trans w _ 3 [1, 0, 0] [0, 1, 0] [0, 1, 0] [0, 0, 1] 0 0 rfl rfl rfl rfl (by omega) rfl
  go_enter Try.func17, Try.ntmps17
  go_upto_region 1 with fail
  go_cut [1] (fun p wc => ∃ b tv, p = .pointer (some ⟨b, 0, none⟩) ∧ Box2 wc b (.int .i64 3) tv ∧ Net wc (.agg #[.int .i64 3, tv]) net6 ∧ Below w.heap.size w wc)
  case first =>
    have HT : Hid _ := hT
    have HB : Hid _ := hb
    have HS : Hid _ := hs
    clear hT hb hs
    go_wp2_with fail
    go_meet
    exact lit_box w _ net6 HT.out HB.out HS.out
  case rest =>
    clear hT hb hs
    obtain ⟨bk, tv, rfl, hbx, hv, c⟩ := hcut
    obtain ⟨w0, rfl⟩ : ∃ w0, w0 = wc := ⟨_, rfl⟩
    obtain ⟨x0, x1, x2⟩ := id hbx
    have b1 := below_new w0 (.cells #[.int .i64 0] 3)
    go_wp2_with fail
    refine (siphon_siphon _ _ net6 [0] _ (by exact hv.below b1) (by exact ints_lit w0 _ [0] 3 1 rfl (by omega) rfl)).mono ?_
    rintro e w1 ⟨rfl, b⟩
    rw [net6_a]
    replace b := below_then b1 b
    replace hv := hv.below b
    replace hbx := hbx.below b
    replace c := below_then c b
    clear b b1 x0 x1 x2
    obtain ⟨x0, x1, x2⟩ := id hbx
    have b1 := below_new w1 (.cells #[.int .i64 1] 3)
    go_wp2_with fail
    refine (siphon_siphon _ _ net6 [1] _ (by exact hv.below b1) (by exact ints_lit w1 _ [1] 3 1 rfl (by omega) rfl)).mono ?_
    rintro e w2 ⟨rfl, b⟩
    rw [net6_b]
    replace b := below_then b1 b
    replace hv := hv.below b
    replace hbx := hbx.below b
    replace c := below_then c b
    clear b b1 x0 x1 x2
    obtain ⟨x0, x1, x2⟩ := id hbx
    have b1 := below_new w2 (.cells #[.int .i64 2] 3)
    go_wp2_with fail
    refine (siphon_trap _ _ net6 [2] _ (by exact hv.below b1) (by exact ints_lit w2 _ [2] 3 1 rfl (by omega) rfl)).mono ?_
    rintro e w3 ⟨rfl, b⟩
    rw [net6_c]
    replace b := below_then b1 b
    replace hv := hv.below b
    replace hbx := hbx.below b
    replace c := below_then c b
    clear b b1 x0 x1 x2
    obtain ⟨x0, x1, x2⟩ := id hbx
    have b1 := below_new w3 (.cells #[.int .i64 0] 3)
    go_wp2_with fail
    refine (siphon_trap _ _ net6 [0] _ (by exact hv.below b1) (by exact ints_lit w3 _ [0] 3 1 rfl (by omega) rfl)).mono ?_
    rintro e w4 ⟨rfl, b⟩
    rw [net6_d]
    replace b := below_then b1 b
    replace hv := hv.below b
    replace hbx := hbx.below b
    replace c := below_then c b
    clear b b1 x0 x1 x2
    obtain ⟨x0, x1, x2⟩ := id hbx
    have b1 := below_new w4 (.cells #[.int .i64 0, .int .i64 2] 3)
    go_wp2_with fail
    refine (siphon_most _ _ net6 [0, 2] _ (by exact hv.below b1) (by exact ints_lit w4 _ [0, 2] 3 2 rfl (by omega) rfl)).mono ?_
    rintro e w5 ⟨r5, rfl, hr5, b⟩
    rw [net6_e] at hr5
    replace b := below_then b1 b
    replace hv := hv.below b
    replace hbx := hbx.below b
    replace c := below_then c b
    clear b b1 x0 x1 x2
    have b1 := below_new w5 (.cells #[.int .i64 0] 3)
    go_wp2_with fail
    refine (equal_b _ _ [0] [0] _ (by exact hr5.below b1) (by exact ints_lit w5 _ [0] 3 1 rfl (by omega) rfl)).mono ?_
    rintro e w6 ⟨rfl, b⟩
    rw [show (([0] : List Int) == [0]) = true from rfl]
    replace b := below_then b1 b
    replace hv := hv.below b
    replace hbx := hbx.below b
    replace c := below_then c b
    clear b b1 hr5
    obtain ⟨x0, x1, x2⟩ := id hbx
    have b1 := below_new w6 (.cells #[.int .i64 0, .int .i64 2] 3)
    go_wp2_with fail
    refine (siphon_mosttrap _ _ net6 [0, 2] _ (by exact hv.below b1) (by exact ints_lit w6 _ [0, 2] 3 2 rfl (by omega) rfl)).mono ?_
    rintro e w7 ⟨r7, rfl, hr7, b⟩
    rw [net6_f] at hr7
    replace b := below_then b1 b
    replace c := below_then c b
    clear b b1 x0 x1 x2
    have b1 := below_new w7 (.cells #[.int .i64 2] 3)
    go_wp2_with fail
    refine (equal_b _ _ [2] [2] _ (by exact hr7.below b1) (by exact ints_lit w7 _ [2] 3 1 rfl (by omega) rfl)).mono ?_
    rintro e w8 ⟨rfl, b⟩
    rw [show (([2] : List Int) == [2]) = true from rfl]
    replace c := below_then c (below_then b1 b)
    go_wp2
    go_ret
    exact ⟨rfl, c⟩

end Go.Proofs.Ytnklepfommakpaa
