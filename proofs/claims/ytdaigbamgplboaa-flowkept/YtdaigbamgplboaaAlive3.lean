/- The small trial of package flow that the laws make first: it answers true. -/
import Derived.Test.YtdaigbamgplboaaFlowDev
import Derived.Test.YtdaigbamgplboaaAlive2
namespace Go.Proofs.Ytdaigbamgplboaa
open Go.RowKit
set_option linter.unusedVariables false

theorem net2_effect : effectL net2 [2, 1] = ([-1, 3], 0) := by decide
theorem net2_count : countL net2 [1, 0, 1, 9] = [1, 2] := by decide
theorem net2_kept1 : keptL net2 [1, 1] = false := by decide
theorem net2_kept2 : keptL net2 [0, 0] = true := by decide
theorem weigh_23 : weighL [2, 3] [4, 5] = 23 := by decide

set_option maxHeartbeats 1000000 in
theorem alive3_any (w : World) :
    Calls Try.prog 19 #[] w fun e w' => e = .returned (.bool true) ∧ Below w.heap.size w w' := by
  obtain ⟨hT, hb, hs⟩ := lit_net2 w _ rfl
  go_enter Try.func19, Try.ntmps19
  go_upto_region 1 with fail
  go_cut [1] (fun p wc => ∃ b tv, p = .pointer (some ⟨b, 0, none⟩) ∧ Box2 wc b (.int .i64 2) tv ∧ Net wc (.agg #[.int .i64 2, tv]) net2 ∧ Below w.heap.size w wc)
  case first =>
    have HT : Hid _ := hT
    have HB : Hid _ := hb
    have HS : Hid _ := hs
    clear hT hb hs
    go_wp2_with fail
    go_meet
    exact lit_net2b w _ HT.out HB.out HS.out
  case rest =>
    clear hT hb hs
    obtain ⟨bk, tv, rfl, hbx, hv, c⟩ := hcut
    obtain ⟨w0, rfl⟩ : ∃ w0, w0 = wc := ⟨_, rfl⟩
    obtain ⟨x0, x1, x2⟩ := id hbx
    have b1 := below_new w0 (.cells #[.int .i64 2, .int .i64 1] 3)
    go_wp2_with fail
    refine (flow_effect _ _ net2 [2, 1] _ (by exact hv.below b1) (by exact ints_lit w0 _ [2, 1] 3 2 rfl (by omega) rfl)).mono ?_
    rintro e w1 ⟨r1, rfl, hr1, b⟩
    rw [net2_effect] at hr1
    simp only [net2_effect]
    replace b := below_then b1 b
    replace hv := hv.below b
    replace hbx := hbx.below b
    replace c := below_then c b
    clear b b1 x0 x1 x2
    obtain ⟨x0, x1, x2⟩ := id hbx
    have b1 := below_new w1 (.cells #[.int .i64 (-1), .int .i64 3] 3)
    go_wp2_with fail
    refine (equal_b _ _ [-1, 3] [-1, 3] _ (by exact hr1.below b1) (by exact ints_lit w1 _ [-1, 3] 3 2 rfl (by omega) rfl)).mono ?_
    rintro e w4 ⟨rfl, b⟩
    replace b := below_then b1 b
    replace hv := hv.below b
    replace hbx := hbx.below b
    replace c := below_then c b
    clear b b1 x0 x1 x2 hr1
    obtain ⟨x0, x1, x2⟩ := id hbx
    have b1 := below_new w4 (.cells #[.int .i64 1, .int .i64 0, .int .i64 1, .int .i64 9] 3)
    go_wp2_with fail
    refine (flow_count _ _ net2 [1, 0, 1, 9] _ (by exact hv.below b1) (by exact ints_lit w4 _ [1, 0, 1, 9] 3 4 rfl (by omega) rfl)).mono ?_
    rintro e w5 ⟨r5, rfl, hr5, b⟩
    rw [net2_count] at hr5
    replace b := below_then b1 b
    replace hv := hv.below b
    replace hbx := hbx.below b
    replace c := below_then c b
    clear b b1 x0 x1 x2
    have b1 := below_new w5 (.cells #[.int .i64 1, .int .i64 2] 3)
    go_wp2_with fail
    refine (equal_b _ _ [1, 2] [1, 2] _ (by exact hr5.below b1) (by exact ints_lit w5 _ [1, 2] 3 2 rfl (by omega) rfl)).mono ?_
    rintro e w6 ⟨rfl, b⟩
    replace b := below_then b1 b
    replace hv := hv.below b
    replace hbx := hbx.below b
    replace c := below_then c b
    clear b b1 hr5
    obtain ⟨x0, x1, x2⟩ := id hbx
    have b1 := below_new w6 (.cells #[.int .i64 1, .int .i64 1] 3)
    go_wp2_with fail
    refine (flow_kept _ _ net2 [1, 1] _ (by exact hv.below b1) (by exact ints_lit w6 _ [1, 1] 3 2 rfl (by omega) rfl)).mono ?_
    rintro e w7 ⟨rfl, b⟩
    rw [net2_kept1]
    replace b := below_then b1 b
    replace hv := hv.below b
    replace hbx := hbx.below b
    replace c := below_then c b
    clear b b1 x0 x1 x2
    obtain ⟨x0, x1, x2⟩ := id hbx
    have b1 := below_new w7 (.cells #[.int .i64 0, .int .i64 0] 3)
    go_wp2_with fail
    refine (flow_kept _ _ net2 [0, 0] _ (by exact hv.below b1) (by exact ints_lit w7 _ [0, 0] 3 2 rfl (by omega) rfl)).mono ?_
    rintro e w8 ⟨rfl, b⟩
    rw [net2_kept2]
    replace b := below_then b1 b
    replace c := below_then c b
    clear b b1 x0 x1 x2
    have b1 := below_new w8 (.cells #[.int .i64 2, .int .i64 3] 3)
    have b2 := below_new (w8.alloc (.cells #[.int .i64 2, .int .i64 3] 3)) (.cells #[.int .i64 4, .int .i64 5] 3)
    go_wp2_with fail
    refine (flow_weigh _ _ [2, 3] [4, 5] _ (by exact (ints_lit w8 _ [2, 3] 3 2 rfl (by omega) rfl).below b2) (by exact ints_lit _ _ [4, 5] 3 2 rfl (by omega) (by simp))).mono ?_
    rintro e w9 ⟨rfl, b⟩
    rw [weigh_23]
    replace b := below_then b1 (below_then b2 b)
    replace c := below_then c b
    clear b b1 b2
    go_wp2
    go_ret
    exact ⟨rfl, c⟩

end Go.Proofs.Ytdaigbamgplboaa
