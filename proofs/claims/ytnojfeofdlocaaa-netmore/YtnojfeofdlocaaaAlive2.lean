/- The small trial of package net that the laws make first: it answers true. -/
import Derived.Test.YtnojfeofdlocaaaNetDev
import Derived.Test.YtnojfeofdlocaaaNets
namespace Go.Proofs.Ytnojfeofdlocaaa
open Go.RowKit
set_option linter.unusedVariables false

def net2 : NetL := ⟨2, [⟨0, [1, 0], [0, 2]⟩, ⟨0, [0, 1], [1, 0]⟩]⟩
theorem net2_can : canL net2 [1, 0] = ([0], 0) := by decide
theorem net2_run : runL net2 [1, 0] [0, 1, 1] = ([2, 0], 0) := by decide
theorem net2_fire : fireL net2 [1, 0] 1 = ([], 3) := by decide
theorem net2_wrong : wrongL net2 = 0 := by decide
theorem net17_wrong : wrongL ⟨17, []⟩ = 2 := by decide

theorem lit_net2 (w W : World) (hW : W = (((((w.alloc (.cells #[.int .i64 1, .int .i64 0] 3)).alloc (.cells #[.int .i64 0, .int .i64 2] 3)).alloc (.cells #[.int .i64 0, .int .i64 1] 3)).alloc (.cells #[.int .i64 1, .int .i64 0] 3)).alloc
      (.cells #[.int .i64 0, .slice (some ⟨w.heap.size, 0, none⟩) 2 2, .slice (some ⟨w.heap.size + 1, 0, none⟩) 2 2, .int .i64 0, .slice (some ⟨w.heap.size + 1 + 1, 0, none⟩) 2 2, .slice (some ⟨w.heap.size + 1 + 1 + 1, 0, none⟩) 2 2] 43))) :
    Trans W (.slice (some ⟨w.heap.size + 1 + 1 + 1 + 1, 0, none⟩) 2 2) net2.trans ∧ Below w.heap.size w W ∧ W.heap.size = w.heap.size + 1 + 1 + 1 + 1 + 1 := by
  have b1 := below_new w (.cells #[.int .i64 1, .int .i64 0] 3)
  have i1 := ints_lit w _ [1, 0] 3 2 rfl (by omega) rfl
  generalize hw1 : w.alloc (.cells #[.int .i64 1, .int .i64 0] 3) = w1 at *
  have i1 : Ints w1 (.slice (some ⟨w.heap.size, 0, none⟩) 2 2) [1, 0] := by rw [← hw1]; exact i1
  have s1 : w1.heap.size = w.heap.size + 1 := by rw [← hw1]; simp
  have b2 := below_new w1 (.cells #[.int .i64 0, .int .i64 2] 3)
  have i2 : Ints (w1.alloc (.cells #[.int .i64 0, .int .i64 2] 3)) (.slice (some ⟨w.heap.size + 1, 0, none⟩) 2 2) [0, 2] := ints_lit w1 _ [0, 2] 3 2 rfl (by omega) s1.symm
  generalize hw2 : w1.alloc (.cells #[.int .i64 0, .int .i64 2] 3) = w2 at *
  have s2 : w2.heap.size = w.heap.size + 1 + 1 := by rw [← hw2]; simp [s1]
  have b3 := below_new w2 (.cells #[.int .i64 0, .int .i64 1] 3)
  have i3 : Ints (w2.alloc (.cells #[.int .i64 0, .int .i64 1] 3)) (.slice (some ⟨w.heap.size + 1 + 1, 0, none⟩) 2 2) [0, 1] := ints_lit w2 _ [0, 1] 3 2 rfl (by omega) s2.symm
  generalize hw3 : w2.alloc (.cells #[.int .i64 0, .int .i64 1] 3) = w3 at *
  have s3 : w3.heap.size = w.heap.size + 1 + 1 + 1 := by rw [← hw3]; simp [s2]
  have b4 := below_new w3 (.cells #[.int .i64 1, .int .i64 0] 3)
  have i4 : Ints (w3.alloc (.cells #[.int .i64 1, .int .i64 0] 3)) (.slice (some ⟨w.heap.size + 1 + 1 + 1, 0, none⟩) 2 2) [1, 0] := ints_lit w3 _ [1, 0] 3 2 rfl (by omega) s3.symm
  generalize hw4 : w3.alloc (.cells #[.int .i64 1, .int .i64 0] 3) = w4 at *
  have s4 : w4.heap.size = w.heap.size + 1 + 1 + 1 + 1 := by rw [← hw4]; simp [s3]
  have b34 := below_then b3 b4
  have b24 := below_then b2 b34
  have b5 := below_new w4 (.cells #[.int .i64 0, .slice (some ⟨w.heap.size, 0, none⟩) 2 2, .slice (some ⟨w.heap.size + 1, 0, none⟩) 2 2, .int .i64 0, .slice (some ⟨w.heap.size + 1 + 1, 0, none⟩) 2 2, .slice (some ⟨w.heap.size + 1 + 1 + 1, 0, none⟩) 2 2] 43)
  rw [hW]
  exact ⟨trans_lit2 w4 _ _ _ _ _ [1, 0] [0, 2] [0, 1] [1, 0] 0 0 _ (i1.below b24) (i2.below b34) (i3.below b4) i4 s4.symm, below_then b1 (below_then b24 b5), by simp [s4]⟩

theorem lit_net2b (w W : World) (hT : Trans W (.slice (some ⟨w.heap.size + 1 + 1 + 1 + 1, 0, none⟩) 2 2) net2.trans) (hb : Below w.heap.size w W) (hs : W.heap.size = w.heap.size + 1 + 1 + 1 + 1 + 1) :
    ∃ b tv, Value.pointer (some ⟨w.heap.size + 1 + 1 + 1 + 1 + 1, 0, none⟩) = .pointer (some ⟨b, 0, none⟩) ∧ Box2 (W.alloc (.cells #[.int .i64 2, .slice (some ⟨w.heap.size + 1 + 1 + 1 + 1, 0, none⟩) 2 2] 24)) b (.int .i64 2) tv ∧
      Net (W.alloc (.cells #[.int .i64 2, .slice (some ⟨w.heap.size + 1 + 1 + 1 + 1, 0, none⟩) 2 2] 24)) (.agg #[.int .i64 2, tv]) net2 ∧ Below w.heap.size w (W.alloc (.cells #[.int .i64 2, .slice (some ⟨w.heap.size + 1 + 1 + 1 + 1, 0, none⟩) 2 2] 24)) := by
  have b1 := below_new W (.cells #[.int .i64 2, .slice (some ⟨w.heap.size + 1 + 1 + 1 + 1, 0, none⟩) 2 2] 24)
  have hx := box2_new W (.int .i64 2) (.slice (some ⟨w.heap.size + 1 + 1 + 1 + 1, 0, none⟩) 2 2) 24
  rw [hs] at hx
  exact ⟨_, _, rfl, hx, ⟨_, rfl, hT.below b1⟩, below_then hb b1⟩

set_option maxHeartbeats 1000000 in
theorem alive2_any (w : World) :
    Calls Try.prog 21 #[] w fun e w' => e = .returned (.bool true) ∧ Below w.heap.size w w' := by
  obtain ⟨hT, hb, hs⟩ := lit_net2 w _ rfl
  go_enter Try.func21, Try.ntmps21
  go_upto_region 1 with fail
  go_cut [1] (fun p wc => ∃ b tv, p = .pointer (some ⟨b, 0, none⟩) ∧ Box2 wc b (.int .i64 2) tv ∧ Net wc (.agg #[.int .i64 2, tv]) net2 ∧ Below w.heap.size w wc)
  case first =>
    have HT : Hid _ := hT
    have HB : Hid _ := hb
    have HS : Hid _ := hs
    clear hT hb hs
    go_wp2_with fail
    go_meet
    exact lit_net2b w _ HT.out HB.out HS.out
  case rest =>
    clear hT hb hs
    obtain ⟨bk, tv, rfl, hbx, hv, c⟩ := hcut
    obtain ⟨w0, rfl⟩ : ∃ w0, w0 = wc := ⟨_, rfl⟩
    obtain ⟨x0, x1, x2⟩ := id hbx
    have b1 := below_new w0 (.cells #[.int .i64 1, .int .i64 0] 3)
    go_wp2_with fail
    refine (net_enabled _ _ net2 [1, 0] _ (by exact hv.below b1) (by exact ints_lit w0 _ [1, 0] 3 2 rfl (by omega) rfl)).mono ?_
    rintro e w1 ⟨r1, rfl, hr1, b⟩
    rw [net2_can] at hr1
    simp only [net2_can]
    replace b := below_then b1 b
    replace hv := hv.below b
    replace hbx := hbx.below b
    replace c := below_then c b
    clear b b1 x0 x1 x2
    obtain ⟨x0, x1, x2⟩ := id hbx
    have b1 := below_new w1 (.cells #[.int .i64 1, .int .i64 0] 3)
    have b2 := below_new (w1.alloc (.cells #[.int .i64 1, .int .i64 0] 3)) (.cells #[.int .i64 0, .int .i64 1, .int .i64 1] 3)
    have b3 := below_then b1 b2
    go_wp2_with fail
    refine (net_run net2 [0, 1, 1] _ _ _ [1, 0] _ (by exact hv.below b3) (by exact (ints_lit w1 _ [1, 0] 3 2 rfl (by omega) rfl).below b2) (by exact ints_lit _ _ [0, 1, 1] 3 3 rfl (by omega) (by simp))).mono ?_
    rintro e w2 ⟨r2, rfl, hr2, b⟩
    rw [net2_run] at hr2
    simp only [net2_run]
    replace b := below_then b3 b
    replace hv := hv.below b
    replace hbx := hbx.below b
    replace hr1 := hr1.below b
    replace c := below_then c b
    clear b b1 b2 b3 x0 x1 x2
    obtain ⟨x0, x1, x2⟩ := id hbx
    have b1 := below_new w2 (.cells #[.int .i64 1, .int .i64 0] 3)
    go_wp2_with fail
    refine (net_fire _ _ net2 [1, 0] 1 _ (by exact hv.below b1) (by exact ints_lit w2 _ [1, 0] 3 2 rfl (by omega) rfl)).mono ?_
    rintro e w3 ⟨r3, rfl, hr3, b⟩
    simp only [net2_fire]
    replace b := below_then b1 b
    replace hv := hv.below b
    replace hbx := hbx.below b
    replace hr1 := hr1.below b
    replace hr2 := hr2.below b
    replace c := below_then c b
    clear b b1 x0 x1 x2 hr3
    obtain ⟨x0, x1, x2⟩ := id hbx
    have b1 := below_new w3 (.cells #[.int .i64 0] 3)
    go_wp2_with fail
    refine (equal_b _ _ [0] [0] _ (by exact hr1.below b1) (by exact ints_lit w3 _ [0] 3 1 rfl (by omega) rfl)).mono ?_
    rintro e w4 ⟨rfl, b⟩
    replace b := below_then b1 b
    replace hv := hv.below b
    replace hbx := hbx.below b
    replace hr2 := hr2.below b
    replace c := below_then c b
    clear b b1 x0 x1 x2
    obtain ⟨x0, x1, x2⟩ := id hbx
    have b1 := below_new w4 (.cells #[.int .i64 2, .int .i64 0] 3)
    go_wp2_with fail
    refine (equal_b _ _ [2, 0] [2, 0] _ (by exact hr2.below b1) (by exact ints_lit w4 _ [2, 0] 3 2 rfl (by omega) rfl)).mono ?_
    rintro e w5 ⟨rfl, b⟩
    replace b := below_then b1 b
    replace hv := hv.below b
    replace hbx := hbx.below b
    replace c := below_then c b
    clear b b1 x0 x1 x2
    obtain ⟨x0, x1, x2⟩ := id hbx
    go_wp2_with fail
    refine (net_wrong _ net2 _ (by exact hv)).mono ?_
    rintro e w6 ⟨rfl, b⟩
    rw [net2_wrong]
    replace c := below_then c b
    clear b
    go_wp2_with fail
    refine (net_wrong _ ⟨17, []⟩ _ (by exact ⟨_, rfl, none, 0, 0, rfl, rfl, by omega, ⟨by omega, by omega, fun _ => rfl⟩, fun j hj => absurd hj (by simp)⟩)).mono ?_
    rintro e w7 ⟨rfl, b⟩
    rw [net17_wrong]
    replace c := below_then c b
    clear b
    go_wp2
    go_ret
    exact ⟨rfl, c⟩

end Go.Proofs.Ytnojfeofdlocaaa
