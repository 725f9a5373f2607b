/- The small trial of package net that the laws make first: it answers true. -/
import Derived.Test.YtdaigbamgplboaaNetDev
import Derived.Test.YtdaigbamgplboaaNets
namespace Go.Proofs.Ytdaigbamgplboaa
open Go.RowKit
set_option linter.unusedVariables false

def net2 : NetL := ⟨2, [⟨0, [1, 0], [0, 2]⟩, ⟨0, [0, 1], [1, 0]⟩]⟩
theorem net2_can : canL net2 [1, 0] = ([0], 0) := by decide
theorem net2_run : runL net2 [1, 0] [0, 1, 1] = ([2, 0], 0) := by decide
theorem net2_fire : fireL net2 [1, 0] 1 = ([], 3) := by decide
theorem net2_wrong : wrongL net2 = 0 := by decide
theorem net17_wrong : wrongL ⟨17, []⟩ = 2 := by decide

theorem lit_net2 (w W : World) (hW : W = (((((w.alloc (.cells #[.int .i64 1, .int .i64 0] 3)).alloc (.cells #[.int .i64 0, .int .i64 2] 3)).alloc (.cells #[.int .i64 0, .int .i64 1] 3)).alloc (.cells #[.int .i64 1, .int .i64 0] 3)).alloc
      (.cells #[.int .i64 0, .slice (some ⟨w.heap.size, 0, none⟩) 2 2, .slice (some ⟨w.heap.size + 1, 0, none⟩) 2 2, .int .i64 0, .slice (some ⟨w.heap.size + 1 + 1, 0, none⟩) 2 2, .slice (some ⟨w.heap.size + 1 + 1 + 1, 0, none⟩) 2 2] 44))) :
    Trans W (.slice (some ⟨w.heap.size + 1 + 1 + 1 + 1, 0, none⟩) 2 2) net2.trans ∧ Below w.heap.size w W ∧ W.heap.size = w.heap.size + 1 + 1 + 1 + 1 + 1 := by
  have b1 := below_new w (.cells #[.int .i64 1, .int .i64 0] 3)
  have i1 := ints_lit w _ [1, 0] 3 2 rfl (by omega) rfl
  generalize hw1 : w.alloc (.cells #[.int .i64 1, .int .i64 0] 3) = w1 at *
  have i1 : Ints w1 (.slice (some ⟨w.heap.size, 0, none⟩) 2 2) [1, 0] := by rw [← hw1]; exact i1
  have s1 : w1.heap.size = w.heap.size + 1 := by rw [← hw1]; simp
  have b2 := below_new w1 (.cells #[.int .i64 0, .int .i64 2] 3)
  have i2 : Ints (w1.alloc (.cells #[.int .i64 0, .int .i64 2] 3)) (.slice (some ⟨w.heap.size + 1, 0, none⟩) 2 2) [0, 2] := ints_lit w1 _ [0, 2] 3 2 rfl (by omega) s1.symm
  generalize hw2 : w1.alloc (.cells #[.int .i64 0, .int .i64 2] 3) = w2 at *
  have s2 : w2.heap.size = w.heap.size + 1 + 1 := by rw [← hw2]; simp [s1]
  have b3 := below_new w2 (.cells #[.int .i64 0, .int .i64 1] 3)
  have i3 : Ints (w2.alloc (.cells #[.int .i64 0, .int .i64 1] 3)) (.slice (some ⟨w.heap.size + 1 + 1, 0, none⟩) 2 2) [0, 1] := ints_lit w2 _ [0, 1] 3 2 rfl (by omega) s2.symm
  generalize hw3 : w2.alloc (.cells #[.int .i64 0, .int .i64 1] 3) = w3 at *
  have s3 : w3.heap.size = w.heap.size + 1 + 1 + 1 := by rw [← hw3]; simp [s2]
  have b4 := below_new w3 (.cells #[.int .i64 1, .int .i64 0] 3)
  have i4 : Ints (w3.alloc (.cells #[.int .i64 1, .int .i64 0] 3)) (.slice (some ⟨w.heap.size + 1 + 1 + 1, 0, none⟩) 2 2) [1, 0] := ints_lit w3 _ [1, 0] 3 2 rfl (by omega) s3.symm
  generalize hw4 : w3.alloc (.cells #[.int .i64 1, .int .i64 0] 3) = w4 at *
  have s4 : w4.heap.size = w.heap.size + 1 + 1 + 1 + 1 := by rw [← hw4]; simp [s3]
  have b34 := below_then b3 b4
  have b24 := below_then b2 b34
  have b5 := below_new w4 (.cells #[.int .i64 0, .slice (some ⟨w.heap.size, 0, none⟩) 2 2, .slice (some ⟨w.heap.size + 1, 0, none⟩) 2 2, .int .i64 0, .slice (some ⟨w.heap.size + 1 + 1, 0, none⟩) 2 2, .slice (some ⟨w.heap.size + 1 + 1 + 1, 0, none⟩) 2 2] 44)
  rw [hW]
  exact ⟨trans_lit2 w4 _ _ _ _ _ [1, 0] [0, 2] [0, 1] [1, 0] 0 0 _ (i1.below b24) (i2.below b34) (i3.below b4) i4 s4.symm, below_then b1 (below_then b24 b5), by simp [s4]⟩

theorem lit_net2b (w W : World) (hT : Trans W (.slice (some ⟨w.heap.size + 1 + 1 + 1 + 1, 0, none⟩) 2 2) net2.trans) (hb : Below w.heap.size w W) (hs : W.heap.size = w.heap.size + 1 + 1 + 1 + 1 + 1) :
    ∃ b tv, Value.pointer (some ⟨w.heap.size + 1 + 1 + 1 + 1 + 1, 0, none⟩) = .pointer (some ⟨b, 0, none⟩) ∧ Box2 (W.alloc (.cells #[.int .i64 2, .slice (some ⟨w.heap.size + 1 + 1 + 1 + 1, 0, none⟩) 2 2] 24)) b (.int .i64 2) tv ∧
      Net (W.alloc (.cells #[.int .i64 2, .slice (some ⟨w.heap.size + 1 + 1 + 1 + 1, 0, none⟩) 2 2] 24)) (.agg #[.int .i64 2, tv]) net2 ∧ Below w.heap.size w (W.alloc (.cells #[.int .i64 2, .slice (some ⟨w.heap.size + 1 + 1 + 1 + 1, 0, none⟩) 2 2] 24)) := by
  have b1 := below_new W (.cells #[.int .i64 2, .slice (some ⟨w.heap.size + 1 + 1 + 1 + 1, 0, none⟩) 2 2] 24)
  have hx := box2_new W (.int .i64 2) (.slice (some ⟨w.heap.size + 1 + 1 + 1 + 1, 0, none⟩) 2 2) 24
  rw [hs] at hx
  exact ⟨_, _, rfl, hx, ⟨_, rfl, hT.below b1⟩, below_then hb b1⟩

end Go.Proofs.Ytdaigbamgplboaa
