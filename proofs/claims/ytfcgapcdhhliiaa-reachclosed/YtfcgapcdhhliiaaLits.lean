/- A net of two places and two transitions that is written out. -/
import Derived.Test.YtfcgapcdhhliiaaNet1
namespace Go.Proofs.Ytfcgapcdhhliiaa
open Go.RowKit
set_option linter.unusedVariables false

def netOf (a b c d e f g h : Int) : NetL := ⟨2, [⟨0, [a, b], [c, d]⟩, ⟨0, [e, f], [g, h]⟩]⟩

theorem lit_net (w W : World) (a b c d e f g h : Int) (hW : W = (((((w.alloc (.cells #[.int .i64 a, .int .i64 b] 3)).alloc (.cells #[.int .i64 c, .int .i64 d] 3)).alloc (.cells #[.int .i64 e, .int .i64 f] 3)).alloc (.cells #[.int .i64 g, .int .i64 h] 3)).alloc
      (.cells #[.int .i64 0, .slice (some ⟨w.heap.size, 0, none⟩) 2 2, .slice (some ⟨w.heap.size + 1, 0, none⟩) 2 2, .int .i64 0, .slice (some ⟨w.heap.size + 1 + 1, 0, none⟩) 2 2, .slice (some ⟨w.heap.size + 1 + 1 + 1, 0, none⟩) 2 2] 62))) :
    Trans W (.slice (some ⟨w.heap.size + 1 + 1 + 1 + 1, 0, none⟩) 2 2) (netOf a b c d e f g h).trans ∧ Below w.heap.size w W ∧ W.heap.size = w.heap.size + 1 + 1 + 1 + 1 + 1 := by
  have b1 := below_new w (.cells #[.int .i64 a, .int .i64 b] 3)
  have i1 := ints_lit w _ [a, b] 3 2 rfl (by omega) rfl
  generalize hw1 : w.alloc (.cells #[.int .i64 a, .int .i64 b] 3) = w1 at *
  have i1 : Ints w1 (.slice (some ⟨w.heap.size, 0, none⟩) 2 2) [a, b] := by rw [← hw1]; exact i1
  have s1 : w1.heap.size = w.heap.size + 1 := by rw [← hw1]; simp
  have b2 := below_new w1 (.cells #[.int .i64 c, .int .i64 d] 3)
  have i2 : Ints (w1.alloc (.cells #[.int .i64 c, .int .i64 d] 3)) (.slice (some ⟨w.heap.size + 1, 0, none⟩) 2 2) [c, d] := ints_lit w1 _ [c, d] 3 2 rfl (by omega) s1.symm
  generalize hw2 : w1.alloc (.cells #[.int .i64 c, .int .i64 d] 3) = w2 at *
  have s2 : w2.heap.size = w.heap.size + 1 + 1 := by rw [← hw2]; simp [s1]
  have b3 := below_new w2 (.cells #[.int .i64 e, .int .i64 f] 3)
  have i3 : Ints (w2.alloc (.cells #[.int .i64 e, .int .i64 f] 3)) (.slice (some ⟨w.heap.size + 1 + 1, 0, none⟩) 2 2) [e, f] := ints_lit w2 _ [e, f] 3 2 rfl (by omega) s2.symm
  generalize hw3 : w2.alloc (.cells #[.int .i64 e, .int .i64 f] 3) = w3 at *
  have s3 : w3.heap.size = w.heap.size + 1 + 1 + 1 := by rw [← hw3]; simp [s2]
  have b4 := below_new w3 (.cells #[.int .i64 g, .int .i64 h] 3)
  have i4 : Ints (w3.alloc (.cells #[.int .i64 g, .int .i64 h] 3)) (.slice (some ⟨w.heap.size + 1 + 1 + 1, 0, none⟩) 2 2) [g, h] := ints_lit w3 _ [g, h] 3 2 rfl (by omega) s3.symm
  generalize hw4 : w3.alloc (.cells #[.int .i64 g, .int .i64 h] 3) = w4 at *
  have s4 : w4.heap.size = w.heap.size + 1 + 1 + 1 + 1 := by rw [← hw4]; simp [s3]
  have b34 := below_then b3 b4
  have b24 := below_then b2 b34
  have b5 := below_new w4 (.cells #[.int .i64 0, .slice (some ⟨w.heap.size, 0, none⟩) 2 2, .slice (some ⟨w.heap.size + 1, 0, none⟩) 2 2, .int .i64 0, .slice (some ⟨w.heap.size + 1 + 1, 0, none⟩) 2 2, .slice (some ⟨w.heap.size + 1 + 1 + 1, 0, none⟩) 2 2] 62)
  rw [hW]
  exact ⟨trans_lit2 w4 _ _ _ _ _ [a, b] [c, d] [e, f] [g, h] 0 0 _ (i1.below b24) (i2.below b34) (i3.below b4) i4 s4.symm, below_then b1 (below_then b24 b5), by simp [s4]⟩

theorem lit_netb (w W : World) (n : NetL) (hn : n.places = 2) (hT : Trans W (.slice (some ⟨w.heap.size + 1 + 1 + 1 + 1, 0, none⟩) 2 2) n.trans) (hb : Below w.heap.size w W) (hs : W.heap.size = w.heap.size + 1 + 1 + 1 + 1 + 1) :
    ∃ b tv, Value.pointer (some ⟨w.heap.size + 1 + 1 + 1 + 1 + 1, 0, none⟩) = .pointer (some ⟨b, 0, none⟩) ∧ Box2 (W.alloc (.cells #[.int .i64 2, .slice (some ⟨w.heap.size + 1 + 1 + 1 + 1, 0, none⟩) 2 2] 24)) b (.int .i64 2) tv ∧
      Net (W.alloc (.cells #[.int .i64 2, .slice (some ⟨w.heap.size + 1 + 1 + 1 + 1, 0, none⟩) 2 2] 24)) (.agg #[.int .i64 2, tv]) n ∧ Below w.heap.size w (W.alloc (.cells #[.int .i64 2, .slice (some ⟨w.heap.size + 1 + 1 + 1 + 1, 0, none⟩) 2 2] 24)) := by
  have b1 := below_new W (.cells #[.int .i64 2, .slice (some ⟨w.heap.size + 1 + 1 + 1 + 1, 0, none⟩) 2 2] 24)
  have hx := box2_new W (.int .i64 2) (.slice (some ⟨w.heap.size + 1 + 1 + 1 + 1, 0, none⟩) 2 2) 24
  rw [hs] at hx
  exact ⟨_, _, rfl, hx, ⟨_, by rw [hn], hT.below b1⟩, below_then hb b1⟩

end Go.Proofs.Ytfcgapcdhhliiaa
