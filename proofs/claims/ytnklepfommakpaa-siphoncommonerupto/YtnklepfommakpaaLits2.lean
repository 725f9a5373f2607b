/- A net of two transitions that is written out, of however many places. -/
import Derived.Test.YtnklepfommakpaaNet1
namespace Go.Proofs.Ytnklepfommakpaa
open Go.RowKit
set_option linter.unusedVariables false

def rowOf (zs : List Int) : Obj := .cells (zs.map (Value.int .i64)).toArray 3

theorem lit_trans (w W : World) (k : Nat) (z1 z2 z3 z4 : List Int) (l1 l2 : Int) (h1 : z1.length = k) (h2 : z2.length = k) (h3 : z3.length = k) (h4 : z4.length = k) (hk : k ≤ 17592186044416)
    (hW : W = ((((w.alloc (rowOf z1)).alloc (rowOf z2)).alloc (rowOf z3)).alloc (rowOf z4)).alloc
      (.cells #[.int .i64 l1, .slice (some ⟨w.heap.size, 0, none⟩) k k, .slice (some ⟨w.heap.size + 1, 0, none⟩) k k, .int .i64 l2, .slice (some ⟨w.heap.size + 1 + 1, 0, none⟩) k k, .slice (some ⟨w.heap.size + 1 + 1 + 1, 0, none⟩) k k] 45)) :
    Trans W (.slice (some ⟨w.heap.size + 1 + 1 + 1 + 1, 0, none⟩) 2 2) [⟨l1, z1, z2⟩, ⟨l2, z3, z4⟩] ∧ Below w.heap.size w W ∧ W.heap.size = w.heap.size + 1 + 1 + 1 + 1 + 1 := by
  have b1 := below_new w (rowOf z1)
  have i1 : Ints (w.alloc (rowOf z1)) (.slice (some ⟨w.heap.size, 0, none⟩) k k) z1 := ints_lit w _ z1 3 k h1 hk rfl
  have s1 : (w.alloc (rowOf z1)).heap.size = w.heap.size + 1 := by simp
  generalize w.alloc (rowOf z1) = w1 at *
  have b2 := below_new w1 (rowOf z2)
  have i2 : Ints (w1.alloc (rowOf z2)) (.slice (some ⟨w.heap.size + 1, 0, none⟩) k k) z2 := ints_lit w1 _ z2 3 k h2 hk s1.symm
  have s2 : (w1.alloc (rowOf z2)).heap.size = w.heap.size + 1 + 1 := by simp [s1]
  generalize w1.alloc (rowOf z2) = w2 at *
  have b3 := below_new w2 (rowOf z3)
  have i3 : Ints (w2.alloc (rowOf z3)) (.slice (some ⟨w.heap.size + 1 + 1, 0, none⟩) k k) z3 := ints_lit w2 _ z3 3 k h3 hk s2.symm
  have s3 : (w2.alloc (rowOf z3)).heap.size = w.heap.size + 1 + 1 + 1 := by simp [s2]
  generalize w2.alloc (rowOf z3) = w3 at *
  have b4 := below_new w3 (rowOf z4)
  have i4 : Ints (w3.alloc (rowOf z4)) (.slice (some ⟨w.heap.size + 1 + 1 + 1, 0, none⟩) k k) z4 := ints_lit w3 _ z4 3 k h4 hk s3.symm
  have s4 : (w3.alloc (rowOf z4)).heap.size = w.heap.size + 1 + 1 + 1 + 1 := by simp [s3]
  generalize w3.alloc (rowOf z4) = w4 at *
  have b34 := below_then b3 b4
  have b24 := below_then b2 b34
  have b5 := below_new w4 (.cells #[.int .i64 l1, .slice (some ⟨w.heap.size, 0, none⟩) k k, .slice (some ⟨w.heap.size + 1, 0, none⟩) k k, .int .i64 l2, .slice (some ⟨w.heap.size + 1 + 1, 0, none⟩) k k, .slice (some ⟨w.heap.size + 1 + 1 + 1, 0, none⟩) k k] 45)
  rw [hW]
  exact ⟨trans_lit2 w4 _ _ _ _ _ z1 z2 z3 z4 l1 l2 _ (i1.below b24) (i2.below b34) (i3.below b4) i4 s4.symm, below_then b1 (below_then b24 b5), by simp [s4]⟩

theorem lit_box (w W : World) (n : NetL) (hT : Trans W (.slice (some ⟨w.heap.size + 1 + 1 + 1 + 1, 0, none⟩) 2 2) n.trans) (hb : Below w.heap.size w W) (hs : W.heap.size = w.heap.size + 1 + 1 + 1 + 1 + 1) :
    ∃ b tv, Value.pointer (some ⟨w.heap.size + 1 + 1 + 1 + 1 + 1, 0, none⟩) = .pointer (some ⟨b, 0, none⟩) ∧ Box2 (W.alloc (.cells #[.int .i64 n.places, .slice (some ⟨w.heap.size + 1 + 1 + 1 + 1, 0, none⟩) 2 2] 24)) b (.int .i64 n.places) tv ∧
      Net (W.alloc (.cells #[.int .i64 n.places, .slice (some ⟨w.heap.size + 1 + 1 + 1 + 1, 0, none⟩) 2 2] 24)) (.agg #[.int .i64 n.places, tv]) n ∧ Below w.heap.size w (W.alloc (.cells #[.int .i64 n.places, .slice (some ⟨w.heap.size + 1 + 1 + 1 + 1, 0, none⟩) 2 2] 24)) := by
  have b1 := below_new W (.cells #[.int .i64 n.places, .slice (some ⟨w.heap.size + 1 + 1 + 1 + 1, 0, none⟩) 2 2] 24)
  have hx := box2_new W (.int .i64 n.places) (.slice (some ⟨w.heap.size + 1 + 1 + 1 + 1, 0, none⟩) 2 2) 24
  rw [hs] at hx
  exact ⟨_, _, rfl, hx, ⟨_, rfl, hT.below b1⟩, below_then hb b1⟩

end Go.Proofs.Ytnklepfommakpaa
