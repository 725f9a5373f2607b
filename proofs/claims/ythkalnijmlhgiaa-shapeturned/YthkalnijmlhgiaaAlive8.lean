/- The small trial of package shape that the laws make first: it answers true. -/
import Derived.Test.YthkalnijmlhgiaaShapeDev
import Derived.Test.YthkalnijmlhgiaaNetBase
import Derived.Test.YthkalnijmlhgiaaMark2
namespace Go.Proofs.Ythkalnijmlhgiaa
open Go.RowKit
set_option linter.unusedVariables false
set_option maxRecDepth 4000

def net8 : NetL := ⟨2, [⟨3, [1, 0], [0, 1]⟩]⟩
theorem net8_shape : ShapeOk net8 0 1 := by
  have w1 : WayP net8 0 1 := (WayP.here net8 0).step (k := 0) (by decide) (by decide) (by decide)
  have w2 : WayP (turnL net8) 1 0 := (WayP.here (turnL net8) 1).step (k := 0) (by decide) (by decide) (by decide)
  have two : ∀ p : Nat, (p : Int) < net8.places → p = 0 ∨ p = 1 := fun p hp => by have : (p : Int) < 2 := hp; omega
  have one : ∀ k : Nat, k < net8.trans.length → k = 0 := fun k hk => by have : k < 1 := hk; omega
  refine ⟨by decide, by decide, by decide, by decide, by decide, by decide, fun p hp => ?_, fun p hp => ?_, fun k hk => ?_, fun k hk => ?_, fun k hk => ?_, fun k hk => ?_⟩
  · rcases two p hp with rfl | rfl
    · exact WayP.here _ _
    · exact w1
  · rcases two p hp with rfl | rfl
    · exact w2
    · exact WayP.here _ _
  · obtain rfl := one k hk; exact ⟨0, WayP.here _ _, by decide⟩
  · obtain rfl := one k hk; exact ⟨1, WayP.here _ _, by decide⟩
  · obtain rfl := one k hk; decide
  · obtain rfl := one k hk; decide
theorem net8_not : ¬ ShapeOk net8 1 0 := fun h => by
  have := h.put 0 (by decide)
  revert this
  decide
theorem net8_judged {d : Int} (h : Judged net8 0 1 d) : d = 0 := h.right net8_shape
theorem net8_judged2 {d : Int} (h : Judged net8 1 0 d) : d = 1 := h.form (by decide) net8_not
theorem net8_closed {c : NetL} {d : Int} (h : Closed net8 0 1 c d) : d = 0 ∧ c = ⟨2, [⟨3, [1, 0], [0, 1]⟩, ⟨0, [0, 1], [1, 0]⟩]⟩ := by
  obtain ⟨h1, h2⟩ := h.right net8_shape (by decide)
  exact ⟨h1, by rw [h2]; rfl⟩

theorem lit_net8 (w W : World) (l a b c d : Int) (hW : W = ((w.alloc (.cells #[.int .i64 a, .int .i64 b] 3)).alloc (.cells #[.int .i64 c, .int .i64 d] 3)).alloc (.cells #[.int .i64 l, .slice (some ⟨w.heap.size, 0, none⟩) 2 2, .slice (some ⟨w.heap.size + 1, 0, none⟩) 2 2] 43)) :
    Trans W (.slice (some ⟨w.heap.size + 1 + 1, 0, none⟩) 1 1) [⟨l, [a, b], [c, d]⟩] ∧ Below w.heap.size w W ∧ W.heap.size = w.heap.size + 1 + 1 + 1 := by
  have b1 := below_new w (.cells #[.int .i64 a, .int .i64 b] 3)
  have i1 : Ints (w.alloc (.cells #[.int .i64 a, .int .i64 b] 3)) (.slice (some ⟨w.heap.size, 0, none⟩) 2 2) [a, b] := ints_lit w _ [a, b] 3 2 rfl (by omega) rfl
  have s1 : (w.alloc (.cells #[.int .i64 a, .int .i64 b] 3)).heap.size = w.heap.size + 1 := by simp
  generalize w.alloc (.cells #[.int .i64 a, .int .i64 b] 3) = w1 at *
  have b2 := below_new w1 (.cells #[.int .i64 c, .int .i64 d] 3)
  have i2 : Ints (w1.alloc (.cells #[.int .i64 c, .int .i64 d] 3)) (.slice (some ⟨w.heap.size + 1, 0, none⟩) 2 2) [c, d] := ints_lit w1 _ [c, d] 3 2 rfl (by omega) s1.symm
  have s2 : (w1.alloc (.cells #[.int .i64 c, .int .i64 d] 3)).heap.size = w.heap.size + 1 + 1 := by simp [s1]
  generalize w1.alloc (.cells #[.int .i64 c, .int .i64 d] 3) = w2 at *
  have hn := below_new w2 (.cells #[.int .i64 l, .slice (some ⟨w.heap.size, 0, none⟩) 2 2, .slice (some ⟨w.heap.size + 1, 0, none⟩) 2 2] 43)
  rw [hW]
  refine ⟨⟨_, _, _, rfl, rfl, by omega, ⟨by omega, by omega, fun h => by cases h⟩, fun j hj => ?_⟩, below_then b1 (below_then b2 hn), by simp [s2]⟩
  match j, hj with
  | 0, _ =>
    refine ⟨w.heap.size + 1 + 1, 0, _, _, rfl, by simp [s2], ?_, ?_, ?_, (i1.below b2).below hn, i2.below hn⟩
    · rw [World.cell?_alloc_at _ _ _ _ s2.symm]; rfl
    · rw [World.cell?_alloc_at _ _ _ _ s2.symm]; rfl
    · rw [World.cell?_alloc_at _ _ _ _ s2.symm]; rfl
  | j + 1, h => simp at h

theorem lit_box8 (w W : World) (n : NetL) (hn : n.places = 2) (hT : Trans W (.slice (some ⟨w.heap.size + 1 + 1, 0, none⟩) 1 1) n.trans) (hb : Below w.heap.size w W) (hs : W.heap.size = w.heap.size + 1 + 1 + 1) :
    ∃ b tv, Value.pointer (some ⟨w.heap.size + 1 + 1 + 1, 0, none⟩) = .pointer (some ⟨b, 0, none⟩) ∧ Box2 (W.alloc (.cells #[.int .i64 2, .slice (some ⟨w.heap.size + 1 + 1, 0, none⟩) 1 1] 24)) b (.int .i64 2) tv ∧
      Net (W.alloc (.cells #[.int .i64 2, .slice (some ⟨w.heap.size + 1 + 1, 0, none⟩) 1 1] 24)) (.agg #[.int .i64 2, tv]) n ∧ Below w.heap.size w (W.alloc (.cells #[.int .i64 2, .slice (some ⟨w.heap.size + 1 + 1, 0, none⟩) 1 1] 24)) := by
  have b1 := below_new W (.cells #[.int .i64 2, .slice (some ⟨w.heap.size + 1 + 1, 0, none⟩) 1 1] 24)
  have hx := box2_new W (.int .i64 2) (.slice (some ⟨w.heap.size + 1 + 1, 0, none⟩) 1 1) 24
  rw [hs] at hx
  exact ⟨_, _, rfl, hx, ⟨_, by rw [hn], hT.below b1⟩, below_then hb b1⟩

set_option maxHeartbeats 2000000 in
theorem alive8_any (w : World) :
    Calls Try.prog 15 #[] w fun e w' => e = .returned (.bool true) ∧ Below w.heap.size w w' := by
  obtain ⟨hT, hb, hs⟩ := lit_net8 w _ 3 1 0 0 1 rfl
  go_enter Try.func15, Try.ntmps15
  go_upto_region 1 with fail
  go_cut [1] (fun p wc => ∃ b tv, p = .pointer (some ⟨b, 0, none⟩) ∧ Box2 wc b (.int .i64 2) tv ∧ Net wc (.agg #[.int .i64 2, tv]) net8 ∧ Below w.heap.size w wc)
  case first =>
    have HT : Hid _ := hT
    have HB : Hid _ := hb
    have HS : Hid _ := hs
    clear hT hb hs
    go_wp2_with fail
    go_meet
    exact lit_box8 w _ net8 rfl HT.out HB.out HS.out
  case rest =>
    clear hT hb hs
    obtain ⟨bk, tv, rfl, hbx, hv, c⟩ := hcut
    obtain ⟨w0, rfl⟩ : ∃ w0, w0 = wc := ⟨_, rfl⟩
    obtain ⟨x0, x1, x2⟩ := id hbx
    go_wp2_with fail
    clear x0 x1 x2
    refine (shape_close _ net8 0 1 _ (by exact hv)).mono ?_
    rintro e w1 ⟨r, cn, d, rfl, ⟨hr, hC⟩, b⟩
    obtain ⟨rfl, rfl⟩ := net8_closed hC
    clear hC
    replace hv := hv.below b
    replace hbx := hbx.below b
    replace c := below_then c b
    clear b
    obtain ⟨cv, rfl, hCt⟩ := hr
    obtain ⟨ca, cl, cc, rfl, hcl, _, _, _⟩ := id hCt
    obtain rfl : 2 = cl := hcl
    have bn := below_new w1 (.cells #[.int .i64 2, .slice ca 2 cc] 24)
    have hbc := box2_new w1 (.int .i64 2) (.slice ca 2 cc) 24
    obtain ⟨w2, Hw2⟩ : ∃ w2, Hid (w1.alloc (.cells #[.int .i64 2, .slice ca 2 cc] 24) = w2) := ⟨_, rfl⟩
    rw [Hw2.out] at bn hbc
    replace hv := hv.below bn
    replace hbx := hbx.below bn
    replace c := below_then c bn
    replace hCt := hCt.below bn
    clear bn
    go_upto_region 3 with fail
    rw [Hw2.out]
    clear Hw2
    obtain ⟨b, off, c1, c2, rfl, hblt, h0, h1, h2, i1, i2⟩ := hCt.at (show 1 < 2 by omega)
    have i1 : Ints w2 c1 [0, 1] := i1
    clear i2 h0 h2
    obtain ⟨y0, y1, y2⟩ := id hbc
    have bn := below_new w2 (.cells #[.int .i64 0, .int .i64 1] 3)
    go_wp2_with fail
    refine (equal_b _ _ [0, 1] [0, 1] _ (by exact i1.below bn) (by exact ints_lit w2 _ [0, 1] 3 2 rfl (by omega) rfl)).mono ?_
    rintro e w3 ⟨rfl, b3⟩
    rw [show (([0, 1] : List Int) == [0, 1]) = true from rfl]
    replace b3 := below_then bn b3
    replace hv := hv.below b3
    replace hbx := hbx.below b3
    replace c := below_then c b3
    clear b3 bn i1 h1 hCt y0 y1 y2 hbc
    obtain ⟨x0, x1, x2⟩ := id hbx
    go_wp2_with fail
    clear x0 x1 x2
    refine (shape_start _ net8 0 _ (by exact hv)).mono ?_
    rintro e w4 ⟨r4, rfl, hr4, b⟩
    replace hv := hv.below b
    replace hbx := hbx.below b
    replace c := below_then c b
    clear b
    have hr4 : Ints w4 r4 [1, 0] := hr4
    have bn := below_new w4 (.cells #[.int .i64 1, .int .i64 0] 3)
    go_wp2_with fail
    refine (equal_b _ _ [1, 0] [1, 0] _ (by exact hr4.below bn) (by exact ints_lit w4 _ [1, 0] 3 2 rfl (by omega) rfl)).mono ?_
    rintro e w5 ⟨rfl, b5⟩
    rw [show (([1, 0] : List Int) == [1, 0]) = true from rfl]
    replace b5 := below_then bn b5
    replace hv := hv.below b5
    replace hbx := hbx.below b5
    replace c := below_then c b5
    clear b5 bn hr4
    obtain ⟨x0, x1, x2⟩ := id hbx
    go_wp2_with fail
    clear x0 x1 x2
    refine (shape_wrong _ net8 1 0 _ (by exact hv)).mono ?_
    rintro e w6 ⟨d6, rfl, hd6, b⟩
    obtain rfl := net8_judged2 hd6
    replace hv := hv.below b
    replace hbx := hbx.below b
    replace c := below_then c b
    clear b hd6
    obtain ⟨x0, x1, x2⟩ := id hbx
    go_wp2_with fail
    clear x0 x1 x2
    refine (shape_wrong _ net8 0 1 _ (by exact hv)).mono ?_
    rintro e w7 ⟨d7, rfl, hd7, b⟩
    obtain rfl := net8_judged hd7
    replace c := below_then c b
    go_wp2
    go_ret
    exact ⟨rfl, c⟩

end Go.Proofs.Ythkalnijmlhgiaa
