/- The small trial of package mark that the laws make first: it answers true. -/
import Derived.Test.YtccehbbdebochaaMark4
namespace Go.Proofs.Ytccehbbdebochaa
open Go.RowKit
set_option linter.unusedVariables false

theorem ints_lit (w : World) (b : Nat) (zs : List Int) (t : TypeId) (n : Nat) (hn : zs.length = n) (h : n ≤ 17592186044416) (hb : b = w.heap.size) :
    Ints (w.alloc (.cells (zs.map (Value.int .i64)).toArray t)) (.slice (some ⟨b, 0, none⟩) n n) zs := by
  subst hb
  refine ⟨_, _, _, rfl, hn, h, fun j hj => ⟨w.heap.size, 0, rfl, by simp, ?_⟩⟩
  rw [World.cell?_alloc_at _ _ _ _ rfl]
  simp [nth, List.getD, List.getElem?_eq_getElem hj]

set_option maxHeartbeats 1000000 in
theorem alive1_any (w : World) :
    Calls Try.prog 16 #[] w fun e w' => e = .returned (.bool true) ∧ Below w.heap.size w w' := by
  go_enter Try.func16, Try.ntmps16
  go_wp2_with fail
  have b1 := below_new w (.cells #[.int .i64 1, .int .i64 2] 3)
  have b2 := below_new (w.alloc (.cells #[.int .i64 1, .int .i64 2] 3)) (.cells #[.int .i64 0, .int .i64 1, .int .i64 4] 3)
  refine (plus_any _ _ [1, 2] [0, 1, 4] _ (by exact Ints.below (ints_lit w _ [1, 2] 3 2 rfl (by omega) rfl) b2) (by exact ints_lit _ _ [0, 1, 4] 3 3 rfl (by omega) (by simp))).mono ?_
  rintro e w1 ⟨r1, rfl, hr1, hb1⟩
  have e1 : plusL [1, 2] [0, 1, 4] = ([1, 3, 4], 0) := by decide
  rw [e1] at hr1
  have hc := below_then b1 (below_then b2 hb1)
  clear b1 b2 hb1
  simp only [e1]
  clear e1
  go_wp2_with fail
  have b1 := below_new w1 (.cells #[.int .i64 1, .int .i64 2, .int .i64 4] 3)
  refine (minus_any _ _ [1, 3, 4] [1, 2, 4] _ (by exact Ints.below hr1 b1) (by exact ints_lit _ _ [1, 2, 4] 3 3 rfl (by omega) rfl)).mono ?_
  rintro e w2 ⟨r2, rfl, hr2, hb2⟩
  have e1 : minusL [1, 3, 4] [1, 2, 4] = ([0, 1, 0], 0) := by decide
  rw [e1] at hr2
  have hb := below_then b1 hb2
  have hr1 := hr1.below hb
  have hc := below_then hc hb
  clear b1 hb2 hb
  simp only [e1]
  clear e1
  go_wp2_with fail
  have b1 := below_new w2 (.cells #[.int .i64 1] 3)
  have b2 := below_new (w2.alloc (.cells #[.int .i64 1] 3)) (.cells #[.int .i64 0, .int .i64 1] 3)
  refine (minus_any _ _ [1] [0, 1] _ (by exact Ints.below (ints_lit w2 _ [1] 3 1 rfl (by omega) rfl) b2) (by exact ints_lit _ _ [0, 1] 3 2 rfl (by omega) (by simp))).mono ?_
  rintro e w3 ⟨r3, rfl, hr3, hb3⟩
  have e1 : minusL [1] [0, 1] = ([], 3) := by decide
  have hb := below_then b1 (below_then b2 hb3)
  have hr1 := hr1.below hb
  have hr2 := hr2.below hb
  have hc := below_then hc hb
  clear b1 b2 hb3 hb hr3
  simp only [e1]
  clear e1
  go_wp2_with fail
  have b1 := below_new w3 (.cells #[.int .i64 1, .int .i64 3, .int .i64 4] 3)
  refine (same_any _ _ [1, 3, 4] [1, 3, 4] _ (by exact Ints.below hr1 b1) (by exact ints_lit _ _ [1, 3, 4] 3 3 rfl (by omega) rfl)).mono ?_
  rintro e w4 ⟨rfl, hw4⟩
  have hb : Below w3.heap.size w3 w4 := by rw [hw4]; exact b1
  have e1 : (coversL [1, 3, 4] [1, 3, 4] && coversL [1, 3, 4] [1, 3, 4]) = true := by decide
  have hr1 := hr1.below hb
  have hr2 := hr2.below hb
  have hc := below_then hc hb
  clear b1 hb hw4
  rw [e1]
  clear e1
  go_wp2_with fail
  have b1 := below_new w4 (.cells #[.int .i64 0, .int .i64 1] 3)
  refine (same_any _ _ [0, 1, 0] [0, 1] _ (by exact Ints.below hr2 b1) (by exact ints_lit _ _ [0, 1] 3 2 rfl (by omega) rfl)).mono ?_
  rintro e w5 ⟨rfl, hw5⟩
  have hb : Below w4.heap.size w4 w5 := by rw [hw5]; exact b1
  have e1 : (coversL [0, 1, 0] [0, 1] && coversL [0, 1] [0, 1, 0]) = true := by decide
  have hr1 := hr1.below hb
  have hr2 := hr2.below hb
  have hc := below_then hc hb
  clear b1 hb hw5
  rw [e1]
  clear e1
  go_wp2_with fail
  refine (covers_any _ _ [1, 3, 4] [0, 1, 0] _ hr1 hr2).mono ?_
  rintro e w' ⟨rfl, rfl⟩
  have e1 : coversL [1, 3, 4] [0, 1, 0] = true := by decide
  rw [e1]
  clear e1
  go_wp2_with fail
  refine (covers_any _ _ [0, 1, 0] [1, 3, 4] _ hr2 hr1).mono ?_
  rintro e w' ⟨rfl, rfl⟩
  have e1 : coversL [0, 1, 0] [1, 3, 4] = false := by decide
  rw [e1]
  clear e1
  go_wp2_with fail
  refine (right_any _ [-1] _ (by exact ints_lit _ _ [-1] 3 1 rfl (by omega) rfl)).mono ?_
  rintro e w' ⟨rfl, hw6⟩
  have e1 : rightL [-1] = false := by decide
  have hc := hc.trans ((below_new _ (.cells #[.int .i64 (-1)] 3)).mono hc.size)
  rw [e1]
  clear e1
  go_wp2
  go_ret
  exact ⟨rfl, hc⟩

end Go.Proofs.Ytccehbbdebochaa
