/- The small trial of package tongue that the laws make first: it answers true. -/
import Derived.Test.YteoofibhpifmlaaDoorTong12
import Derived.Test.YteoofibhpifmlaaDoorGr30
import Derived.Test.YteoofibhpifmlaaDoorGr31
import Derived.Test.YteoofibhpifmlaaDoorGr06
namespace Go.Proofs.YteoofibhpifmlaaDoor
open Go.RowKit
set_option linter.unusedVariables false
set_option linter.unusedSimpArgs false
set_option maxRecDepth 4000

set_option maxHeartbeats 4000000 in
theorem alive12_any (w : World) (hTab : Tab w) : Calls Tryd.prog 10 #[] w fun e w' => e = .returned (.bool true) ∧ Below w.heap.size w w' := by
  go_enter Tryd.func10, Tryd.ntmps10
  go_wp2_with fail
  refine (step_any 1 w).mono ?_
  rintro e w1 ⟨rfl, Hw1⟩
  have b1 : Below w.heap.size w w1 := by rw [Hw1]; exact below_new _ _
  clear Hw1
  go_wp2_with fail
  refine (step_any 2 w1).mono ?_
  rintro e w2 ⟨rfl, Hw2⟩
  have b2 : Below w.heap.size w w2 := by rw [Hw2]; exact below_then b1 (below_new _ _)
  clear Hw2 b1
  have hK := kids_two w2 w2.heap.size (stepL 1) (stepL 2) _ _ 68 (step_read w2 1) (step_read w2 2) rfl
  have b3 := below_then b2 (below_new w2 (.cells #[.int .i64 2, .int .i64 1, .slice none 0 0, .int .i64 2, .int .i64 2, .slice none 0 0] 68))
  go_wp2_with fail
  refine (many_any 5 _ _ _ _).mono ?_
  rintro e w4 ⟨rfl, Hw4⟩
  have hb4 : Below (w2.alloc (.cells #[.int .i64 2, .int .i64 1, .slice none 0 0, .int .i64 2, .int .i64 2, .slice none 0 0] 68)).heap.size (w2.alloc (.cells #[.int .i64 2, .int .i64 1, .slice none 0 0, .int .i64 2, .int .i64 2, .slice none 0 0] 68)) w4 := by rw [Hw4]; exact below_new _ _
  have hv : BlockV w4 (.agg #[.int .i64 5, .int .i64 0, .slice (some ⟨w2.heap.size, 0, none⟩) 2 2]) (manyL 5 [stepL 1, stepL 2]) := block_of (hK.below hb4)
  have b4 := below_then b3 hb4
  clear Hw4 hK hb4 b3 b2
  go_wp2_with fail
  refine (grow_grow _ _ w4 hv).mono ?_
  rintro e w5 ⟨r, rfl, hN, b5⟩
  rw [grown12] at hN ⊢
  replace b5 := below_then b4 b5
  have hplace : (net12, (0 : Int)).1.places = 6 := rfl
  obtain ⟨tv, rfl, hT⟩ := hN
  rw [hplace]
  have bn := below_new w5 (.cells #[.int .i64 6, tv] 24)
  have hx := box2_new w5 (.int .i64 6) tv 24
  have hN : Net (w5.alloc (.cells #[.int .i64 6, tv] 24)) (.agg #[.int .i64 6, tv]) net12 := ⟨tv, rfl, hT.below bn⟩
  replace b5 := below_then b5 bn
  obtain ⟨w6, Hw6⟩ : ∃ w6, Hid (w5.alloc (.cells #[.int .i64 6, tv] 24) = w6) := ⟨_, rfl⟩
  rw [Hw6.out] at bn hx hN b5
  obtain ⟨at_, lt_, ct_, rfl, _⟩ := id hT
  go_upto_region 2 with fail
  rw [Hw6.out]
  clear Hw6 hv b4 bn hT hplace
  obtain ⟨x0, x1, x2⟩ := id hx
  go_wp2_with fail
  clear x0 x1 x2
  refine (tongue_words _ net12 0 1 4 _ (by exact hN) (hTab.below b5)).mono ?_
  rintro e w7 ⟨rw_, l, d1, rfl, ⟨hL, hA⟩, b7⟩
  obtain ⟨rfl, rfl⟩ := words12 hA
  clear hA
  have c7 := below_then b5 b7
  replace hN := hN.below b7
  replace hx := hx.below b7
  obtain ⟨x0, x1, x2⟩ := id hx
  obtain ⟨al, ll, cl, rfl, _⟩ := id hL
  clear b7 b5
  have hI := ints_lit w7 w7.heap.size [2, 1] 3 2 rfl (by omega) rfl
  have bn := below_new w7 (.cells #[.int .i64 2, .int .i64 1] 3)
  go_wp2_with fail
  clear x0 x1 x2
  refine (tongue_has _ _ net12 0 1 [2, 1] _ (by exact hN.below bn) (by exact hI) (hTab.below (below_then c7 bn))).mono ?_
  rintro e w8 ⟨bb, d2, rfl, hA, b8⟩
  obtain ⟨rfl, rfl⟩ := has12 hA
  clear hA hI
  replace b8 := below_then bn b8
  have c8 := below_then c7 b8
  replace hN := hN.below b8
  replace hx := hx.below b8
  replace hL := hL.below b8
  clear b8 c7 bn
  obtain ⟨x0, x1, x2⟩ := id hx
  go_wp2_with fail
  clear x0 x1 x2
  refine (tongue_least _ net12 0 1 _ (by exact hN)).mono ?_
  rintro e w9 ⟨k3, d3, rfl, hA, b9⟩
  obtain ⟨rfl, rfl⟩ := least12 hA
  have c9 := below_then c8 b9
  replace hL := hL.below b9
  clear hA b9 c8 hN hx
  have B1 := below_new w9 (.cells #[.int .i64 1, .int .i64 2] 3)
  have I1 := ints_lit w9 w9.heap.size [1, 2] 3 2 rfl (by omega) rfl
  have B2 := below_new (w9.alloc (.cells #[.int .i64 1, .int .i64 2] 3)) (.cells #[.int .i64 2, .int .i64 1] 3)
  have I2 := ints_lit (w9.alloc (.cells #[.int .i64 1, .int .i64 2] 3)) (w9.heap.size + 1) [2, 1] 3 2 rfl (by omega) (by simp)
  have B3 := below_new ((w9.alloc (.cells #[.int .i64 1, .int .i64 2] 3)).alloc (.cells #[.int .i64 2, .int .i64 1] 3)) (.cells #[.slice (some ⟨w9.heap.size, 0, none⟩) 2 2, .slice (some ⟨w9.heap.size + 1, 0, none⟩) 2 2] 25)
  have L2 := lists_lit2 ((w9.alloc (.cells #[.int .i64 1, .int .i64 2] 3)).alloc (.cells #[.int .i64 2, .int .i64 1] 3)) (w9.heap.size + 1 + 1) _ _ [1, 2] [2, 1] 25 (by exact I1.below B2) (by exact I2) (by simp)
  have C := below_then (below_then B1 B2) B3
  have hL2 := hL.below C
  have c10 := below_then c9 C
  clear hL B1 I1 B2 I2 B3
  go_wp2_with fail
  refine (samelists_same _ _ _ _ (by exact hL2) (by exact L2)).mono ?_
  rintro e w10 ⟨rfl, b10⟩
  have R := below_then c10 b10
  clear C c9 c10 L2 hL2 b10
  go_wp2
  go_ret
  exact ⟨rfl, R⟩

end Go.Proofs.YteoofibhpifmlaaDoor
