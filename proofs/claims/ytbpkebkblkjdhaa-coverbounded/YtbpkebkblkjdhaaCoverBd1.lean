/- What the law CoverBounded asks of knots: slices.Max, and the functions without an append. -/
import Derived.Test.YtbpkebkblkjdhaaKnotFun
import Derived.Test.YtbpkebkblkjdhaaReachFun
import Derived.Test.YtbpkebkblkjdhaaSlices2
import Derived.Test.YtbpkebkblkjdhaaSlices4
namespace Go.Proofs.Ytbpkebkblkjdhaa
open Go.RowKit
set_option linter.unusedVariables false

theorem bounded1_any (w0 : World) : AsksK0 w0 18 (fun k => hasL k.mark (-1)) := by
  intro u x w hb hu
  have b1 := below_new w (.cells #[.int .i64 x.up, .int .i64 x.tran, u] 39)
  have hu1 := hu.below b1
  obtain ⟨au, lu, cu, rfl, _, _, _, _⟩ := id hu1
  go_enter Try.func18, Try.ntmps18
  go_wp2_with fail
  refine (contains_any _ x.mark (-1) _ (by exact hu1)).mono ?_
  rintro e w1 ⟨rfl, rfl⟩
  go_wp2
  go_ret
  exact ⟨rfl, b1⟩

theorem bounded3_any (w0 : World) (bx : Nat) (u : Value) (x : List Int) (hlt : bx < w0.heap.size) (hc : w0.cell? ⟨bx, 0, none⟩ = some u) (hu : Ints w0 u x) :
    AsksKQ w0 23 (.pointer (some ⟨bx, 0, none⟩)) (fun k => k.mark == x) := by
  intro v k w hb hv
  have b1 := below_new w (.cells #[.int .i64 k.up, .int .i64 k.tran, v] 39)
  have hc' := ((below_then hb b1).cell (p := ⟨bx, 0, none⟩) hlt).trans hc
  have hu' := (hu.below hb).below b1
  have hv1 := hv.below b1
  obtain ⟨av, lv, cv, rfl, _, _, _, _⟩ := id hv1
  obtain ⟨au, lu, cu, rfl, _, _, _, _⟩ := id hu'
  clear hc hu
  go_enter Try.func23, Try.ntmps23
  obtain ⟨wt, Hwt⟩ : ∃ wt, Hid (w.alloc (.cells #[.int .i64 k.up, .int .i64 k.tran, .slice av lv cv] 39) = wt) := ⟨_, rfl⟩
  have hbx3 := box3_new w (.int .i64 k.up) (.int .i64 k.tran) (.slice av lv cv) 39
  rw [Hwt.out] at b1 hc' hu' hv1 hbx3
  go_upto_region 1 with fail
  rw [Hwt.out]
  clear Hwt
  obtain ⟨z0, z1, z2, z3⟩ := hbx3
  go_wp2_with fail
  refine (equal_b _ _ k.mark x _ (by exact hv1) (by exact hu')).mono ?_
  rintro e w1 ⟨rfl, b⟩
  have b2 := below_then b1 b
  clear b
  go_wp2
  go_ret
  exact ⟨rfl, b2⟩

theorem bounded4_any (w0 : World) (bx : Nat) (k : KnotL) (u : Value) (hx : Box3 w0 bx (.int .i64 k.up) (.int .i64 k.tran) u) (hu : Ints w0 u k.mark) :
    AsksQ w0 26 (.pointer (some ⟨bx, 0, none⟩)) (fun y => k.mark == y) := by
  intro v y w hb hv
  obtain ⟨z0, z1, z2, z3⟩ := hx
  have hc' := (hb.cell (p := ⟨bx, 2, none⟩) z0).trans z3
  have hu' := hu.below hb
  obtain ⟨au, lu, cu, rfl, _, _, _, _⟩ := id hu'
  clear hu z1 z2 z3
  go_enter Try.func26, Try.ntmps26
  go_wp2_with fail
  refine (equal_b _ _ k.mark y _ (by exact hu') (by exact hv)).mono ?_
  rintro e w1 ⟨rfl, b⟩
  go_wp2
  go_ret
  exact ⟨rfl, b⟩

end Go.Proofs.Ytbpkebkblkjdhaa
