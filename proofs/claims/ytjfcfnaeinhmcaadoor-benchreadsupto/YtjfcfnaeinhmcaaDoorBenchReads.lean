/- BenchReads: Print and Log answer what X1 says. -/
import Derived.Test.YtjfcfnaeinhmcaaDoorBenchRef2
import Derived.Test.YtjfcfnaeinhmcaaDoorBenchRef3
import Derived.Test.YtjfcfnaeinhmcaaDoorReachSame
import Derived.Test.YtjfcfnaeinhmcaaDoorReadB
namespace Go.Proofs.YtjfcfnaeinhmcaaDoor
open Go.RowKit
set_option linter.unusedVariables false
set_option linter.unusedSimpArgs false
set_option maxRecDepth 4000

set_option maxHeartbeats 4000000 in
theorem benchReads_walk (v0 : Value) (x0 : BlockL) (x1 : Bytes) (W : World) (i0 : BlockV W v0 x0) (hs : x1.length ≤ 1048576) (hv : VarM W) :
    Calls Tryd.prog 3 #[v0, .string (bs x1)] W fun e W' => e = .returned (.bool true) ∧ Below W.heap.size W W' := by
  obtain ⟨kv, rfl, hK⟩ := blockV_iff.1 i0
  obtain ⟨a, cap, rfl⟩ := slice_of hK
  have c := below_new W (.cells #[.int .i64 x0.kind, .int .i64 x0.label, .slice a x0.kids.length cap] 24)
  have hbx := box3_new W (.int .i64 x0.kind) (.int .i64 x0.label) (.slice a x0.kids.length cap) 24
  obtain ⟨w0, H0⟩ : ∃ u, Hid (W.alloc (.cells #[.int .i64 x0.kind, .int .i64 x0.label, .slice a x0.kids.length cap] 24) = u) := ⟨_, rfl⟩
  obtain ⟨NB, HNB⟩ : ∃ z, Hid (W.heap.size = z) := ⟨_, rfl⟩
  rw [H0.out, HNB.out] at hbx
  rw [H0.out] at c
  have Hc : Hid (Below W.heap.size W w0) := c
  clear hK c
  obtain ⟨_, y0, y1, y2⟩ := id hbx
  go_enter Tryd.func3, Tryd.ntmps3
  go_upto_region 1 with fail
  rw [H0.out, HNB.out]
  go_upto_region 2 with (go_at_call 4; refine (printB_any _ x0 _ (by exact i0.below Hc.out)).mono ?_; rintro e w1 ⟨s, d, rfl, hI, b1⟩)
  have c1 := below_then Hc.out b1
  have hbx1 := hbx.below b1
  clear y0 y1 y2
  obtain ⟨_, y0, y1, y2⟩ := id hbx1
  go_upto_region 3 with (go_at_call 5; refine (xprintB_any _ x0 _ (by exact i0.below c1)).mono ?_; rintro e w2 ⟨s2, d2, rfl, hI2, b2⟩; obtain ⟨rfl, rfl⟩ := hI.one hI2)
  have c2 := below_then c1 b2
  clear y0 y1 y2 hbx1 hbx b1 b2 H0 hI hI2
  go_upto_region 4 with (go_at_call 6; refine (log_any x1 _ (hv.below c2) hs).mono ?_; rintro e w3 ⟨⟨u, ls, k, f, rfl, hN, hQ⟩, b3⟩; obtain ⟨ua, ul, uc, rfl, _⟩ := id hN)
  have c3 := below_then c2 b3
  go_upto_region 5 with (go_at_call 7; refine (xlog_any x1 _ hs).mono ?_; rintro e w4 ⟨⟨u2, ls2, k2, f2, rfl, hN2, hQ2⟩, b4⟩; obtain ⟨ua2, ul2, uc2, rfl, _⟩ := id hN2; obtain ⟨rfl, rfl, rfl⟩ := hQ.one hQ2)
  have c4 := below_then c3 b4
  have hN4 := hN.below b4
  have n0 := bs_yes (a := s) (b := s) rfl
  clear hQ hQ2 hN b3 b4
  go_wp2_with (go_at_call 8; refine (samelists_same _ _ ls _ ?_ ?_).mono ?_; exact hN4; exact hN2; rintro e w7 ⟨rfl, b7⟩)
  go_ret
  exact ⟨rfl, below_then c4 b7⟩

end Go.Proofs.YtjfcfnaeinhmcaaDoor
