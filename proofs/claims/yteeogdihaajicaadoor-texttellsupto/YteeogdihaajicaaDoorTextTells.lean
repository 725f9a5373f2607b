/- TextTells: Print and Parse answer what O1 and O2 say. -/
import Derived.Test.YteeogdihaajicaaDoorTextRef7
import Derived.Test.YteeogdihaajicaaDoorTextBack
import Derived.Test.YteeogdihaajicaaDoorTextTabs
namespace Go.Proofs.YteeogdihaajicaaDoor
open Go.RowKit
set_option linter.unusedVariables false
set_option linter.unusedSimpArgs false
set_option maxRecDepth 4000

set_option maxHeartbeats 4000000 in
theorem textTells_walk (v0 : Value) (x0 : NetL) (x1 : Bytes) (W : World) (i0 : Net W v0 x0) (hbk : BulkNet x0) (hs : x1.length ≤ 1048576) (hv : VarM W) (hT : Tabs15 W.heap.size W) :
    Calls Tryd.prog 3 #[v0, .string (bs x1)] W fun e W' => e = .returned (.bool true) ∧ Below W.heap.size W W' := by
  obtain ⟨tv, rfl, hTv⟩ := id i0
  have hbx := box2_new W (.int .i64 x0.places) tv 24
  have c := below_new W (.cells #[.int .i64 x0.places, tv] 24)
  obtain ⟨w0, H0⟩ : ∃ u, Hid (W.alloc (.cells #[.int .i64 x0.places, tv] 24) = u) := ⟨_, rfl⟩
  obtain ⟨NB, HNB⟩ : ∃ z, Hid (W.heap.size = z) := ⟨_, rfl⟩
  rw [H0.out, HNB.out] at hbx
  rw [H0.out] at c
  have Hc : Hid (Below W.heap.size W w0) := c
  clear hTv c
  obtain ⟨_, y0, y1⟩ := id hbx
  go_enter Tryd.func3, Tryd.ntmps3
  go_upto_region 1 with fail
  rw [H0.out, HNB.out]
  go_upto_region 2 with (go_at_call 7; refine (print_any _ x0 _ (by exact i0.below Hc.out)).mono ?_; rintro e w1 ⟨s, d, rfl, hI, b1⟩)
  have c1 := below_then Hc.out b1
  have hbx1 := hbx.below b1
  clear y0 y1
  obtain ⟨_, y0, y1⟩ := id hbx1
  go_upto_region 3 with (go_at_call 8; refine (oprint_any _ x0 _ (by exact i0.below c1) hbk.small).mono ?_; rintro e w2 ⟨s2, d2, rfl, hI2, b2⟩; obtain ⟨rfl, rfl⟩ := hI.one hI2)
  have c2 := below_then c1 b2
  clear y0 y1 hbx1 hbx b1 b2 H0 hI hI2
  go_upto_region 4 with (go_at_call 9; refine (parse_any x1 _ (hv.below c2) (by omega)).mono ?_; rintro e w3 ⟨⟨u, m, k, f, rfl, hN, hQ⟩, b3⟩; obtain ⟨uv, rfl, hU⟩ := id hN; obtain ⟨ua, ul, uc, rfl, _⟩ := id hU)
  have c3 := below_then c2 b3
  have bA := below_new w3 (.cells #[.int .i64 m.places, .slice ua ul uc] 24)
  have hby := box2_new w3 (.int .i64 m.places) (.slice ua ul uc) 24
  obtain ⟨w4, H4⟩ : ∃ u, Hid (w3.alloc (.cells #[.int .i64 m.places, .slice ua ul uc] 24) = u) := ⟨_, rfl⟩
  obtain ⟨Y, HY⟩ : ∃ z, Hid (w3.heap.size = z) := ⟨_, rfl⟩
  rw [H4.out, HY.out] at hby
  rw [H4.out] at bA
  rw [H4.out, HY.out]
  have c4 := below_then c3 bA
  have hN4 := hN.below bA
  have hT4 : Tabs15 w4.heap.size w4 := (hT.on c4).up c4.size
  have HQ : Hid (ParseIs x1 m k f) := hQ
  clear hU hN bA H4 b3 hQ
  go_upto_region 5 with (go_at_call 10; refine (oparse_any x1 _ hT4 hs).mono ?_; rintro e w5 ⟨⟨u2, m2, k2, f2, rfl, hN2, hQ2⟩, b5⟩; obtain ⟨uv2, rfl, hU2⟩ := id hN2; obtain ⟨ua2, ul2, uc2, rfl, _⟩ := id hU2; obtain ⟨rfl, rfl, rfl⟩ := HQ.out.one hQ2)
  have c5 := below_then c4 b5
  have bB := below_new w5 (.cells #[.int .i64 m.places, .slice ua2 ul2 uc2] 24)
  have hbz := box2_new w5 (.int .i64 m.places) (.slice ua2 ul2 uc2) 24
  have hby6 := (hby.below b5).below bB
  have hN6 := (hN4.below b5).below bB
  have hM6 := hN2.below bB
  obtain ⟨w6, H6⟩ : ∃ u, Hid (w5.alloc (.cells #[.int .i64 m.places, .slice ua2 ul2 uc2] 24) = u) := ⟨_, rfl⟩
  obtain ⟨Z, HZ⟩ : ∃ z, Hid (w5.heap.size = z) := ⟨_, rfl⟩
  rw [H6.out, HZ.out] at hbz
  rw [H6.out] at bB hby6 hN6 hM6
  rw [H6.out, HZ.out]
  have c6 := below_then c5 bB
  clear hU2 hN2 hN4 bB H6 b5 hQ2 hby
  obtain ⟨_, y0, y1⟩ := id hby6
  obtain ⟨_, z0, z1⟩ := id hbz
  have n0 := bs_yes (a := s) (b := s) rfl
  have n1 := sameN_selfT m
  go_wp2_with (go_at_call 11; refine (samenet_any _ _ m m _ ?_ ?_).mono ?_; exact hN6; exact hM6; rintro e w7 ⟨rfl, b7⟩; rw [n1])
  go_ret
  exact ⟨rfl, below_then c6 b7⟩

end Go.Proofs.YteeogdihaajicaaDoor
