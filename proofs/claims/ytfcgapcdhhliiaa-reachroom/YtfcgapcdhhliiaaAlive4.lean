/- The small trial of package reach that the laws make first: it answers true. -/
import Derived.Test.YtfcgapcdhhliiaaReachDev
import Derived.Test.YtfcgapcdhhliiaaLits
namespace Go.Proofs.Ytfcgapcdhhliiaa
open Go.RowKit
set_option linter.unusedVariables false

def net4 : NetL := netOf 1 0 0 1 0 1 1 0
def space4 : SpaceL := ⟨[[2, 0], [1, 1], [0, 2]], [⟨0, 0, 1⟩, ⟨1, 0, 2⟩, ⟨1, 1, 0⟩, ⟨2, 1, 1⟩]⟩
theorem net4_graph : graphL net4 [2, 0] 9 = (space4, 0) := by rfl
theorem net4_full : (graphL net4 [2, 0] 2).2 = 4 := by rfl
theorem net4_path : reachL net4 [2, 0] [0, 2] 9 = ([0, 0], 0) := by rfl

set_option maxHeartbeats 2000000 in
theorem alive4_any (w : World) :
    Calls Try.prog 13 #[] w fun e w' => e = .returned (.bool true) ∧ Below w.heap.size w w' := by
  obtain ⟨hT, hb, hs⟩ := lit_net w _ 1 0 0 1 0 1 1 0 rfl
  go_enter Try.func13, Try.ntmps13
  go_upto_region 1 with fail
  go_cut [1] (fun p wc => ∃ b tv, p = .pointer (some ⟨b, 0, none⟩) ∧ Box2 wc b (.int .i64 2) tv ∧ Net wc (.agg #[.int .i64 2, tv]) net4 ∧ Below w.heap.size w wc)
  case first =>
    have HT : Hid _ := hT
    have HB : Hid _ := hb
    have HS : Hid _ := hs
    clear hT hb hs
    go_wp2_with fail
    go_meet
    exact lit_netb w _ net4 rfl HT.out HB.out HS.out
  case rest =>
    clear hT hb hs
    obtain ⟨bk, tv, rfl, hbx, hv, c⟩ := hcut
    obtain ⟨w0, rfl⟩ : ∃ w0, w0 = wc := ⟨_, rfl⟩
    obtain ⟨x0, x1, x2⟩ := id hbx
    have b1 := below_new w0 (.cells #[.int .i64 2, .int .i64 0] 3)
    go_wp2_with fail
    refine (reach_graph _ _ net4 [2, 0] 9 _ (by exact hv.below b1) (by exact ints_lit w0 _ [2, 0] 3 2 rfl (by omega) rfl)).mono ?_
    rintro e w1 ⟨r1, rfl, hr1, b⟩
    rw [net4_graph] at hr1
    simp only [net4_graph]
    replace b := below_then b1 b
    replace hv := hv.below b
    replace hbx := hbx.below b
    replace c := below_then c b
    clear b b1 x0 x1 x2
    obtain ⟨mv, av, rfl, hM, hA⟩ := hr1
    obtain ⟨am, cm, rfl, _, _⟩ := hM.slice
    obtain ⟨aa, ca, rfl, _⟩ := hA.slice
    clear hM hA
    have k1 : ((space4.marks.length : Nat) : Int) = 3 := rfl
    have k2 : ((List.map arcZ space4.arcs).length : Int) = 4 := rfl
    generalize space4.marks.length = lm at *
    generalize (List.map arcZ space4.arcs).length = la at *
    have bs := below_new w1 (.cells #[.slice am lm cm, .slice aa la ca] 29)
    have hbs := box2_new w1 (.slice am lm cm) (.slice aa la ca) 29
    obtain ⟨ws, Hws⟩ : ∃ ws, Hid (w1.alloc (.cells #[.slice am lm cm, .slice aa la ca] 29) = ws) := ⟨_, rfl⟩
    rw [Hws.out] at bs hbs
    replace hv := hv.below bs
    replace hbx := hbx.below bs
    replace c := below_then c bs
    clear bs
    obtain ⟨x0, x1, x2⟩ := id hbx
    have b1 := below_new ws (.cells #[.int .i64 2, .int .i64 0] 3)
    have b2 := below_new (ws.alloc (.cells #[.int .i64 2, .int .i64 0] 3)) (.cells #[.int .i64 0, .int .i64 2] 3)
    have b3 := below_then b1 b2
    go_upto_region 3 with fail
    rw [Hws.out]
    clear Hws
    go_wp2_with fail
    refine (reach_path _ _ _ net4 [2, 0] [0, 2] 9 _ (by exact hv.below b3) (by exact (ints_lit ws _ [2, 0] 3 2 rfl (by omega) rfl).below b2) (by exact ints_lit _ _ [0, 2] 3 2 rfl (by omega) (by simp)) (by intro z hz; unfold inWord; simp at hz; omega)).mono ?_
    rintro e w2 ⟨r2, rfl, hr2, b⟩
    rw [net4_path] at hr2
    simp only [net4_path]
    replace b := below_then b3 b
    replace hv := hv.below b
    replace hbx := hbx.below b
    replace hbs := hbs.below b
    replace c := below_then c b
    clear b b1 b2 b3 x0 x1 x2
    obtain ⟨x0, x1, x2⟩ := id hbx
    have b1 := below_new w2 (.cells #[.int .i64 2, .int .i64 0] 3)
    go_wp2_with fail
    refine (reach_graph _ _ net4 [2, 0] 2 _ (by exact hv.below b1) (by exact ints_lit w2 _ [2, 0] 3 2 rfl (by omega) rfl)).mono ?_
    rintro e w3 ⟨r3, rfl, hr3, b⟩
    simp only [net4_full]
    replace b := below_then b1 b
    replace hbs := hbs.below b
    replace hr2 := hr2.below b
    replace c := below_then c b
    clear b b1 x0 x1 x2 hbx hv
    obtain ⟨mv3, av3, rfl, hM, hA⟩ := hr3
    obtain ⟨am3, cm3, rfl, _, _⟩ := hM.slice
    obtain ⟨aa3, ca3, rfl, _⟩ := hA.slice
    clear hM hA
    generalize (graphL net4 [2, 0] 2).1.marks.length = lm3 at *
    generalize (List.map arcZ (graphL net4 [2, 0] 2).1.arcs).length = la3 at *
    have bs := below_new w3 (.cells #[.slice am3 lm3 cm3, .slice aa3 la3 ca3] 29)
    obtain ⟨wt, Hwt⟩ : ∃ wt, Hid (w3.alloc (.cells #[.slice am3 lm3 cm3, .slice aa3 la3 ca3] 29) = wt) := ⟨_, rfl⟩
    rw [Hwt.out] at bs
    replace hbs := hbs.below bs
    replace hr2 := hr2.below bs
    replace c := below_then c bs
    clear bs
    obtain ⟨y0, y1, y2⟩ := id hbs
    have b1 := below_new wt (.cells #[.int .i64 0, .int .i64 0] 3)
    go_upto_region 5 with fail
    rw [Hwt.out]
    clear Hwt
    go_wp2_with fail
    refine (equal_b _ _ [0, 0] [0, 0] _ (by exact hr2.below b1) (by exact ints_lit wt _ [0, 0] 3 2 rfl (by omega) rfl)).mono ?_
    rintro e w4 ⟨rfl, b⟩
    replace c := below_then c (below_then b1 b)
    clear b b1
    go_wp2
    go_ret
    exact ⟨rfl, c⟩

end Go.Proofs.Ytfcgapcdhhliiaa
