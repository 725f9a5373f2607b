/- The small trial of package live that the laws make first: it answers true. -/
import Derived.Test.YtlejaeecfeiajaaLiveDev
import Derived.Test.YtlejaeecfeiajaaNet1
namespace Go.Proofs.Ytlejaeecfeiajaa
open Go.RowKit
set_option linter.unusedVariables false
set_option maxRecDepth 4000

def space7 : SpaceZ := ⟨[[1, 0], [0, 2], [0, 0]], [(0, 0, 1), (1, 1, 0), (1, 2, 2)]⟩
def space7b : SpaceZ := ⟨[[1]], [(0, 0, 0)]⟩
theorem s7_right : rightS space7 = true := by rfl
theorem s7_dead : deadL space7 4 = [3] := by rfl
theorem s7_stuck : stuckL space7 = [2] := by rfl
theorem s7_bound : boundL space7 = 2 := by rfl
theorem s7_live {xs : List Int} (h : IsLive space7 4 xs) : xs = [] := stuck_live (k := 2) (by rw [s7_stuck]; simp) h
theorem s7_home {xs : List Int} (h : IsHome space7 xs) : xs = [2] := by
  have c11 : Comes space7 1 1 := .here 1
  have c12 : Comes space7 1 2 := Comes.go (a := (1, 2, 2)) c11 (by simp [space7])
  have c00 : Comes space7 0 0 := .here 0
  have c01 : Comes space7 0 1 := Comes.go (a := (0, 0, 1)) c00 (by simp [space7])
  have c02 : Comes space7 0 2 := Comes.go (a := (1, 2, 2)) c01 (by simp [space7])
  refine (stuck_home (k := 2) (by rw [s7_stuck]; simp) h ((h.mem 2).2 ⟨s7_right, by omega, by simp [space7], fun i h1 h2 => ?_⟩)).1
  have h3 : i < 3 := by simpa [space7] using h2
  rcases (show i = 0 ∨ i = 1 ∨ i = 2 by omega) with rfl | rfl | rfl
  · exact c02
  · exact c12
  · exact .here 2
theorem s7b_live {xs : List Int} (h : IsLive space7b 2 xs) : xs = [0] := by
  refine up_one h.up fun t => ⟨fun ht => ?_, fun e => ?_⟩
  · obtain ⟨_, _, _, hall⟩ := (h.mem t).1 ht
    obtain ⟨a, ha, e, _⟩ := hall 0 (by omega) (by simp [space7b])
    simp [space7b] at ha
    subst ha
    exact e.symm
  · subst e
    refine (h.mem 0).2 ⟨rfl, by omega, by omega, fun k h1 h2 => ⟨(0, 0, 0), by simp [space7b], rfl, ?_⟩⟩
    have : k = 0 := by simp [space7b] at h2; omega
    subst this
    exact .here 0

theorem lit_space (w W : World) (hW : W = ((((((w.alloc (.cells #[.int .i64 1, .int .i64 0] 3)).alloc (.cells #[.int .i64 0, .int .i64 2] 3)).alloc (.cells #[.int .i64 0, .int .i64 0] 3)).alloc
      (.cells #[.slice (some ⟨w.heap.size, 0, none⟩) 2 2, .slice (some ⟨w.heap.size + 1, 0, none⟩) 2 2, .slice (some ⟨w.heap.size + 1 + 1, 0, none⟩) 2 2] 28)).alloc
      (.cells #[.int .i64 0, .int .i64 0, .int .i64 1, .int .i64 1, .int .i64 1, .int .i64 0, .int .i64 1, .int .i64 2, .int .i64 2] 44)).alloc
      (.cells #[.slice (some ⟨w.heap.size + 1 + 1 + 1, 0, none⟩) 3 3, .slice (some ⟨w.heap.size + 1 + 1 + 1 + 1, 0, none⟩) 3 3] 25))) :
    ∃ b mv av, Value.pointer (some ⟨w.heap.size + 1 + 1 + 1 + 1 + 1, 0, none⟩) = .pointer (some ⟨b, 0, none⟩) ∧ Box2 W b mv av ∧ SpaceV W (.agg #[mv, av]) space7 ∧ Below w.heap.size w W := by
  have b1 := below_new w (.cells #[.int .i64 1, .int .i64 0] 3)
  have i1 := ints_lit w _ [1, 0] 3 2 rfl (by omega) rfl
  have s1 : (w.alloc (.cells #[.int .i64 1, .int .i64 0] 3)).heap.size = w.heap.size + 1 := by simp
  generalize hw1 : w.alloc (.cells #[.int .i64 1, .int .i64 0] 3) = w1 at *
  have i1 : Ints w1 (.slice (some ⟨w.heap.size, 0, none⟩) 2 2) [1, 0] := by rw [← hw1]; exact i1
  have b2 := below_new w1 (.cells #[.int .i64 0, .int .i64 2] 3)
  have i2 : Ints (w1.alloc (.cells #[.int .i64 0, .int .i64 2] 3)) (.slice (some ⟨w.heap.size + 1, 0, none⟩) 2 2) [0, 2] := ints_lit w1 _ [0, 2] 3 2 rfl (by omega) s1.symm
  have s2 : (w1.alloc (.cells #[.int .i64 0, .int .i64 2] 3)).heap.size = w.heap.size + 1 + 1 := by simp [s1]
  generalize w1.alloc (.cells #[.int .i64 0, .int .i64 2] 3) = w2 at *
  have b3 := below_new w2 (.cells #[.int .i64 0, .int .i64 0] 3)
  have i3 : Ints (w2.alloc (.cells #[.int .i64 0, .int .i64 0] 3)) (.slice (some ⟨w.heap.size + 1 + 1, 0, none⟩) 2 2) [0, 0] := ints_lit w2 _ [0, 0] 3 2 rfl (by omega) s2.symm
  have s3 : (w2.alloc (.cells #[.int .i64 0, .int .i64 0] 3)).heap.size = w.heap.size + 1 + 1 + 1 := by simp [s2]
  generalize w2.alloc (.cells #[.int .i64 0, .int .i64 0] 3) = w3 at *
  have l4 := lists_lit3 w3 (w.heap.size + 1 + 1 + 1) _ _ _ [1, 0] [0, 2] [0, 0] ((i1.below b2).below b3) (i2.below b3) i3 s3.symm
  have b4 := below_new w3 (.cells #[.slice (some ⟨w.heap.size, 0, none⟩) 2 2, .slice (some ⟨w.heap.size + 1, 0, none⟩) 2 2, .slice (some ⟨w.heap.size + 1 + 1, 0, none⟩) 2 2] 28)
  have s4 : (w3.alloc (.cells #[.slice (some ⟨w.heap.size, 0, none⟩) 2 2, .slice (some ⟨w.heap.size + 1, 0, none⟩) 2 2, .slice (some ⟨w.heap.size + 1 + 1, 0, none⟩) 2 2] 28)).heap.size = w.heap.size + 1 + 1 + 1 + 1 := by simp [s3]
  generalize w3.alloc (.cells #[.slice (some ⟨w.heap.size, 0, none⟩) 2 2, .slice (some ⟨w.heap.size + 1, 0, none⟩) 2 2, .slice (some ⟨w.heap.size + 1 + 1, 0, none⟩) 2 2] 28) = w4 at *
  have a5 := arcs_lit3 w4 (w.heap.size + 1 + 1 + 1 + 1) 0 0 1 1 1 0 1 2 2 s4.symm
  have b5 := below_new w4 (.cells #[.int .i64 0, .int .i64 0, .int .i64 1, .int .i64 1, .int .i64 1, .int .i64 0, .int .i64 1, .int .i64 2, .int .i64 2] 44)
  have s5 : (w4.alloc (.cells #[.int .i64 0, .int .i64 0, .int .i64 1, .int .i64 1, .int .i64 1, .int .i64 0, .int .i64 1, .int .i64 2, .int .i64 2] 44)).heap.size = w.heap.size + 1 + 1 + 1 + 1 + 1 := by simp [s4]
  generalize w4.alloc (.cells #[.int .i64 0, .int .i64 0, .int .i64 1, .int .i64 1, .int .i64 1, .int .i64 0, .int .i64 1, .int .i64 2, .int .i64 2] 44) = w5 at *
  have b6 := below_new w5 (.cells #[.slice (some ⟨w.heap.size + 1 + 1 + 1, 0, none⟩) 3 3, .slice (some ⟨w.heap.size + 1 + 1 + 1 + 1, 0, none⟩) 3 3] 25)
  have hx := box2_new w5 (.slice (some ⟨w.heap.size + 1 + 1 + 1, 0, none⟩) 3 3) (.slice (some ⟨w.heap.size + 1 + 1 + 1 + 1, 0, none⟩) 3 3) 25
  rw [s5] at hx
  rw [hW]
  exact ⟨_, _, _, rfl, hx, ⟨by simp [space7], _, _, rfl, (l4.below b5).below b6, a5.below b6⟩, below_then b1 (below_then b2 (below_then b3 (below_then b4 (below_then b5 b6))))⟩

set_option maxHeartbeats 4000000 in
theorem alive7_any (w : World) :
    Calls Try.prog 20 #[] w fun e w' => e = .returned (.bool true) ∧ Below w.heap.size w w' := by
  have HL : Hid _ := lit_space w _ rfl
  go_enter Try.func20, Try.ntmps20
  go_upto_region 1 with fail
  go_cut [1] (fun p wc => ∃ b mv av, p = .pointer (some ⟨b, 0, none⟩) ∧ Box2 wc b mv av ∧ SpaceV wc (.agg #[mv, av]) space7 ∧ Below w.heap.size w wc)
  case first =>
    go_wp2_with fail
    go_meet
    exact HL.out
  case rest =>
    clear HL
    obtain ⟨bk, mv, av, rfl, hbx, hv, c⟩ := hcut
    obtain ⟨w0, rfl⟩ : ∃ w0, w0 = wc := ⟨_, rfl⟩
    obtain ⟨x0, x1, x2⟩ := id hbx
    go_wp2_with fail
    refine (live_right _ space7 _ (by exact hv)).mono ?_
    rintro e w1 ⟨rfl, b⟩
    rw [s7_right]
    replace hv := hv.below b
    replace hbx := hbx.below b
    replace c := below_then c b
    clear b x0 x1 x2
    obtain ⟨x0, x1, x2⟩ := id hbx
    go_wp2_with fail
    refine (live_dead _ space7 4 _ (by exact hv)).mono ?_
    rintro e w2 ⟨r, rfl, hr, b⟩
    rw [s7_dead] at hr
    replace hv := hv.below b
    replace hbx := hbx.below b
    replace c := below_then c b
    clear b x0 x1 x2
    have b1 := below_new w2 (.cells #[.int .i64 3] 3)
    go_wp2_with fail
    refine (equal_b _ _ [3] [3] _ (by exact hr.below b1) (by exact ints_lit w2 _ [3] 3 1 rfl (by omega) rfl)).mono ?_
    rintro e w3 ⟨rfl, b⟩
    rw [show (([3] : List Int) == [3]) = true from rfl]
    replace b := below_then b1 b
    replace hv := hv.below b
    replace hbx := hbx.below b
    replace c := below_then c b
    clear b b1 hr
    obtain ⟨x0, x1, x2⟩ := id hbx
    go_wp2_with fail
    refine (live_live _ space7 4 _ (by exact hv)).mono ?_
    rintro e w4 ⟨r, xs, rfl, hr, hL, b⟩
    rw [s7_live hL] at hr
    obtain ⟨ar, lr, cr, rfl, hl, _, _, _⟩ := id hr
    obtain rfl : lr = 0 := by simpa using hl.symm
    replace hv := hv.below b
    replace hbx := hbx.below b
    replace c := below_then c b
    clear b x0 x1 x2 hr hL hl
    obtain ⟨x0, x1, x2⟩ := id hbx
    go_wp2_with fail
    refine (live_stuck _ space7 _ (by exact hv)).mono ?_
    rintro e w5 ⟨r, rfl, hr, b⟩
    rw [s7_stuck] at hr
    replace hv := hv.below b
    replace hbx := hbx.below b
    replace c := below_then c b
    clear b x0 x1 x2
    have b1 := below_new w5 (.cells #[.int .i64 2] 3)
    go_wp2_with fail
    refine (equal_b _ _ [2] [2] _ (by exact hr.below b1) (by exact ints_lit w5 _ [2] 3 1 rfl (by omega) rfl)).mono ?_
    rintro e w6 ⟨rfl, b⟩
    rw [show (([2] : List Int) == [2]) = true from rfl]
    replace b := below_then b1 b
    replace hv := hv.below b
    replace hbx := hbx.below b
    replace c := below_then c b
    clear b b1 hr
    obtain ⟨x0, x1, x2⟩ := id hbx
    go_wp2_with fail
    refine (live_home _ space7 _ (by exact hv)).mono ?_
    rintro e w7 ⟨r, xs, rfl, hr, hL, b⟩
    rw [s7_home hL] at hr
    replace hv := hv.below b
    replace hbx := hbx.below b
    replace c := below_then c b
    clear b x0 x1 x2 hL
    have b1 := below_new w7 (.cells #[.int .i64 2] 3)
    go_wp2_with fail
    refine (equal_b _ _ [2] [2] _ (by exact hr.below b1) (by exact ints_lit w7 _ [2] 3 1 rfl (by omega) rfl)).mono ?_
    rintro e w8 ⟨rfl, b⟩
    rw [show (([2] : List Int) == [2]) = true from rfl]
    replace b := below_then b1 b
    replace hv := hv.below b
    replace hbx := hbx.below b
    replace c := below_then c b
    clear b b1 hr
    obtain ⟨x0, x1, x2⟩ := id hbx
    go_wp2_with fail
    refine (live_bound _ space7 _ (by exact hv)).mono ?_
    rintro e w9 ⟨rfl, b⟩
    rw [s7_bound]
    replace c := below_then c b
    clear b x0 x1 x2 hv hbx
    have d1 := below_new w9 (.cells #[.int .i64 1] 3)
    have j1 : Ints _ _ [1] := ints_lit w9 _ [1] 3 1 rfl (by omega) rfl
    have d2 := below_new (w9.alloc (.cells #[.int .i64 1] 3)) (.cells #[.slice (some ⟨w9.heap.size, 0, none⟩) 1 1] 28)
    have j2 := lists_lit1 (w9.alloc (.cells #[.int .i64 1] 3)) (w9.heap.size + 1) _ [1] j1 (by simp)
    have d3 := below_new ((w9.alloc (.cells #[.int .i64 1] 3)).alloc (.cells #[.slice (some ⟨w9.heap.size, 0, none⟩) 1 1] 28)) (.cells #[.int .i64 0, .int .i64 0, .int .i64 0] 44)
    have j3 := arcs_lit1 ((w9.alloc (.cells #[.int .i64 1] 3)).alloc (.cells #[.slice (some ⟨w9.heap.size, 0, none⟩) 1 1] 28)) (w9.heap.size + 1 + 1) 0 0 0 (by simp)
    have hvb : SpaceV _ (.agg #[_, _]) space7b := ⟨by simp [space7b], _, _, rfl, j2.below d3, j3⟩
    go_wp2_with fail
    refine (live_live _ space7b 2 _ (by exact hvb)).mono ?_
    rintro e w10 ⟨r, xs, rfl, hr, hL, b⟩
    rw [s7b_live hL] at hr
    replace c := below_then c (below_then d1 (below_then d2 (below_then d3 b)))
    clear b d1 d2 d3 j1 j2 j3 hvb hL
    have b1 := below_new w10 (.cells #[.int .i64 0] 3)
    go_wp2_with fail
    refine (equal_b _ _ [0] [0] _ (by exact hr.below b1) (by exact ints_lit w10 _ [0] 3 1 rfl (by omega) rfl)).mono ?_
    rintro e w11 ⟨rfl, b⟩
    rw [show (([0] : List Int) == [0]) = true from rfl]
    replace c := below_then c (below_then b1 b)
    go_wp2
    go_ret
    exact ⟨rfl, c⟩

end Go.Proofs.Ytlejaeecfeiajaa
