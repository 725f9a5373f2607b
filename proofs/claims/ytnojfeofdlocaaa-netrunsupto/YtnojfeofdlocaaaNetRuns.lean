/- The law NetRuns, walked: it answers true, and writes nothing that was there. -/
import Derived.Test.YtnojfeofdlocaaaNetDev
namespace Go.Proofs.Ytnojfeofdlocaaa
open Go.RowKit
set_option linter.unusedVariables false

theorem sameN_self (n : NetL) : sameN n n = true := by
  simp only [sameN, sameTs, sameTo, sameT, beq_self_eq_true, Bool.and_self, Bool.true_and]
  rw [List.all_eq_true]; intro _ _; rfl

set_option maxHeartbeats 2000000 in
theorem netRuns_walk (v u s : Value) (n : NetL) (m seq : List Int) (w : World) (hv : Net w v n) (hu : Ints w u m) (hs : Ints w s seq) (hbn : BulkNet n) (hbm : m.length ≤ 1048576) (hbs : seq.length ≤ 1048576) :
    Calls Try.prog 4 #[v, u, s] w fun e w' => e = .returned (.bool true) ∧ Below w.heap.size w w' := by
  have hsm := hbn.small
  obtain ⟨tv, rfl, hT⟩ := hv
  have c := below_new w (.cells #[.int .i64 n.places, tv] 24)
  have hbx := box2_new w (.int .i64 n.places) tv 24
  have hv : Net _ (.agg #[.int .i64 n.places, tv]) n := ⟨_, rfl, hT.below c⟩
  replace hu := hu.below c
  replace hs := hs.below c
  go_enter Try.func4, Try.ntmps4
  go_wp2_with fail
  refine (net_run n seq _ _ _ m _ (by exact hv) (by exact hu) (by exact hs)).mono ?_
  rintro e w1 ⟨r1, rfl, hr1, q⟩
  replace hv := hv.below q
  replace hu := hu.below q
  replace hs := hs.below q
  replace hbx := hbx.below q
  replace c := below_then c q
  clear q
  obtain ⟨x0, x1, x2⟩ := id hbx
  go_wp2_with fail
  refine (brun_any n hsm seq _ _ _ m _ (by exact hv) (by exact hu) (by exact hs)).mono ?_
  rintro e w2 ⟨r2, rfl, hr2, q⟩
  replace hv := hv.below q
  replace hbx := hbx.below q
  replace hr1 := hr1.below q
  replace c := below_then c q
  clear q x0 x1 x2 hu hs
  obtain ⟨x0, x1, x2⟩ := id hbx
  generalize runL n m seq = q at *
  obtain ⟨x, cd⟩ := q
  simp only at hr1 hr2 ⊢
  go_wp2
  go_region_held3 (fun w' => w'.cell? ⟨w.heap.size, 0, none⟩ = some (.int .i64 n.places) ∧ w'.cell? ⟨w.heap.size, 1, none⟩ = some tv)
    (go_keep)
    (first
      | (go_at_call 15; refine (equal_b _ _ x x _ ?_ ?_).mono ?_; exact hr1.drewN 1; exact hr2.drewN 1; rintro e w5 ⟨rfl, q5⟩; have q5 := below_then (below_drewN (Below.refl _ _) 1) q5; have y0 := (q5.cell (p := ⟨w.heap.size, 0, none⟩) x0).trans x1; have y1 := (q5.cell (p := ⟨w.heap.size, 1, none⟩) x0).trans x2)
      | (go_at_call 19; refine (net_turned _ n _ ?_).mono ?_; exact hv.below q5; rintro e w6 ⟨r6, rfl, hr6, q6⟩; have q6 := below_then q5 q6; have y2 := (q6.cell (p := ⟨w.heap.size, 0, none⟩) x0).trans x1; have y3 := (q6.cell (p := ⟨w.heap.size, 1, none⟩) x0).trans x2)
      | (go_at_call 20; refine (bturned_any _ n _ ?_).mono ?_; exact hv.below q6; rintro e w7 ⟨r7, rfl, hr7, q7⟩; have hr6' := hr6.below q7; have q7 := below_then q6 q7; have y4 := (q7.cell (p := ⟨w.heap.size, 0, none⟩) x0).trans x1; have y5 := (q7.cell (p := ⟨w.heap.size, 1, none⟩) x0).trans x2)
      | (go_at_call 18; refine (samenet_any _ _ (turnL n) (turnL n) _ ?_ ?_).mono ?_; exact hr6'; exact hr7; rintro e w8 ⟨rfl, q8⟩; have q8 := below_then q7 q8; have y6 := (q8.cell (p := ⟨w.heap.size, 0, none⟩) x0).trans x1; have y7 := (q8.cell (p := ⟨w.heap.size, 1, none⟩) x0).trans x2))
  go_wp2
  go_ret
  exact ⟨by simp [sameN_self], below_then c q8⟩

end Go.Proofs.Ytnojfeofdlocaaa
