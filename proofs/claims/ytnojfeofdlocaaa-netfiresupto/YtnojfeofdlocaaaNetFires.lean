/- The law NetFires, walked: it answers true, and writes nothing that was there. -/
import Derived.Test.YtnojfeofdlocaaaNetDev
namespace Go.Proofs.Ytnojfeofdlocaaa
open Go.RowKit
set_option linter.unusedVariables false

theorem below_drew1 (w : World) : Below w.heap.size w w.drew := below_drewN (Below.refl _ _) 1

set_option maxHeartbeats 2000000 in
theorem netFires_walk (v u : Value) (n : NetL) (m : List Int) (t : Int) (w : World) (hv : Net w v n) (hu : Ints w u m) (hbn : BulkNet n) (hbm : m.length ≤ 1048576) :
    Calls Try.prog 3 #[v, u, .int .i64 t] w fun e w' => e = .returned (.bool true) ∧ Below w.heap.size w w' := by
  have hsm := hbn.small
  obtain ⟨tv, rfl, hT⟩ := hv
  have b1 := below_new w (.cells #[.int .i64 n.places, tv] 24)
  have hbx := box2_new w (.int .i64 n.places) tv 24
  have hv : Net _ (.agg #[.int .i64 n.places, tv]) n := ⟨_, rfl, hT.below b1⟩
  replace hu := hu.below b1
  go_enter Try.func3, Try.ntmps3
  go_wp2_with fail
  refine (net_enabled _ _ n m _ (by exact hv) (by exact hu)).mono ?_
  rintro e w1 ⟨r1, rfl, hr1, b⟩
  have c := below_then b1 b
  replace hv := hv.below b
  replace hu := hu.below b
  replace hbx := hbx.below b
  clear b b1
  obtain ⟨hx0, hx1, hx2⟩ := id hbx
  go_wp2_with fail
  refine (benabled_any _ _ n m _ (by exact hv) (by exact hu) hsm).mono ?_
  rintro e w2 ⟨r2, rfl, hr2, b⟩
  replace c := below_then c b
  replace hv := hv.below b
  replace hu := hu.below b
  replace hbx := hbx.below b
  replace hr1 := hr1.below b
  clear b hx0 hx1 hx2
  obtain ⟨hx0, hx1, hx2⟩ := id hbx
  go_wp2_with fail
  refine (net_fire _ _ n m t _ (by exact hv) (by exact hu)).mono ?_
  rintro e w3 ⟨r3, rfl, hr3, b⟩
  replace c := below_then c b
  replace hv := hv.below b
  replace hu := hu.below b
  replace hbx := hbx.below b
  replace hr1 := hr1.below b
  replace hr2 := hr2.below b
  clear b hx0 hx1 hx2
  obtain ⟨hx0, hx1, hx2⟩ := id hbx
  go_wp2_with fail
  refine (bfire_any _ _ n m t _ (by exact hv) (by exact hu) hsm).mono ?_
  rintro e w4 ⟨r4, rfl, hr4, b⟩
  replace c := below_then c b
  replace hv := hv.below b
  replace hbx := hbx.below b
  replace hr1 := hr1.below b
  replace hr2 := hr2.below b
  replace hr3 := hr3.below b
  clear b hx0 hx1 hx2 hu
  obtain ⟨hx0, hx1, hx2⟩ := id hbx
  go_wp2
  go_region_held3 (fun w' => w'.cell? ⟨w.heap.size, 0, none⟩ = some (.int .i64 n.places) ∧ w'.cell? ⟨w.heap.size, 1, none⟩ = some tv)
    (go_keep)
    (first
      | (go_at_call 13; refine (net_wrong _ n _ ?_).mono ?_; exact hv.below (below_drew1 _); rintro e w5 ⟨rfl, q5⟩; have q5 := below_then (below_drew1 _) q5; have y0 := (q5.cell (p := ⟨w.heap.size, 0, none⟩) hx0).trans hx1; have y1 := (q5.cell (p := ⟨w.heap.size, 1, none⟩) hx0).trans hx2)
      | (go_at_call 14; refine (bwrong_any _ n _ ?_ hsm).mono ?_; exact hv.below q5; rintro e w6 ⟨rfl, q6⟩; have q6 := below_then q5 q6; have z0 := (q6.cell (p := ⟨w.heap.size, 0, none⟩) hx0).trans hx1; have z1 := (q6.cell (p := ⟨w.heap.size, 1, none⟩) hx0).trans hx2)
      | (go_at_call_of 15 r1; refine (equal_b _ _ (canL n m).1 (canL n m).1 _ ?_ ?_).mono ?_; exact hr1.below q6; exact hr2.below q6; rintro e w7 ⟨rfl, q7⟩; have q7 := below_then q6 q7; have z2 := (q7.cell (p := ⟨w.heap.size, 0, none⟩) hx0).trans hx1; have z3 := (q7.cell (p := ⟨w.heap.size, 1, none⟩) hx0).trans hx2)
      | (go_at_call_of 15 r3; refine (equal_b _ _ (fireL n m t).1 (fireL n m t).1 _ ?_ ?_).mono ?_; exact hr3.below q7; exact hr4.below q7; rintro e w8 ⟨rfl, q8⟩; have q8 := below_then q7 q8; have z4 := (q8.cell (p := ⟨w.heap.size, 0, none⟩) hx0).trans hx1; have z5 := (q8.cell (p := ⟨w.heap.size, 1, none⟩) hx0).trans hx2))
  go_wp2
  go_ret
  exact ⟨by simp, below_then c q8⟩

end Go.Proofs.Ytnojfeofdlocaaa
