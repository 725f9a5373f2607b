/- The law ShapeTurned, walked: it answers true, and writes nothing that was there. -/
import Derived.Deep.RegionHeld3
import Derived.Test.YthkalnijmlhgiaaAlive8
namespace Go.Proofs.Ythkalnijmlhgiaa
open Go.RowKit
set_option linter.unusedVariables false
set_option maxRecDepth 4000

set_option maxHeartbeats 2000000 in
theorem shapeTurned_walk (v : Value) (n : NetL) (i o : Int) (w : World) (hv : Net w v n) :
    Calls Try.prog 4 #[v, .int .i64 i, .int .i64 o] w fun e w' => e = .returned (.bool true) ∧ Below w.heap.size w w' := by
  obtain ⟨tv, rfl, hT⟩ := hv
  have c := below_new w (.cells #[.int .i64 n.places, tv] 24)
  have hbx := box2_new w (.int .i64 n.places) tv 24
  have hv : Net _ (.agg #[.int .i64 n.places, tv]) n := ⟨_, rfl, hT.below c⟩
  clear hT
  go_enter Try.func4, Try.ntmps4
  go_wp2_with fail
  refine (alive8_any _).mono ?_
  rintro e w1 ⟨rfl, b⟩
  replace hv := hv.below b
  replace hbx := hbx.below b
  replace c := below_then c b
  clear b
  obtain ⟨x0, x1, x2⟩ := id hbx
  go_upto_region 3 with fail
  go_region_held3 (fun w' => w'.cell? ⟨w.heap.size, 0, none⟩ = some (.int .i64 n.places) ∧ w'.cell? ⟨w.heap.size, 1, none⟩ = some tv)
    (go_keep)
    (first
      | (go_at_call 16; refine (net_turned _ n _ ?_).mono ?_; exact hv.below bA; rintro e wB ⟨rB, rfl, hB, bB0⟩; have bB := below_then bA bB0; obtain ⟨xB0, xB1, xB2⟩ := hbx.below bB)
      | (go_at_call 12; refine (shape_wrong rB (turnL n) o i _ ?_).mono ?_; exact hB; rintro e wC ⟨dC, rfl, hC, bC0⟩; have bC := below_then bB bC0; obtain ⟨xC0, xC1, xC2⟩ := hbx.below bC)
      | (go_at_call 12; refine (shape_wrong _ n i o _ ?_).mono ?_; exact hv.below (below_drewN (Below.refl _ _) 1); rintro e wA ⟨dA, rfl, hA, bA0⟩; have bA := below_then (below_drewN (Below.refl w1.heap.size w1) 1) bA0; obtain ⟨xA0, xA1, xA2⟩ := hbx.below bA))
  all_goals
    obtain rfl : dA = dC := hA.turned.unique hC
    replace c := below_then c bC
    clear hA hC hB xA0 xA1 xA2 xB0 xB1 xB2 xC0 xC1 xC2 bA bB bC
    rw [beq_self_eq_true dA]
    go_wp2
    go_ret
    exact ⟨rfl, c⟩

end Go.Proofs.Ythkalnijmlhgiaa
