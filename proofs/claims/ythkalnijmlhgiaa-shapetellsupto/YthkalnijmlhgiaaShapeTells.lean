/- The law ShapeTells, walked: it answers true, and writes nothing that was there. -/
import Derived.Deep.RegionHeld3
import Derived.Test.YthkalnijmlhgiaaShapeDev
import Derived.Test.YthkalnijmlhgiaaShape6
import Derived.Test.YthkalnijmlhgiaaMark2
namespace Go.Proofs.Ythkalnijmlhgiaa
open Go.RowKit
set_option linter.unusedVariables false
set_option maxRecDepth 4000

theorem same_netT (n : NetL) : sameN n n = true := by
  unfold sameN sameTs sameTo sameT
  simp

set_option maxRecDepth 4000 in
set_option maxHeartbeats 4000000 in
theorem shapeTells_walk (v : Value) (n : NetL) (i o : Int) (w : World) (hv : Net w v n) (hbn : BulkNet n) :
    Calls Try.prog 3 #[v, .int .i64 i, .int .i64 o] w fun e w' => e = .returned (.bool true) ∧ Below w.heap.size w w' := by
  have hsm := hbn.small
  obtain ⟨tv, rfl, hT⟩ := hv
  have c := below_new w (.cells #[.int .i64 n.places, tv] 24)
  have hbx := box2_new w (.int .i64 n.places) tv 24
  have hv : Net _ (.agg #[.int .i64 n.places, tv]) n := ⟨_, rfl, hT.below c⟩
  clear hT
  obtain ⟨x0, x1, x2⟩ := id hbx
  go_enter Try.func3, Try.ntmps3
  go_wp2_with fail
  clear x0 x1 x2
  refine (shape_close _ n i o _ (by exact hv)).mono ?_
  rintro e w1 ⟨r1, n1, d1, rfl, ⟨hr1, hC1⟩, b⟩
  replace hv := hv.below b
  replace hbx := hbx.below b
  replace c := below_then c b
  clear b
  obtain ⟨v1, rfl, hT1⟩ := hr1
  obtain ⟨a1, l1, p1, rfl, _⟩ := id hT1
  have bn := below_new w1 (.cells #[.int .i64 n1.places, .slice a1 l1 p1] 24)
  have hb1 := box2_new w1 (.int .i64 n1.places) (.slice a1 l1 p1) 24
  obtain ⟨w2, Hw2⟩ : ∃ w2, Hid (w1.alloc (.cells #[.int .i64 n1.places, .slice a1 l1 p1] 24) = w2) := ⟨_, rfl⟩
  rw [Hw2.out] at bn hb1
  replace hv := hv.below bn
  replace hbx := hbx.below bn
  replace c := below_then c bn
  replace hT1 := hT1.below bn
  clear bn
  go_upto_region 2 with fail
  rw [Hw2.out]
  clear Hw2
  obtain ⟨x0, x1, x2⟩ := id hbx
  go_wp2_with fail
  clear x0 x1 x2
  refine (hclose_any _ n i o _ (by exact hv) hsm).mono ?_
  rintro e w3 ⟨r2, n2, d2, rfl, ⟨hr2, hC2⟩, b⟩
  obtain ⟨rfl, rfl⟩ := hC1.unique hC2
  clear hC1 hC2
  replace hv := hv.below b
  replace hbx := hbx.below b
  replace hb1 := hb1.below b
  replace hT1 := hT1.below b
  replace c := below_then c b
  clear b
  obtain ⟨v2, rfl, hT2⟩ := hr2
  obtain ⟨a2, l2, p2, rfl, _⟩ := id hT2
  have bn := below_new w3 (.cells #[.int .i64 n1.places, .slice a2 l2 p2] 24)
  have hb2 := box2_new w3 (.int .i64 n1.places) (.slice a2 l2 p2) 24
  obtain ⟨w4, Hw4⟩ : ∃ w4, Hid (w3.alloc (.cells #[.int .i64 n1.places, .slice a2 l2 p2] 24) = w4) := ⟨_, rfl⟩
  rw [Hw4.out] at bn hb2
  replace hv := hv.below bn
  replace hbx := hbx.below bn
  replace hb1 := hb1.below bn
  replace hT1 := hT1.below bn
  replace hT2 := hT2.below bn
  replace c := below_then c bn
  clear bn
  have k1 : Net w4 (.agg #[.int .i64 n1.places, .slice a1 l1 p1]) n1 := ⟨_, rfl, hT1⟩
  have k2 : Net w4 (.agg #[.int .i64 n1.places, .slice a2 l2 p2]) n1 := ⟨_, rfl, hT2⟩
  clear hT1 hT2
  go_upto_region 3 with fail
  rw [Hw4.out]
  clear Hw4
  obtain ⟨x0, x1, x2⟩ := id hbx
  obtain ⟨y0, y1, y2⟩ := id hb1
  obtain ⟨z0, z1, z2⟩ := id hb2
  have eqs : (startL n.places i == startL n.places i) = true := beq_self_eq_true _
  have eqn : sameN n1 n1 = true := same_netT n1
  have eqd : (d1 == d1) = true := beq_self_eq_true d1
  go_region_held3 (fun w' => (w'.cell? ⟨w.heap.size, 0, none⟩ = some (.int .i64 n.places) ∧ w'.cell? ⟨w.heap.size, 1, none⟩ = some tv) ∧ (w'.cell? ⟨w1.heap.size, 0, none⟩ = some (.int .i64 n1.places) ∧ w'.cell? ⟨w1.heap.size, 1, none⟩ = some (.slice a1 l1 p1)) ∧ w'.cell? ⟨w3.heap.size, 0, none⟩ = some (.int .i64 n1.places) ∧ w'.cell? ⟨w3.heap.size, 1, none⟩ = some (.slice a2 l2 p2))
    (go_keep)
    (first
      | (go_at_call 10; refine (shape_start _ n i _ ?_).mono ?_; exact hv.below (below_drewN (Below.refl _ _) 1); rintro e wA ⟨rA, rfl, hA, bA0⟩; have bA := below_then (below_drewN (Below.refl w4.heap.size w4) 1) bA0; obtain ⟨xA0, xA1, xA2⟩ := hbx.below bA; obtain ⟨yA0, yA1, yA2⟩ := hb1.below bA; obtain ⟨zA0, zA1, zA2⟩ := hb2.below bA)
      | (go_at_call 11; refine (hstart_own _ n i _ ?_).mono ?_; exact hv.below bA; rintro e wB ⟨rB, rfl, hB⟩; have bB := below_then bA hB.2.1; replace hA := hA.below hB.2.1; obtain ⟨xB0, xB1, xB2⟩ := hbx.below bB; obtain ⟨yB0, yB1, yB2⟩ := hb1.below bB; obtain ⟨zB0, zB1, zB2⟩ := hb2.below bB)
      | (go_at_call 9; refine (equal_b rA rB (startL n.places i) (startL n.places i) _ ?_ ?_).mono ?_; exact hA; exact hB.ints (Nat.le_trans (start_short _ _) (by omega)); rintro e wC ⟨rfl, bC0⟩; rw [eqs]; have bC := below_then bB bC0; obtain ⟨xC0, xC1, xC2⟩ := hbx.below bC; obtain ⟨yC0, yC1, yC2⟩ := hb1.below bC; obtain ⟨zC0, zC1, zC2⟩ := hb2.below bC)
      | (go_at_call 12; refine (shape_wrong _ n i o _ ?_).mono ?_; exact hv.below bC; rintro e wD ⟨dD, rfl, hD, bD0⟩; have bD := below_then bC bD0; obtain ⟨xD0, xD1, xD2⟩ := hbx.below bD; obtain ⟨yD0, yD1, yD2⟩ := hb1.below bD; obtain ⟨zD0, zD1, zD2⟩ := hb2.below bD)
      | (go_at_call 13; refine (hwrong_any _ n i o _ ?_ hsm).mono ?_; exact hv.below bD; rintro e wE ⟨dE, rfl, hE, bE0⟩; obtain rfl := hD.unique hE; have eqe : (dD == dD) = true := beq_self_eq_true dD; have bE := below_then bD bE0; obtain ⟨xE0, xE1, xE2⟩ := hbx.below bE; obtain ⟨yE0, yE1, yE2⟩ := hb1.below bE; obtain ⟨zE0, zE1, zE2⟩ := hb2.below bE)
      | (go_at_call 14; refine (samenet_any _ _ n1 n1 _ ?_ ?_).mono ?_; exact k1.below bE; exact k2.below bE; rintro e wG ⟨rfl, bG0⟩; rw [eqn]; have bG := below_then bE bG0; obtain ⟨xG0, xG1, xG2⟩ := hbx.below bG; obtain ⟨yG0, yG1, yG2⟩ := hb1.below bG; obtain ⟨zG0, zG1, zG2⟩ := hb2.below bG))
  all_goals
    replace c := below_then c bG
    clear bA bB bC bD bE bG
    go_wp2
    go_ret
    exact ⟨rfl, c⟩

end Go.Proofs.Ythkalnijmlhgiaa
