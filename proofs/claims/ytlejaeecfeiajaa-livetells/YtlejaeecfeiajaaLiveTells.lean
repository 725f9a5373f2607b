/- The law LiveTells, walked: it answers true, and writes nothing that was there. -/
import Derived.Test.YtlejaeecfeiajaaLive3
import Derived.Test.YtlejaeecfeiajaaLiveDev
import Derived.Test.YtlejaeecfeiajaaReachFun
import Derived.Deep.RegionHeld3
namespace Go.Proofs.Ytlejaeecfeiajaa
open Go.RowKit
set_option linter.unusedVariables false

theorem live_same {s : SpaceZ} {T : Int} {xs ys : List Int} (h : IsLive s T xs) (k : IsLive s T ys) : xs = ys := up_unique h.up k.up fun t => by rw [h.mem, k.mem]
theorem home_same {s : SpaceZ} {xs ys : List Int} (h : IsHome s xs) (k : IsHome s ys) : xs = ys := up_unique h.up k.up fun t => by rw [h.mem, k.mem]

set_option maxRecDepth 4000 in
set_option maxHeartbeats 8000000 in
theorem liveTells_walk (v : Value) (s : SpaceZ) (T : Int) (w : World) (hv : SpaceV w v s) :
    Calls Try.prog 3 #[v, .int .i64 T] w fun e w' => e = .returned (.bool true) ∧ Below w.heap.size w w' := by
  obtain ⟨mv, av, hve⟩ : ∃ mv av, v = .agg #[mv, av] := by obtain ⟨_, mv, av, e, _⟩ := hv; exact ⟨mv, av, e⟩
  subst hve
  have c := below_new w (.cells #[mv, av] 25)
  have hbx := box2_new w mv av 25
  replace hv := hv.below c
  obtain ⟨W0, HW0⟩ : ∃ W0, Hid (w.alloc (.cells #[mv, av] 25) = W0) := ⟨_, rfl⟩
  rw [HW0.out] at c hbx hv
  obtain ⟨x0, x1, x2⟩ := id hbx
  have n1 : (rightS s == rightS s) = true := beq_self_eq_true _
  have n2 : (boundL s == boundL s) = true := beq_self_eq_true _
  go_enter Try.func3, Try.ntmps3
  go_upto_region 1 with fail
  rw [HW0.out]
  clear HW0
  go_region_held3 (fun w' => w'.cell? ⟨w.heap.size, 0, none⟩ = some mv ∧ w'.cell? ⟨w.heap.size, 1, none⟩ = some av)
    (go_keep)
    (first
      | (go_at_call 7; refine (live_right _ s _ ?_).mono ?_; exact hv.below (below_drewN (Below.refl _ _) 1); rintro e w1 ⟨rfl, q1⟩; have q1 := below_then (below_drewN (Below.refl W0.heap.size W0) 1) q1; have y11 := (q1.cell (p := ⟨w.heap.size, 0, none⟩) x0).trans x1; have y12 := (q1.cell (p := ⟨w.heap.size, 1, none⟩) x0).trans x2)
      | (go_at_call 8; refine (gright_any _ s _ (hv.below q1)).mono ?_; rintro e w2 ⟨rfl, q2⟩; have q2 := below_then q1 q2; have y21 := (q2.cell (p := ⟨w.heap.size, 0, none⟩) x0).trans x1; have y22 := (q2.cell (p := ⟨w.heap.size, 1, none⟩) x0).trans x2)
      | (go_at_call 10; refine (live_dead _ s T _ (hv.below q2)).mono ?_; rintro e w3 ⟨r3, rfl, hr3, q3⟩; have q3 := below_then q2 q3; have y31 := (q3.cell (p := ⟨w.heap.size, 0, none⟩) x0).trans x1; have y32 := (q3.cell (p := ⟨w.heap.size, 1, none⟩) x0).trans x2)
      | (go_at_call 11; refine (gdead_any _ s T _ (hv.below q3)).mono ?_; rintro e w4 ⟨r4, rfl, hr4, p4⟩; replace hr3 := hr3.below p4; have q4 := below_then q3 p4; have y41 := (q4.cell (p := ⟨w.heap.size, 0, none⟩) x0).trans x1; have y42 := (q4.cell (p := ⟨w.heap.size, 1, none⟩) x0).trans x2)
      | (go_at_call_of 9 r3; refine (equal_b _ _ _ _ _ hr3 hr4).mono ?_; rintro e w5 ⟨rfl, q5⟩; rw [beq_self_eq_true]; have q5 := below_then q4 q5; have y51 := (q5.cell (p := ⟨w.heap.size, 0, none⟩) x0).trans x1; have y52 := (q5.cell (p := ⟨w.heap.size, 1, none⟩) x0).trans x2)
      | (go_at_call 12; refine (live_live _ s T _ (hv.below q5)).mono ?_; rintro e w6 ⟨r6, l6, rfl, hr6, hL6, q6⟩; have q6 := below_then q5 q6; have y61 := (q6.cell (p := ⟨w.heap.size, 0, none⟩) x0).trans x1; have y62 := (q6.cell (p := ⟨w.heap.size, 1, none⟩) x0).trans x2)
      | (go_at_call 13; refine (glive_any _ s T _ (hv.below q6)).mono ?_; rintro e w7 ⟨r7, l7, rfl, hr7, hL7, p7⟩; replace hr6 := hr6.below p7; have q7 := below_then q6 p7; have E7 := live_same hL6 hL7; subst E7; have y71 := (q7.cell (p := ⟨w.heap.size, 0, none⟩) x0).trans x1; have y72 := (q7.cell (p := ⟨w.heap.size, 1, none⟩) x0).trans x2)
      | (go_at_call_of 9 r6; refine (equal_b _ _ _ _ _ hr6 hr7).mono ?_; rintro e w8 ⟨rfl, q8⟩; rw [beq_self_eq_true]; have q8 := below_then q7 q8; have y81 := (q8.cell (p := ⟨w.heap.size, 0, none⟩) x0).trans x1; have y82 := (q8.cell (p := ⟨w.heap.size, 1, none⟩) x0).trans x2)
      | (go_at_call 14; refine (live_stuck _ s _ (hv.below q8)).mono ?_; rintro e w9 ⟨r9, rfl, hr9, q9⟩; have q9 := below_then q8 q9; have y91 := (q9.cell (p := ⟨w.heap.size, 0, none⟩) x0).trans x1; have y92 := (q9.cell (p := ⟨w.heap.size, 1, none⟩) x0).trans x2)
      | (go_at_call 15; refine (gstuck_any _ s _ (hv.below q9)).mono ?_; rintro e w10 ⟨r10, rfl, hr10, p10⟩; replace hr9 := hr9.below p10; have q10 := below_then q9 p10; have y101 := (q10.cell (p := ⟨w.heap.size, 0, none⟩) x0).trans x1; have y102 := (q10.cell (p := ⟨w.heap.size, 1, none⟩) x0).trans x2)
      | (go_at_call_of 9 r9; refine (equal_b _ _ _ _ _ hr9 hr10).mono ?_; rintro e w11 ⟨rfl, q11⟩; rw [beq_self_eq_true]; have q11 := below_then q10 q11; have y111 := (q11.cell (p := ⟨w.heap.size, 0, none⟩) x0).trans x1; have y112 := (q11.cell (p := ⟨w.heap.size, 1, none⟩) x0).trans x2)
      | (go_at_call 16; refine (live_home _ s _ (hv.below q11)).mono ?_; rintro e w12 ⟨r12, l12, rfl, hr12, hL12, q12⟩; have q12 := below_then q11 q12; have y121 := (q12.cell (p := ⟨w.heap.size, 0, none⟩) x0).trans x1; have y122 := (q12.cell (p := ⟨w.heap.size, 1, none⟩) x0).trans x2)
      | (go_at_call 17; refine (ghome_any _ s _ (hv.below q12)).mono ?_; rintro e w13 ⟨r13, l13, rfl, hr13, hL13, p13⟩; replace hr12 := hr12.below p13; have q13 := below_then q12 p13; have E13 := home_same hL12 hL13; subst E13; have y131 := (q13.cell (p := ⟨w.heap.size, 0, none⟩) x0).trans x1; have y132 := (q13.cell (p := ⟨w.heap.size, 1, none⟩) x0).trans x2)
      | (go_at_call_of 9 r12; refine (equal_b _ _ _ _ _ hr12 hr13).mono ?_; rintro e w14 ⟨rfl, q14⟩; rw [beq_self_eq_true]; have q14 := below_then q13 q14; have y141 := (q14.cell (p := ⟨w.heap.size, 0, none⟩) x0).trans x1; have y142 := (q14.cell (p := ⟨w.heap.size, 1, none⟩) x0).trans x2)
      | (go_at_call 18; refine (live_bound _ s _ (hv.below q14)).mono ?_; rintro e w15 ⟨rfl, q15⟩; have q15 := below_then q14 q15; have y151 := (q15.cell (p := ⟨w.heap.size, 0, none⟩) x0).trans x1; have y152 := (q15.cell (p := ⟨w.heap.size, 1, none⟩) x0).trans x2)
      | (go_at_call 19; refine (gbound_any _ s _ (hv.below q15)).mono ?_; rintro e w16 ⟨rfl, q16⟩; have q16 := below_then q15 q16; have y161 := (q16.cell (p := ⟨w.heap.size, 0, none⟩) x0).trans x1; have y162 := (q16.cell (p := ⟨w.heap.size, 1, none⟩) x0).trans x2))
  have R := below_then c q16
  go_wp2
  go_ret
  exact ⟨rfl, R⟩

end Go.Proofs.Ytlejaeecfeiajaa
