/- The law SiphonTells, walked: it answers true, and writes nothing that was there. -/
import Derived.Test.YtnklepfommakpaaSiph4
import Derived.Test.YtnklepfommakpaaSiphDev
import Derived.Test.YtnklepfommakpaaNet5
import Derived.Test.YtnklepfommakpaaMark2
import Derived.Deep.RegionHeld3
namespace Go.Proofs.Ytnklepfommakpaa
open Go.RowKit
set_option linter.unusedVariables false

theorem SmallNet.turn {n : NetL} (h : SmallNet n) : SmallNet (turnL n) := by
  intro k hk
  have hk' : k < n.trans.length := by simpa [turnL] using hk
  have e : tranAt (turnL n).trans k = turnT (tranAt n.trans k) := turn_at _ _ hk'
  rw [e]
  have := h k hk'
  simp only [turnT]
  omega

set_option maxRecDepth 4000 in
set_option maxHeartbeats 8000000 in
theorem siphonTells_walk (v u : Value) (n : NetL) (l : List Int) (w : World) (hv : Net w v n) (hu : Ints w u l) (hbn : BulkNet n) (hbl : l.length ≤ 1048576) :
    Calls Try.prog 3 #[v, u] w fun e w' => e = .returned (.bool true) ∧ Below w.heap.size w w' := by
  have hsm := hbn.small
  have hsb := hsm.turn
  obtain ⟨tv, rfl, hT⟩ := hv
  have c := below_new w (.cells #[.int .i64 n.places, tv] 24)
  have hbx := box2_new w (.int .i64 n.places) tv 24
  have hv : Net _ (.agg #[.int .i64 n.places, tv]) n := ⟨_, rfl, hT.below c⟩
  replace hu := hu.below c
  clear hT
  go_enter Try.func3, Try.ntmps3
  go_wp2_with fail
  refine (bturned_any _ n _ (by exact hv)).mono ?_
  rintro e wb ⟨rb, rfl, hvb, b⟩
  replace hv := hv.below b
  replace hu := hu.below b
  replace hbx := hbx.below b
  replace c := below_then c b
  clear b
  obtain ⟨tb, hrb, hTb⟩ := hvb
  subst hrb
  obtain ⟨ab, lb, cb, htbe⟩ : ∃ ab lb cb, tb = .slice ab lb cb := by obtain ⟨ab, lb, cb, e, _⟩ := hTb; exact ⟨ab, lb, cb, e⟩
  subst htbe
  rw [show (turnL n).places = n.places from rfl]
  have hvb : Net wb (.agg #[.int .i64 n.places, .slice ab lb cb]) (turnL n) := ⟨_, rfl, hTb⟩
  have bs := below_new wb (.cells #[.int .i64 n.places, .slice ab lb cb] 24)
  have hbb := box2_new wb (.int .i64 n.places) (.slice ab lb cb) 24
  obtain ⟨W0, HW0⟩ : ∃ W0, Hid (wb.alloc (.cells #[.int .i64 n.places, .slice ab lb cb] 24) = W0) := ⟨_, rfl⟩
  obtain ⟨bk, Hbk⟩ : ∃ bk, Hid (wb.heap.size = bk) := ⟨_, rfl⟩
  replace hv := hv.below bs
  replace hvb := hvb.below bs
  replace hu := hu.below bs
  replace hbx := hbx.below bs
  replace c := below_then c bs
  rw [HW0.out] at hv hvb hu hbx c hbb
  rw [Hbk.out] at hbb
  obtain ⟨x0, x1, x2⟩ := id hbx
  obtain ⟨z0, z1, z2⟩ := id hbb
  clear hTb bs
  have n1 : (siphL n l == siphL n l) = true := beq_self_eq_true _
  have n2 : (trapL n l == siphL (turnL n) l) = true := beq_self_eq_true _
  go_upto_region 2 with fail
  rw [HW0.out, Hbk.out]
  clear HW0
  go_region_held3 (fun w' => (w'.cell? ⟨w.heap.size, 0, none⟩ = some (.int .i64 n.places) ∧ w'.cell? ⟨w.heap.size, 1, none⟩ = some tv) ∧ w'.cell? ⟨bk, 0, none⟩ = some (.int .i64 n.places) ∧ w'.cell? ⟨bk, 1, none⟩ = some (.slice ab lb cb))
    (go_keep)
    (first
      | (go_at_call 10; refine (siphon_siphon _ _ n l _ ?_ ?_).mono ?_; exact hv.below (below_drewN (Below.refl _ _) 1); exact hu.below (below_drewN (Below.refl _ _) 1); rintro e w1 ⟨rfl, q1⟩; have q1 := below_then (below_drewN (Below.refl W0.heap.size W0) 1) q1; have y11 := (q1.cell (p := ⟨w.heap.size, 0, none⟩) x0).trans x1; have y12 := (q1.cell (p := ⟨w.heap.size, 1, none⟩) x0).trans x2; have y13 := (q1.cell (p := ⟨bk, 0, none⟩) z0).trans z1; have y14 := (q1.cell (p := ⟨bk, 1, none⟩) z0).trans z2)
      | (go_at_call_of 11 tv; refine (fsiphon_any _ _ n l _ (hv.below q1) (hu.below q1) hsm).mono ?_; rintro e w2 ⟨rfl, q2⟩; have q2 := below_then q1 q2; have y21 := (q2.cell (p := ⟨w.heap.size, 0, none⟩) x0).trans x1; have y22 := (q2.cell (p := ⟨w.heap.size, 1, none⟩) x0).trans x2; have y23 := (q2.cell (p := ⟨bk, 0, none⟩) z0).trans z1; have y24 := (q2.cell (p := ⟨bk, 1, none⟩) z0).trans z2)
      | (go_at_call 12; refine (siphon_trap _ _ n l _ (hv.below q2) (hu.below q2)).mono ?_; rintro e w3 ⟨rfl, q3⟩; have q3 := below_then q2 q3; have y31 := (q3.cell (p := ⟨w.heap.size, 0, none⟩) x0).trans x1; have y32 := (q3.cell (p := ⟨w.heap.size, 1, none⟩) x0).trans x2; have y33 := (q3.cell (p := ⟨bk, 0, none⟩) z0).trans z1; have y34 := (q3.cell (p := ⟨bk, 1, none⟩) z0).trans z2)
      | (go_at_call_of 11 ab; refine (fsiphon_any _ _ (turnL n) l _ (hvb.below q3) (hu.below q3) hsb).mono ?_; rintro e w4 ⟨rfl, q4⟩; have q4 := below_then q3 q4; have y41 := (q4.cell (p := ⟨w.heap.size, 0, none⟩) x0).trans x1; have y42 := (q4.cell (p := ⟨w.heap.size, 1, none⟩) x0).trans x2; have y43 := (q4.cell (p := ⟨bk, 0, none⟩) z0).trans z1; have y44 := (q4.cell (p := ⟨bk, 1, none⟩) z0).trans z2)
      | (go_at_call 14; refine (siphon_most _ _ n l _ (hv.below q4) (hu.below q4)).mono ?_; rintro e w5 ⟨r5, rfl, hr5, q5⟩; have q5 := below_then q4 q5; have y51 := (q5.cell (p := ⟨w.heap.size, 0, none⟩) x0).trans x1; have y52 := (q5.cell (p := ⟨w.heap.size, 1, none⟩) x0).trans x2; have y53 := (q5.cell (p := ⟨bk, 0, none⟩) z0).trans z1; have y54 := (q5.cell (p := ⟨bk, 1, none⟩) z0).trans z2)
      | (go_at_call_of 15 tv; refine (fmost_any _ _ n l _ (hv.below q5) (hu.below q5) hsm).mono ?_; rintro e w6 ⟨r6, rfl, hr6, p6⟩; replace hr5 := hr5.below p6; have q6 := below_then q5 p6; have y61 := (q6.cell (p := ⟨w.heap.size, 0, none⟩) x0).trans x1; have y62 := (q6.cell (p := ⟨w.heap.size, 1, none⟩) x0).trans x2; have y63 := (q6.cell (p := ⟨bk, 0, none⟩) z0).trans z1; have y64 := (q6.cell (p := ⟨bk, 1, none⟩) z0).trans z2)
      | (go_at_call_of 13 r5; refine (equal_b _ _ _ _ _ hr5 hr6).mono ?_; rintro e w7 ⟨rfl, q7⟩; rw [beq_self_eq_true]; have q7 := below_then q6 q7; have y71 := (q7.cell (p := ⟨w.heap.size, 0, none⟩) x0).trans x1; have y72 := (q7.cell (p := ⟨w.heap.size, 1, none⟩) x0).trans x2; have y73 := (q7.cell (p := ⟨bk, 0, none⟩) z0).trans z1; have y74 := (q7.cell (p := ⟨bk, 1, none⟩) z0).trans z2)
      | (go_at_call 16; refine (siphon_mosttrap _ _ n l _ (hv.below q7) (hu.below q7)).mono ?_; rintro e w8 ⟨r8, rfl, hr8, q8⟩; have q8 := below_then q7 q8; have y81 := (q8.cell (p := ⟨w.heap.size, 0, none⟩) x0).trans x1; have y82 := (q8.cell (p := ⟨w.heap.size, 1, none⟩) x0).trans x2; have y83 := (q8.cell (p := ⟨bk, 0, none⟩) z0).trans z1; have y84 := (q8.cell (p := ⟨bk, 1, none⟩) z0).trans z2)
      | (go_at_call_of 15 ab; refine (fmost_any _ _ (turnL n) l _ (hvb.below q8) (hu.below q8) hsb).mono ?_; rintro e w9 ⟨r9, rfl, hr9, p9⟩; replace hr8 := hr8.below p9; have q9 := below_then q8 p9; have y91 := (q9.cell (p := ⟨w.heap.size, 0, none⟩) x0).trans x1; have y92 := (q9.cell (p := ⟨w.heap.size, 1, none⟩) x0).trans x2; have y93 := (q9.cell (p := ⟨bk, 0, none⟩) z0).trans z1; have y94 := (q9.cell (p := ⟨bk, 1, none⟩) z0).trans z2)
      | (go_at_call_of 13 r8; refine (equal_b _ _ _ _ _ hr8 hr9).mono ?_; rintro e w10 ⟨rfl, q10⟩; rw [beq_self_eq_true]; have q10 := below_then q9 q10; have y101 := (q10.cell (p := ⟨w.heap.size, 0, none⟩) x0).trans x1; have y102 := (q10.cell (p := ⟨w.heap.size, 1, none⟩) x0).trans x2; have y103 := (q10.cell (p := ⟨bk, 0, none⟩) z0).trans z1; have y104 := (q10.cell (p := ⟨bk, 1, none⟩) z0).trans z2))
  have R := below_then c q10
  go_wp2
  go_ret
  exact ⟨rfl, R⟩

end Go.Proofs.Ytnklepfommakpaa
