/- The law CasesPlay, walked. -/
import Derived.Test.YtffaamljogbmlaaCaseRef4
import Derived.Test.YtffaamljogbmlaaGr02
namespace Go.Proofs.Ytffaamljogbmlaa
open Go.RowKit
set_option linter.unusedVariables false
set_option linter.unusedSimpArgs false
set_option maxRecDepth 4000

set_option maxHeartbeats 2000000 in
theorem casesPlay_walk (v u : Value) (n : NetL) (i : Int) (os : List (Int × Int)) (w : World) (hv : Net w v n) (hu : OpsV w u os) (hbk : BulkNet n) (hbo : os.length ≤ 1048576) :
    Calls Try.prog 4 #[v, .int .i64 i, u] w fun e w' => e = .returned (.bool true) ∧ Below w.heap.size w w' := by
  have hsm := hbk.small
  obtain ⟨tv, rfl, hT⟩ := hv
  have c0 := below_new w (.cells #[.int .i64 n.places, tv] 24)
  have hbn := box2_new w (.int .i64 n.places) tv 24
  obtain ⟨w0, Hw0⟩ : ∃ w0, Hid (w.alloc (.cells #[.int .i64 n.places, tv] 24) = w0) := ⟨_, rfl⟩
  rw [Hw0.out] at c0 hbn
  have hv : Net w0 (.agg #[.int .i64 n.places, tv]) n := ⟨_, rfl, hT.below c0⟩
  replace hu := hu.below c0
  clear hT
  obtain ⟨x0, x1, x2⟩ := id hbn
  go_enter Try.func4, Try.ntmps4
  go_upto_region 1 with fail
  rw [Hw0.out]
  clear Hw0
  go_wp2_with fail
  refine (cases_play _ _ n i os w0 (by exact hv) (by exact hu)).mono ?_
  rintro e w1 ⟨r, l, rfl, hC, hL, b⟩
  obtain ⟨ra, rl, rc, ra2, rl2, rc2, rfl, hI, hI2⟩ := hC
  obtain ⟨la, ll, lc, rfl, _⟩ := id hL
  replace c0 := below_then c0 b
  replace hv := hv.below b
  replace hu := hu.below b
  replace hbn := hbn.below b
  clear b x0 x1 x2
  have bn := below_new w1 (.cells #[.slice ra rl rc, .slice ra2 rl2 rc2] 27)
  have hbx := box2_new w1 (.slice ra rl rc) (.slice ra2 rl2 rc2) 27
  obtain ⟨B1, HB1⟩ : ∃ B, Hid (w1.heap.size = B) := ⟨_, rfl⟩
  rw [HB1.out] at hbx
  obtain ⟨w2, Hw2⟩ : ∃ v, Hid (w1.alloc (.cells #[.slice ra rl rc, .slice ra2 rl2 rc2] 27) = v) := ⟨_, rfl⟩
  rw [Hw2.out] at bn hbx
  go_upto_region 2 with fail
  rw [Hw2.out, HB1.out]
  clear Hw2 HB1
  replace c0 := below_then c0 bn
  replace hv := hv.below bn
  replace hu := hu.below bn
  replace hbn := hbn.below bn
  replace hI := hI.below bn
  replace hI2 := hI2.below bn
  replace hL := hL.below bn
  clear bn
  obtain ⟨x0, x1, x2⟩ := id hbn
  go_wp2_with fail
  refine (pplay_any _ _ n i os w2 (by exact hv) (by exact hu) hsm).mono ?_
  rintro e w3 ⟨r, l, rfl, hC, hM, b⟩
  obtain ⟨qa, ql, qc, qa2, ql2, qc2, rfl, kI, kI2⟩ := hC
  obtain ⟨ma, ml, mc, rfl, _⟩ := id hM
  replace c0 := below_then c0 b
  replace hbx := hbx.below b
  replace hI := hI.below b
  replace hI2 := hI2.below b
  replace hL := hL.below b
  clear b x0 x1 x2 hv hu hbn
  have bn := below_new w3 (.cells #[.slice qa ql qc, .slice qa2 ql2 qc2] 27)
  have hby := box2_new w3 (.slice qa ql qc) (.slice qa2 ql2 qc2) 27
  obtain ⟨B2, HB2⟩ : ∃ B, Hid (w3.heap.size = B) := ⟨_, rfl⟩
  rw [HB2.out] at hby
  obtain ⟨w4, Hw4⟩ : ∃ v, Hid (w3.alloc (.cells #[.slice qa ql qc, .slice qa2 ql2 qc2] 27) = v) := ⟨_, rfl⟩
  rw [Hw4.out] at bn hby
  go_upto_region 3 with fail
  rw [Hw4.out, HB2.out]
  clear Hw4 HB2
  replace c0 := below_then c0 bn
  replace hbx := hbx.below bn
  replace hI := hI.below bn
  replace hI2 := hI2.below bn
  replace hL := hL.below bn
  replace kI := kI.below bn
  replace kI2 := kI2.below bn
  replace hM := hM.below bn
  clear bn
  obtain ⟨x0, x1, x2⟩ := id hbx
  obtain ⟨y0, y1, y2⟩ := id hby
  obtain ⟨d, Hd⟩ : ∃ d, Hid ((playAll n i os).2.2 = d) := ⟨_, rfl⟩
  obtain ⟨cs, Hcs⟩ : ∃ d, Hid ((playAll n i os).1 = d) := ⟨_, rfl⟩
  obtain ⟨es, Hes⟩ : ∃ d, Hid ((playAll n i os).2.1 = d) := ⟨_, rfl⟩
  rw [Hd.out]
  rw [Hcs.out] at hI hI2 kI kI2
  rw [Hes.out] at hL hM
  clear Hd Hcs Hes
  go_wp2_with fail
  refine (samecase_any _ _ cs cs w4 (by exact ⟨_, _, _, _, _, _, rfl, hI, hI2⟩) (by exact ⟨_, _, _, _, _, _, rfl, kI, kI2⟩)).mono ?_
  rintro e w5 ⟨rfl, b⟩
  rw [sameC_self]
  replace c0 := below_then c0 b
  replace hL := hL.below b
  replace hM := hM.below b
  clear b x0 x1 x2 y0 y1 y2 hbx hby hI hI2 kI kI2
  go_wp2_with fail
  refine (equale_any _ _ es es w5 (by exact hL) (by exact hM)).mono ?_
  rintro e w6 ⟨rfl, b⟩
  replace c0 := below_then c0 b
  rw [beq_self_eq_true]
  go_wp2
  go_ret
  exact ⟨rfl, c0⟩

end Go.Proofs.Ytffaamljogbmlaa
