/- The law ReachTells, walked: it answers true, and writes nothing that was there. -/
import Derived.Test.YtfcgapcdhhliiaaReach3
import Derived.Test.YtfcgapcdhhliiaaReachDev
import Derived.Test.YtfcgapcdhhliiaaReachSame
namespace Go.Proofs.Ytfcgapcdhhliiaa
open Go.RowKit
set_option linter.unusedVariables false

set_option maxHeartbeats 4000000 in
theorem reachTells_walk (v u gv : Value) (n : NetL) (m goal : List Int) (most : Int) (w : World) (hv : Net w v n) (hu : Ints w u m) (hg : Ints w gv goal)
    (hbn : BulkNet n) (hbm : m.length ≤ 1048576) (hbg : goal.length ≤ 1048576) (hgw : ∀ z ∈ goal, inWord z) :
    Calls Try.prog 3 #[v, u, gv, .int .i64 most] w fun e w' => e = .returned (.bool true) ∧ Below w.heap.size w w' := by
  have hsm := hbn.small
  obtain ⟨tv, rfl, hT⟩ := hv
  have c := below_new w (.cells #[.int .i64 n.places, tv] 24)
  have hbx := box2_new w (.int .i64 n.places) tv 24
  have hv : Net _ (.agg #[.int .i64 n.places, tv]) n := ⟨_, rfl, hT.below c⟩
  replace hu := hu.below c
  replace hg := hg.below c
  clear hT
  go_enter Try.func3, Try.ntmps3
  go_wp2_with fail
  refine (reach_graph _ _ n m most _ (by exact hv) (by exact hu)).mono ?_
  rintro e w2 ⟨r1, rfl, hr1, b⟩
  replace hv := hv.below b
  replace hu := hu.below b
  replace hg := hg.below b
  replace hbx := hbx.below b
  replace c := below_then c b
  clear b
  obtain ⟨p1, hp1⟩ : ∃ p1, graphL n m most = p1 := ⟨_, rfl⟩
  have Hp1 : Hid _ := hp1
  rw [hp1] at hr1 ⊢
  clear hp1
  obtain ⟨s1, cd1⟩ := p1
  simp only at hr1 ⊢
  obtain ⟨mv, av, rfl, hM, hA⟩ := id hr1
  obtain ⟨am, cm, rfl, hlm, _⟩ := hM.slice
  obtain ⟨aa, ca, rfl, _⟩ := hA.slice
  obtain ⟨lm, Hlm⟩ : ∃ lm, Hid (s1.marks.length = lm) := ⟨_, rfl⟩
  obtain ⟨la, Hla⟩ : ∃ la, Hid ((List.map arcZ s1.arcs).length = la) := ⟨_, rfl⟩
  rw [Hlm.out, Hla.out] at hr1 ⊢
  clear hM hA
  have bs := below_new w2 (.cells #[.slice am lm cm, .slice aa la ca] 29)
  have hbs := box2_new w2 (.slice am lm cm) (.slice aa la ca) 29
  obtain ⟨ws, Hws⟩ : ∃ ws, Hid (w2.alloc (.cells #[.slice am lm cm, .slice aa la ca] 29) = ws) := ⟨_, rfl⟩
  rw [Hws.out] at bs hbs
  replace hv := hv.below bs
  replace hu := hu.below bs
  replace hg := hg.below bs
  replace hr1 := hr1.below bs
  replace hbx := hbx.below bs
  replace c := below_then c bs
  clear bs
  obtain ⟨x0, x1, x2⟩ := id hbx
  go_upto_region 2 with fail
  rw [Hws.out]
  clear Hws
  go_wp2_with fail
  refine (dgraph_any _ _ n m most _ (by exact hv) (by exact hu) hsm).mono ?_
  rintro e w3 ⟨r3, rfl, hr3, b⟩
  replace hv := hv.below b
  replace hu := hu.below b
  replace hg := hg.below b
  replace hbs := hbs.below b
  replace hbx := hbx.below b
  replace hr1 := hr1.below b
  replace c := below_then c b
  clear b x0 x1 x2
  rw [Hp1.out] at hr3 ⊢
  simp only at hr3 ⊢
  obtain ⟨mv3, av3, rfl, hM3, hA3⟩ := id hr3
  obtain ⟨am3, cm3, rfl, _, _⟩ := hM3.slice
  obtain ⟨aa3, ca3, rfl, _⟩ := hA3.slice
  rw [Hlm.out, Hla.out] at hr3 ⊢
  clear hM3 hA3
  have bs := below_new w3 (.cells #[.slice am3 lm cm3, .slice aa3 la ca3] 29)
  have hbt := box2_new w3 (.slice am3 lm cm3) (.slice aa3 la ca3) 29
  obtain ⟨wt, Hwt⟩ : ∃ wt, Hid (w3.alloc (.cells #[.slice am3 lm cm3, .slice aa3 la ca3] 29) = wt) := ⟨_, rfl⟩
  rw [Hwt.out] at bs hbt
  replace hv := hv.below bs
  replace hu := hu.below bs
  replace hg := hg.below bs
  replace hr1 := hr1.below bs
  replace hr3 := hr3.below bs
  replace hbs := hbs.below bs
  replace hbx := hbx.below bs
  replace c := below_then c bs
  clear bs
  obtain ⟨x0, x1, x2⟩ := id hbx
  go_upto_region 3 with fail
  rw [Hwt.out]
  clear Hwt
  go_wp2_with fail
  refine (reach_path _ _ _ n m goal most _ (by exact hv) (by exact hu) (by exact hg) hgw).mono ?_
  rintro e w4 ⟨r4, rfl, hr4, b⟩
  replace hv := hv.below b
  replace hu := hu.below b
  replace hg := hg.below b
  replace hr1 := hr1.below b
  replace hr3 := hr3.below b
  replace hbs := hbs.below b
  replace hbt := hbt.below b
  replace hbx := hbx.below b
  replace c := below_then c b
  clear b x0 x1 x2
  obtain ⟨x0, x1, x2⟩ := id hbx
  go_wp2_with fail
  refine (dpath_any _ _ _ n m goal most _ (by exact hv) (by exact hu) (by exact hg) hsm).mono ?_
  rintro e w5 ⟨r5, rfl, hr5, b⟩
  replace hr1 := hr1.below b
  replace hr3 := hr3.below b
  replace hr4 := hr4.below b
  replace hbs := hbs.below b
  replace hbt := hbt.below b
  replace c := below_then c b
  clear b x0 x1 x2 hv hu hg hbx Hp1
  generalize reachL n m goal most = p4 at *
  obtain ⟨ps, cp⟩ := p4
  simp only at hr4 hr5 ⊢
  have k1 : (cd1 == cd1) = true := by simp
  have k2 : (cp == cp) = true := by simp
  obtain ⟨y0, y1, y2⟩ := id hbs
  obtain ⟨z0, z1, z2⟩ := id hbt
  go_wp2_with fail
  refine (samespace_same _ _ s1 _ (by exact hr1) (by exact hr3)).mono ?_
  rintro e w6 ⟨rfl, b⟩
  replace hr4 := hr4.below b
  replace hr5 := hr5.below b
  replace c := below_then c b
  clear b y0 y1 y2 z0 z1 z2
  go_wp2_with fail
  refine (equal_b _ _ ps ps _ (by exact hr4) (by exact hr5)).mono ?_
  rintro e w7 ⟨rfl, b⟩
  replace c := below_then c b
  clear b
  go_wp2
  go_ret
  exact ⟨by simp, c⟩

end Go.Proofs.Ytfcgapcdhhliiaa
