/- The law ReachRoom, walked: it answers true, and writes nothing that was there. -/
import Derived.Test.YtfcgapcdhhliiaaAlive4
import Derived.Test.YtfcgapcdhhliiaaReachSame
namespace Go.Proofs.Ytfcgapcdhhliiaa
open Go.RowKit
set_option linter.unusedVariables false

set_option maxHeartbeats 2000000 in
theorem reachRoom_walk (v u : Value) (n : NetL) (m : List Int) (most more : Int) (w : World) (hv : Net w v n) (hu : Ints w u m) :
    Calls Try.prog 6 #[v, u, .int .i64 most, .int .i64 more] w fun e w' => e = .returned (.bool true) ∧ Below w.heap.size w w' := by
  obtain ⟨tv, rfl, hT⟩ := hv
  have c := below_new w (.cells #[.int .i64 n.places, tv] 24)
  have hbx := box2_new w (.int .i64 n.places) tv 24
  have hv : Net _ (.agg #[.int .i64 n.places, tv]) n := ⟨_, rfl, hT.below c⟩
  replace hu := hu.below c
  clear hT
  go_enter Try.func6, Try.ntmps6
  go_wp2_with fail
  refine (alive4_any _).mono ?_
  rintro e w1 ⟨rfl, b⟩
  replace hv := hv.below b
  replace hu := hu.below b
  replace hbx := hbx.below b
  replace c := below_then c b
  clear b
  obtain ⟨x0, x1, x2⟩ := id hbx
  go_wp2_with fail
  refine (reach_graph _ _ n m most _ (by exact hv) (by exact hu)).mono ?_
  rintro e w2 ⟨r1, rfl, hr1, b⟩
  replace hv := hv.below b
  replace hu := hu.below b
  replace hbx := hbx.below b
  replace c := below_then c b
  clear b x0 x1 x2
  have Hq : Hid (∀ s, graphL n m most = (s, 0) → 1 ≤ more → more ≤ 300 → graphL n m more = if (s.marks.length : Int) ≤ more then (s, 0) else (⟨[], []⟩, 4)) := fun s h1 h2 h3 => graph_room h1 h2 h3
  generalize graphL n m most = p1 at *
  obtain ⟨s1, cd1⟩ := p1
  simp only at hr1 ⊢
  obtain ⟨mv, av, rfl, hM, hA⟩ := id hr1
  obtain ⟨am, cm, rfl, hlm, _⟩ := hM.slice
  obtain ⟨aa, ca, rfl, _⟩ := hA.slice
  obtain ⟨lm, Hlm⟩ : ∃ lm, Hid (s1.marks.length = lm) := ⟨_, rfl⟩
  obtain ⟨la, Hla⟩ : ∃ la, Hid ((List.map arcZ s1.arcs).length = la) := ⟨_, rfl⟩
  rw [Hlm.out, Hla.out] at hr1 ⊢
  rw [Hlm.out] at hlm
  clear hM hA
  have bs := below_new w2 (.cells #[.slice am lm cm, .slice aa la ca] 29)
  have hbs := box2_new w2 (.slice am lm cm) (.slice aa la ca) 29
  obtain ⟨ws, Hws⟩ : ∃ ws, Hid (w2.alloc (.cells #[.slice am lm cm, .slice aa la ca] 29) = ws) := ⟨_, rfl⟩
  have e2 : w2.heap.size < ws.heap.size := by rw [← Hws.out]; simp
  rw [Hws.out] at bs hbs
  replace hv := hv.below bs
  replace hu := hu.below bs
  replace hr1 := hr1.below bs
  replace hbx := hbx.below bs
  replace c := below_then c bs
  clear bs
  obtain ⟨x0, x1, x2⟩ := id hbx
  go_upto_region 4 with fail
  rw [Hws.out]
  clear Hws
  go_wp2_with fail
  refine (reach_graph _ _ n m more _ (by exact hv) (by exact hu)).mono ?_
  rintro e w3 ⟨r3, rfl, hr3, b⟩
  replace hbs := hbs.below b
  replace hr1 := hr1.below b
  replace c := below_then c b
  clear b x0 x1 x2 hv hu hbx
  generalize graphL n m more = p3 at *
  obtain ⟨s3, cd3⟩ := p3
  simp only at hr3 ⊢
  obtain ⟨mv3, av3, rfl, hM3, hA3⟩ := id hr3
  obtain ⟨am3, cm3, rfl, _, _⟩ := hM3.slice
  obtain ⟨aa3, ca3, rfl, _⟩ := hA3.slice
  obtain ⟨lm3, Hlm3⟩ : ∃ lm, Hid (s3.marks.length = lm) := ⟨_, rfl⟩
  obtain ⟨la3, Hla3⟩ : ∃ la, Hid ((List.map arcZ s3.arcs).length = la) := ⟨_, rfl⟩
  rw [Hlm3.out, Hla3.out] at hr3 ⊢
  clear hM3 hA3
  have bs := below_new w3 (.cells #[.slice am3 lm3 cm3, .slice aa3 la3 ca3] 29)
  have hbt := box2_new w3 (.slice am3 lm3 cm3) (.slice aa3 la3 ca3) 29
  obtain ⟨wt, Hwt⟩ : ∃ wt, Hid (w3.alloc (.cells #[.slice am3 lm3 cm3, .slice aa3 la3 ca3] 29) = wt) := ⟨_, rfl⟩
  rw [Hwt.out] at bs hbt
  replace hr1 := hr1.below bs
  replace hr3 := hr3.below bs
  replace hbs := hbs.below bs
  replace c := below_then c bs
  clear bs
  go_upto_region 5 with fail
  rw [Hwt.out]
  clear Hwt
  by_cases h0 : cd1 = 0
  case neg =>
    have n1 : (cd1 != 0) = true := by simpa using h0
    clear Hq
    go_wp2
    go_ret
    exact ⟨rfl, c⟩
  subst h0
  by_cases h1 : more < 1
  · clear Hq
    go_wp2
    go_ret
    exact ⟨rfl, c⟩
  by_cases h2 : 300 < more
  · clear Hq
    go_wp2
    go_ret
    exact ⟨rfl, c⟩
  have E := Hq.out s1 rfl (by omega) (by omega)
  rw [Hlm.out] at E
  obtain ⟨y0, y1, y2⟩ := id hbs
  obtain ⟨z0, z1, z2⟩ := id hbt
  by_cases hl : (lm : Int) ≤ more
  · rw [if_pos hl] at E
    injection E with E1 E2
    subst E1 E2
    clear Hq
    go_wp2_with fail
    refine (samespace_same _ _ s3 _ (by exact hr1) (by exact hr3)).mono ?_
    rintro e w5 ⟨rfl, b⟩
    replace c := below_then c b
    clear b
    go_wp2
    go_ret
    exact ⟨rfl, c⟩
  · rw [if_neg hl] at E
    injection E with E1 E2
    subst E2
    clear Hq E1
    go_wp2
    go_ret
    exact ⟨rfl, c⟩

end Go.Proofs.Ytfcgapcdhhliiaa
