/- The law LiveRuns, walked: it answers true, and writes nothing that was there. -/
import Derived.Test.YtlejaeecfeiajaaAlive7
import Derived.Test.YtlejaeecfeiajaaLiveRun1
import Derived.Laws.EntriesVeiled
namespace Go.Proofs.Ytlejaeecfeiajaa
open Go.RowKit
set_option linter.unusedVariables false

set_option maxRecDepth 4000 in
set_option maxHeartbeats 4000000 in
theorem liveRuns_walk (v u sv : Value) (n : NetL) (m seq : List Int) (t : Int) (w : World) (hv : Net w v n) (hu : Ints w u m) (hs : Ints w sv seq) :
    Calls Try.prog 4 #[v, u, sv, .int .i64 t] w fun e w' => e = .returned (.bool true) ∧ Below w.heap.size w w' := by
  obtain ⟨tv, rfl, hT⟩ := hv
  have c := below_new w (.cells #[.int .i64 n.places, tv] 35)
  have hbx := box2_new w (.int .i64 n.places) tv 35
  have hv : Net _ (.agg #[.int .i64 n.places, tv]) n := ⟨_, rfl, hT.below c⟩
  replace hu := hu.below c
  replace hs := hs.below c
  have c2 := below_new (w.alloc (.cells #[.int .i64 n.places, tv] 35)) (.cells #[.int .i64 t] 3)
  have hbt := box1_new (w.alloc (.cells #[.int .i64 n.places, tv] 35)) (.int .i64 t) 3
  rw [show (w.alloc (.cells #[.int .i64 n.places, tv] 35)).heap.size = w.heap.size + 1 by simp] at hbt
  replace hv := hv.below c2
  replace hu := hu.below c2
  replace hs := hs.below c2
  replace hbx := hbx.below c2
  replace c := below_then c c2
  clear c2
  obtain ⟨ta, tl, tc, rfl, htl, htm, _, _⟩ := id hT
  clear hT
  go_enter Try.func4, Try.ntmps4
  go_wp2_with fail
  refine (alive7_any _).mono ?_
  rintro e w1 ⟨rfl, b⟩
  replace hv := hv.below b
  replace hu := hu.below b
  replace hs := hs.below b
  replace hbx := hbx.below b
  replace hbt := hbt.below b
  replace c := below_then c b
  clear b
  obtain ⟨x0, x1, x2⟩ := id hbx
  go_wp2_with fail
  refine (reach_graph _ _ n m 60 _ (by exact hv) (by exact hu)).mono ?_
  rintro e w2 ⟨r1, rfl, hr1, b⟩
  replace hv := hv.below b
  replace hu := hu.below b
  replace hs := hs.below b
  replace hbx := hbx.below b
  replace hbt := hbt.below b
  replace c := below_then c b
  clear b x0 x1 x2
  have HA : Hid (∀ s x xs, graphL n m 60 = (s, 0) → runL n m seq = (x, 0) → IsLive (toZ s) tl xs → hasL xs t = true → ableL n t x = true) := fun s x xs h1 h2 h3 h4 => live_able h1 h2 h3 h4
  have HU : Hid (∀ s xs, graphL n m 60 = (s, 0) → 0 ≤ t → t < tl → IsLive (toZ s) tl xs → hasL xs t = false → (s.marks.any fun y => !ableL n t y) = true) := fun s xs h1 h2 h3 h4 h5 => live_unable h1 h2 (by omega) (by rw [htl]; exact h4) h5
  have Hsm : Hid ((graphL n m 60).1.marks.length ≤ 300) := graphL_small n m 60
  generalize graphL n m 60 = p1 at *
  obtain ⟨s, cd⟩ := p1
  simp only at hr1 ⊢
  obtain ⟨mv, av, hre, hM, hA⟩ := id hr1
  obtain ⟨am, cm, rfl, _⟩ := hM.slice
  obtain ⟨aa, ca, rfl, _⟩ := hA.slice
  subst hre
  obtain ⟨lm, Hlm⟩ : ∃ lm, Hid (s.marks.length = lm) := ⟨_, rfl⟩
  obtain ⟨la, Hla⟩ : ∃ la, Hid ((s.arcs.map arcZ).length = la) := ⟨_, rfl⟩
  rw [Hlm.out] at hM
  rw [Hlm.out, Hla.out] at hr1 ⊢
  clear hA
  have bs := below_new w2 (.cells #[.slice am lm cm, .slice aa la ca] 25)
  have hbs := box2_new w2 (.slice am lm cm) (.slice aa la ca) 25
  obtain ⟨ws, Hws⟩ : ∃ ws, Hid (w2.alloc (.cells #[.slice am lm cm, .slice aa la ca] 25) = ws) := ⟨_, rfl⟩
  rw [Hws.out] at bs hbs
  replace hv := hv.below bs
  replace hu := hu.below bs
  replace hs := hs.below bs
  have hsp := (hr1.below bs).toV Hsm.out
  replace hM := hM.below bs
  replace hbx := hbx.below bs
  replace hbt := hbt.below bs
  replace c := below_then c bs
  clear bs hr1
  obtain ⟨x0, x1, x2⟩ := id hbx
  go_upto_region 4 with fail
  rw [Hws.out]
  clear Hws
  go_wp2_with fail
  refine (net_run n seq _ _ _ m _ (by exact hv) (by exact hu) (by exact hs)).mono ?_
  rintro e w3 ⟨r3, rfl, hr3, b⟩
  replace hv := hv.below b
  replace hsp := hsp.below b
  replace hM := hM.below b
  replace hbx := hbx.below b
  replace hbt := hbt.below b
  replace hbs := hbs.below b
  replace c := below_then c b
  clear b x0 x1 x2 hs hu
  generalize runL n m seq = q at *
  obtain ⟨x, cd2⟩ := q
  simp only at hr3 ⊢
  obtain ⟨t0, t1⟩ := id hbt
  obtain ⟨x0, x1, x2⟩ := id hbx
  by_cases h1 : cd = 0
  case neg =>
    have hne : (cd != 0) = true := by simpa using h1
    clear HA HU
    go_wp2
    go_ret
    exact ⟨rfl, c⟩
  by_cases h2 : cd2 = 0
  case neg =>
    subst h1
    have hne : (cd2 != 0) = true := by simpa using h2
    clear HA HU
    go_wp2
    go_ret
    exact ⟨rfl, c⟩
  subst h1 h2
  by_cases h3 : t < 0
  · clear HA HU
    go_wp2
    go_ret
    exact ⟨rfl, c⟩
  by_cases h4 : (tl : Int) ≤ t
  · clear HA HU
    go_wp2
    go_ret
    exact ⟨rfl, c⟩
  replace HA : Hid (∀ xs, IsLive (toZ s) tl xs → hasL xs t = true → ableL n t x = true) := fun xs => HA.out s x xs rfl rfl
  replace HU : Hid (∀ xs, IsLive (toZ s) tl xs → hasL xs t = false → (s.marks.any fun y => !ableL n t y) = true) := fun xs => HU.out s xs rfl (by omega) (by omega)
  obtain ⟨FV, HFV⟩ : ∃ FV, Hid (Value.func (.func 23) #[] #[.pointer (some ⟨w.heap.size, 0, none⟩), .pointer (some ⟨w.heap.size + 1, 0, none⟩)] = FV) := ⟨_, rfl⟩
  have bs := below_new w3 (.cells #[FV] 46)
  have hbf := box1_new w3 FV 46
  obtain ⟨wf, Hwf⟩ : ∃ wf, Hid (w3.alloc (.cells #[FV] 46) = wf) := ⟨_, rfl⟩
  rw [Hwf.out] at bs hbf
  go_upto_region 8 with fail
  rw [HFV.out, Hwf.out]
  clear Hwf t0 t1 x0 x1 x2
  replace hv := hv.below bs
  replace hsp := hsp.below bs
  replace hM := hM.below bs
  replace hbx := hbx.below bs
  replace hbt := hbt.below bs
  replace hbs := hbs.below bs
  replace hr3 := hr3.below bs
  replace c := below_then c bs
  clear bs
  obtain ⟨t0, t1⟩ := id hbt
  obtain ⟨x0, x1, x2⟩ := id hbx
  obtain ⟨y0, y1, y2⟩ := id hbs
  go_wp2_with fail
  go_region_held3 (fun w' => w'.cell? ⟨w.heap.size, 1, none⟩ = some (.slice ta tl tc) ∧ (w'.cell? ⟨w2.heap.size, 0, none⟩ = some (.slice am lm cm) ∧ w'.cell? ⟨w2.heap.size, 1, none⟩ = some (.slice aa la ca)) ∧ w'.cell? ⟨w.heap.size + 1, 0, none⟩ = some (.int .i64 t))
    (go_keep)
    (first
      | (go_at_call 12; refine (live_live _ (toZ s) tl _ ?_).mono ?_; exact hsp.below (below_drewN (Below.refl _ _) 1); rintro e w5 ⟨r5, xs, rfl, hr5, hL, q5⟩; have q5 := below_then (below_drewN (Below.refl wf.heap.size wf) 1) q5; have e1 := (q5.cell (p := ⟨w.heap.size, 1, none⟩) x0).trans x2; have e2 := (q5.cell (p := ⟨w2.heap.size, 0, none⟩) y0).trans y1; have e3 := (q5.cell (p := ⟨w2.heap.size, 1, none⟩) y0).trans y2; have e4 := (q5.cell (p := ⟨w.heap.size + 1, 0, none⟩) t0).trans t1)
      | (go_at_call 26; refine (contains_any _ xs t _ ?_).mono ?_; exact hr5; rintro e w6 ⟨rfl, rfl⟩))
  replace hv := hv.below q5
  replace hM := hM.below q5
  replace hbx := hbx.below q5
  replace hbt := hbt.below q5
  replace hbs := hbs.below q5
  replace hbf := hbf.below q5
  replace hr3 := hr3.below q5
  replace c := below_then c q5
  clear q5 e1 e2 e3 e4 t0 t1 x0 x1 x2 y0 y1 y2 hr5 hsp
  have efv := HFV.out
  clear HFV
  subst efv
  obtain ⟨f0, f1⟩ := id hbf
  obtain ⟨y0, y1, y2⟩ := id hbs
  have HL : Hid _ := hL
  clear hL
  cases hh : hasL xs t
  · have HU2 : Hid ((s.marks.any fun y => !ableL n t y) = true) := HU.out xs HL.out hh
    clear HU HA HL hh
    go_wp2_with fail
    refine (containslists_any _ 28 _ _ (runs2_any _ w3.heap.size w.heap.size (w.heap.size + 1) _ n t hbx hv hbt hbf) Try.call28 _ s.marks _ (Below.refl _ _) (by exact hM)).mono ?_
    rintro e w7 ⟨rfl, b⟩
    rw [HU2.out]
    replace c := below_then c b
    clear b
    go_wp2
    go_ret
    exact ⟨rfl, c⟩
  · have HA2 : Hid (ableL n t x = true) := HA.out xs HL.out hh
    clear HU HA HL hh
    go_wp2_with fail
    refine (runs1_any _ w.heap.size (w.heap.size + 1) _ n t hbx hv hbt _ x _ (Below.refl _ _) (by exact hr3)).mono ?_
    rintro e w7 ⟨rfl, b⟩
    rw [HA2.out]
    replace c := below_then c b
    clear b
    go_wp2
    go_ret
    exact ⟨rfl, c⟩

end Go.Proofs.Ytlejaeecfeiajaa
