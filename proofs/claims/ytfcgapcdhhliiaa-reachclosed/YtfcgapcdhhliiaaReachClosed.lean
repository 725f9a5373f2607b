/- The law ReachClosed, walked: it answers true, and writes nothing that was there. -/
import Derived.Test.YtfcgapcdhhliiaaAlive4
import Derived.Test.YtfcgapcdhhliiaaReachFun
namespace Go.Proofs.Ytfcgapcdhhliiaa
open Go.RowKit
set_option linter.unusedVariables false

theorem closed1_any (w0 : World) (bx : Nat) (u : Value) (x : List Int) (hlt : bx < w0.heap.size) (hc : w0.cell? ⟨bx, 0, none⟩ = some u) (hu : Ints w0 u x) :
    AsksQ w0 16 (.pointer (some ⟨bx, 0, none⟩)) (fun y => x == y) := by
  intro v y w hb hv
  have hc' := (hb.cell (p := ⟨bx, 0, none⟩) hlt).trans hc
  have hu' := hu.below hb
  clear hc hu
  go_enter Try.func16, Try.ntmps16
  go_wp2_with fail
  refine (equal_b _ _ x y _ (by exact hu') (by exact hv)).mono ?_
  rintro e w1 ⟨rfl, b⟩
  go_wp2
  go_ret
  exact ⟨rfl, b⟩

theorem markAt_apart {ms : List (List Int)} (h : ms.Nodup) {i j : Nat} (hi : i < ms.length) (hj : j < i) : (markAt ms i == markAt ms j) = false := by
  rw [beq_eq_false_iff_ne]
  intro e
  have := markAt_inj h hi (by omega) e
  omega

set_option maxHeartbeats 4000000 in
theorem reachClosed_walk (v u sv : Value) (n : NetL) (m : List Int) (most : Int) (seq : List Int) (w : World) (hv : Net w v n) (hu : Ints w u m) (hs : Ints w sv seq) :
    Calls Try.prog 4 #[v, u, .int .i64 most, sv] w fun e w' => e = .returned (.bool true) ∧ Below w.heap.size w w' := by
  obtain ⟨tv, rfl, hT⟩ := hv
  have c := below_new w (.cells #[.int .i64 n.places, tv] 24)
  have hbx := box2_new w (.int .i64 n.places) tv 24
  have hv : Net _ (.agg #[.int .i64 n.places, tv]) n := ⟨_, rfl, hT.below c⟩
  replace hu := hu.below c
  replace hs := hs.below c
  clear hT
  go_enter Try.func4, Try.ntmps4
  go_wp2_with fail
  refine (alive4_any _).mono ?_
  rintro e w1 ⟨rfl, b⟩
  replace hv := hv.below b
  replace hu := hu.below b
  replace hs := hs.below b
  replace hbx := hbx.below b
  replace c := below_then c b
  clear b
  obtain ⟨x0, x1, x2⟩ := id hbx
  go_wp2_with fail
  refine (reach_graph _ _ n m most _ (by exact hv) (by exact hu)).mono ?_
  rintro e w2 ⟨r1, rfl, hr1, b⟩
  replace hv := hv.below b
  replace hu := hu.below b
  replace hs := hs.below b
  replace hbx := hbx.below b
  replace c := below_then c b
  clear b x0 x1 x2
  have Herr : Hid _ := @graphL_err n m most
  have Hwh : Hid (∀ s, graphL n m most = (s, 0) → Whole n m s) := fun s h => graphL_whole h
  generalize graphL n m most = p1 at *
  obtain ⟨s, cd⟩ := p1
  simp only at hr1 ⊢
  obtain ⟨mv, av, rfl, hM, hA⟩ := hr1
  obtain ⟨am, cm, rfl, hlm, hsm⟩ := hM.slice
  obtain ⟨aa, ca, rfl, _⟩ := hA.slice
  obtain ⟨lm, Hlm⟩ : ∃ lm, Hid (s.marks.length = lm) := ⟨_, rfl⟩
  obtain ⟨la, Hla⟩ : ∃ la, Hid ((List.map arcZ s.arcs).length = la) := ⟨_, rfl⟩
  rw [Hlm.out] at hM hlm hsm ⊢
  rw [Hla.out]
  clear hA
  have bs := below_new w2 (.cells #[.slice am lm cm, .slice aa la ca] 29)
  have hbs := box2_new w2 (.slice am lm cm) (.slice aa la ca) 29
  obtain ⟨ws, Hws⟩ : ∃ ws, Hid (w2.alloc (.cells #[.slice am lm cm, .slice aa la ca] 29) = ws) := ⟨_, rfl⟩
  rw [Hws.out] at bs hbs
  replace hv := hv.below bs
  replace hu := hu.below bs
  replace hs := hs.below bs
  replace hM := hM.below bs
  replace hbx := hbx.below bs
  replace c := below_then c bs
  clear bs
  obtain ⟨y0, y1, y2⟩ := id hbs
  go_upto_region 4 with fail
  rw [Hws.out]
  clear Hws
  by_cases h0 : cd = 0
  case neg =>
    have n1 : (cd != 0) = true := by simpa using h0
    have hE : s = ⟨[], []⟩ := Herr.out h0
    have k1 : lm = 0 := by rw [← Hlm.out, hE]; rfl
    have k2 : la = 0 := by rw [← Hla.out, hE]; rfl
    subst k1 k2
    clear Herr Hwh hE hM
    go_wp2
    go_ret
    exact ⟨rfl, c⟩
  subst h0
  have hW := Hwh.out s rfl
  have HW : Hid _ := hW
  have Hnd : Hid _ := hW.nodup
  clear Herr Hwh hW
  go_wp2_with fail
  clear y0 y1 y2
  go_loopg [41] lm (fun g i wr => ∃ k : Nat, k + g = lm ∧ i = .int .i64 k ∧ Below ws.heap.size ws wr)
  case atStart => exact ⟨0, by omega, rfl, Below.refl _ _⟩
  case round =>
    obtain ⟨i, hig, rfl, hb⟩ := hrel
    obtain ⟨G, hGk⟩ : ∃ G, G = gk := ⟨_, rfl⟩
    obtain ⟨W, hWk⟩ : ∃ W, W = wr := ⟨_, rfl⟩
    subst hGk hWk
    by_cases hin : i < lm
    · obtain ⟨y0, y1, y2⟩ := hbs.below hb
      obtain ⟨b1, o1, u1, rfl, hb1, c1, i1⟩ := (hM.below hb).at hin
      have hicm : (i : Int) ≤ (cm : Int) := by have := hsm.1; omega
      have hi0 : (0 : Int) ≤ (i : Int) := by omega
      go_wp2_with fail
      clear y0 y1 y2
      go_loopg [51] i (fun g j wr => ∃ k : Nat, k + g = i ∧ j = .int .i64 k ∧ Below W.heap.size W wr)
      case atStart => exact ⟨0, by omega, rfl, Below.refl _ _⟩
      case round =>
        obtain ⟨j, hjg, rfl, hb2⟩ := hrel
        by_cases hjn : j < i
        · obtain ⟨b2, o2, u2, e, _, c2, i2⟩ := ((hM.below hb).below hb2).at (show j < lm by omega)
          injection e with e
          injection e with e3 e4
          subst e3 e4
          have hne : Hid _ := markAt_apart Hnd.out (show i < s.marks.length by have := Hlm.out; omega) hjn
          go_wp2_with fail
          refine (equal_b _ _ _ _ _ (by exact i1.below hb2) (by exact i2)).mono ?_
          rintro e w5 ⟨rfl, b'⟩
          rw [hne.out]
          have R := below_then hb2 b'
          clear b' hb2 c2 i2 hne
          go_wp2
          go_roundg (gk - 1)
          case measure => omega
          case rel => exact ⟨j + 1, by omega, by go_num, R⟩
        · have R := below_then hb hb2
          clear hb hb2 c1 i1
          go_wp2
          go_roundg (G - 1)
          case measure => omega
          case rel => exact ⟨i + 1, by omega, by go_num, R⟩
    · replace hv := hv.below hb
      replace hu := hu.below hb
      replace hs := hs.below hb
      replace hM := hM.below hb
      replace hbx := hbx.below hb
      replace hbs := hbs.below hb
      replace c := below_then c hb
      clear hb
      obtain ⟨x0, x1, x2⟩ := id hbx
      go_wp2_with fail
      refine (net_run n seq _ _ _ m _ (by exact hv) (by exact hu) (by exact hs)).mono ?_
      rintro e w6 ⟨r6, rfl, hr6, b⟩
      replace hM := hM.below b
      replace hbs := hbs.below b
      replace c := below_then c b
      clear b x0 x1 x2 hv hu hs hbx
      have Hr : Hid ((runL n m seq).2 = 3 ∨ ∃ g, g < s.marks.length ∧ runL n m seq = (markAt s.marks g, 0)) := by
        have hW : Whole n m s := HW.out
        have e := hW.here
        have := hW.run seq e.1
        rw [e.2] at this
        exact this
      generalize runL n m seq = q at *
      obtain ⟨x, cx⟩ := q
      simp only at hr6 Hr ⊢
      have hr7 := hr6
      obtain ⟨ax, lx, px, rfl, _, _, _, _⟩ := hr6
      have bs := below_new w6 (.cells #[.slice ax lx px] 25)
      have hcx : (w6.alloc (.cells #[.slice ax lx px] 25)).cell? ⟨w6.heap.size, 0, none⟩ = some (.slice ax lx px) := by rw [World.cell?_alloc_at _ _ _ _ rfl]; rfl
      have hltx : w6.heap.size < (w6.alloc (.cells #[.slice ax lx px] 25)).heap.size := by simp
      obtain ⟨wx, Hwx⟩ : ∃ wx, Hid (w6.alloc (.cells #[.slice ax lx px] 25) = wx) := ⟨_, rfl⟩
      rw [Hwx.out] at bs hcx hltx
      replace hM := hM.below bs
      replace hbs := hbs.below bs
      replace hr7 := hr7.below bs
      replace c := below_then c bs
      clear bs
      obtain ⟨y0, y1, y2⟩ := id hbs
      go_upto_region 17 with fail
      rw [Hwx.out]
      clear Hwx
      by_cases h3 : cx = 3
      · subst h3
        go_wp2
        go_ret
        exact ⟨rfl, c⟩
      · have hg : ∃ g, g < s.marks.length ∧ x = markAt s.marks g ∧ cx = 0 := by
          rcases Hr.out with h | ⟨g, hg, e⟩
          · exact absurd h h3
          · injection e with e1 e2
            exact ⟨g, hg, e1, e2⟩
        obtain ⟨g, hg, hx, rfl⟩ := hg
        have F : Hid (s.marks.any (fun y => x == y) = true) := anyTo_of hg (by rw [hx]; simp)
        have Hask := closed1_any wx _ _ x hltx hcx hr7
        have HA : Hid _ := Hask
        clear Hr h3 hx hg Hask hcx
        go_wp2_with fail
        refine (containslists_any wx 16 _ _ HA.out Try.call16 _ s.marks _ (Below.refl _ _) (by exact hM)).mono ?_
        rintro e w8 ⟨rfl, b⟩
        rw [F.out]
        replace c := below_then c b
        clear b
        go_wp2
        go_ret
        exact ⟨rfl, c⟩

end Go.Proofs.Ytfcgapcdhhliiaa
