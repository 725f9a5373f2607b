/- The law ReachTrue, walked: it answers true, and writes nothing that was there. -/
import Derived.Test.YtfcgapcdhhliiaaAlive4
namespace Go.Proofs.Ytfcgapcdhhliiaa
open Go.RowKit
set_option linter.unusedVariables false

theorem below_drew1 (w : World) : Below w.heap.size w w.drew := below_drewN (Below.refl _ _) 1

theorem Whole.arc {n : NetL} {m : List Int} {s : SpaceL} (h : Whole n m s) {j : Nat} (hj : j < (s.arcs.map arcZ).length) :
    ∃ f t g : Nat, (s.arcs.map arcZ)[j] = ((f : Int), (t : Int), (g : Int)) ∧ f < s.marks.length ∧ g < s.marks.length ∧ fireL n (markAt s.marks f) t = (markAt s.marks g, 0) := by
  obtain ⟨most, k, hF, _⟩ := h
  have hj' : j < s.arcs.length := by simpa using hj
  obtain ⟨h1, h2, h3, h4, h5⟩ := hF.sound _ (List.getElem_mem hj')
  exact ⟨_, _, _, by rw [List.getElem_map]; rfl, h1, h2, h5⟩

set_option maxRecDepth 4000 in
set_option maxHeartbeats 4000000 in
theorem reachTrue_walk (v u sv : Value) (n : NetL) (m : List Int) (most kk : Int) (seq : List Int) (w : World) (hv : Net w v n) (hu : Ints w u m) (hs : Ints w sv seq) :
    Calls Try.prog 5 #[v, u, .int .i64 most, .int .i64 kk, sv] w fun e w' => e = .returned (.bool true) ∧ Below w.heap.size w w' := by
  obtain ⟨tv, rfl, hT⟩ := hv
  have c := below_new w (.cells #[.int .i64 n.places, tv] 24)
  have hbx := box2_new w (.int .i64 n.places) tv 24
  have hv : Net _ (.agg #[.int .i64 n.places, tv]) n := ⟨_, rfl, hT.below c⟩
  replace hu := hu.below c
  replace hs := hs.below c
  clear hT
  go_enter Try.func5, Try.ntmps5
  go_wp2_with fail
  refine (alive4_any _).mono ?_
  rintro e w1 ⟨rfl, b⟩
  replace hv := hv.below b
  replace hu := hu.below b
  replace hs := hs.below b
  replace hbx := hbx.below b
  replace c := below_then c b
  clear b
  obtain ⟨x0, x1, x2⟩ := id hbx
  go_wp2_with fail
  refine (reach_graph _ _ n m most _ (by exact hv) (by exact hu)).mono ?_
  rintro e w2 ⟨r1, rfl, hr1, b⟩
  replace hv := hv.below b
  replace hu := hu.below b
  replace hs := hs.below b
  replace hbx := hbx.below b
  replace c := below_then c b
  clear b x0 x1 x2
  have Hwh : Hid (∀ s, graphL n m most = (s, 0) → Whole n m s) := fun s h => graphL_whole h
  have Htr : Hid (∀ s, graphL n m most = (s, 0) → ∀ k, k < s.marks.length → ∃ p, reachL n m (markAt s.marks k) most = (p, 0) ∧ runL n m p = (markAt s.marks k, 0) ∧ ∀ seq, runL n m seq = (markAt s.marks k, 0) → p.length ≤ seq.length) := fun s h k hk => reach_true h hk
  have Hwd : Hid (∀ s, graphL n m most = (s, 0) → ∀ k, k < s.marks.length → ∀ z ∈ markAt s.marks k, inWord z) := fun s h k hk => right_word (fits_net ((graphL_ok h).2.2.2.2.fits _ (markAt_mem hk))).2.2
  generalize graphL n m most = p1 at *
  obtain ⟨s, cd⟩ := p1
  simp only at hr1 ⊢
  obtain ⟨mv, av, rfl, hM, hA⟩ := hr1
  obtain ⟨am, cm, rfl, hlm, hsm⟩ := hM.slice
  obtain ⟨aa, ca, rfl, hla⟩ := hA.slice
  obtain ⟨lm, Hlm⟩ : ∃ lm, Hid (s.marks.length = lm) := ⟨_, rfl⟩
  obtain ⟨la, Hla⟩ : ∃ la, Hid ((List.map arcZ s.arcs).length = la) := ⟨_, rfl⟩
  rw [Hlm.out] at hM hlm hsm ⊢
  rw [Hla.out] at hA hla ⊢
  have bs := below_new w2 (.cells #[.slice am lm cm, .slice aa la ca] 29)
  have hbs := box2_new w2 (.slice am lm cm) (.slice aa la ca) 29
  obtain ⟨bk, Hbk⟩ : ∃ bk, Hid (w2.heap.size = bk) := ⟨_, rfl⟩
  rw [Hbk.out] at hbs
  obtain ⟨ws, Hws⟩ : ∃ ws, Hid (w2.alloc (.cells #[.slice am lm cm, .slice aa la ca] 29) = ws) := ⟨_, rfl⟩
  rw [Hws.out] at bs hbs
  replace hv := hv.below bs
  replace hu := hu.below bs
  replace hs := hs.below bs
  replace hM := hM.below bs
  replace hA := hA.below bs
  replace hbx := hbx.below bs
  replace c := below_then c bs
  clear bs
  obtain ⟨y0, y1, y2⟩ := id hbs
  go_upto_region 4 with fail
  rw [Hws.out, Hbk.out]
  clear Hws Hbk
  by_cases h0 : cd = 0
  case neg =>
    have n1 : (cd != 0) = true := by simpa using h0
    clear Hwh Htr Hwd
    go_wp2
    go_ret
    exact ⟨rfl, c⟩
  subst h0
  by_cases hk0 : kk < 0
  · clear Hwh Htr Hwd
    go_wp2
    go_ret
    exact ⟨rfl, c⟩
  by_cases hk1 : (lm : Int) ≤ kk
  · clear Hwh Htr Hwd
    go_wp2
    go_ret
    exact ⟨rfl, c⟩
  obtain ⟨k, rfl⟩ := Int.eq_ofNat_of_zero_le (show 0 ≤ kk by omega)
  have hkl : k < lm := by omega
  have HW : Hid _ := Hwh.out s rfl
  obtain ⟨p, P1, P2, P3⟩ := Htr.out s rfl k (by have := Hlm.out; omega)
  have HP1 : Hid _ := P1
  have HWd : Hid _ := Hwd.out s rfl k (by have := Hlm.out; omega)
  have HP2 : Hid _ := P2
  have HP3 : Hid _ := P3 seq
  clear Hwh Htr Hwd P1 P2 P3
  go_wp2_with fail
  clear y0 y1 y2
  go_loopg [48] la (fun g i wr => ∃ j : Nat, j + g = la ∧ i = .int .i64 j ∧ Below ws.heap.size ws wr)
  case atStart => exact ⟨0, by omega, rfl, Below.refl _ _⟩
  case round =>
    obtain ⟨j, hjg, rfl, hb⟩ := hrel
    by_cases hjn : j < la
    · have hjl : j < (List.map arcZ s.arcs).length := by have := Hla.out; omega
      obtain ⟨ba, oa, rfl, _, c0, c1, c2⟩ := (hA.below hb).at hjl
      obtain ⟨f, t, g, e, hf, hg, hfire⟩ := (show Whole n m s from HW.out).arc hjl
      rw [e] at c0 c1 c2
      simp only at c0 c1 c2
      have HF : Hid _ := hfire
      have hf' : f < lm := by have := Hlm.out; omega
      have hg' : g < lm := by have := Hlm.out; omega
      clear e hf hg hfire hjl
      have b1 := below_new wr (.cells #[.int .i64 (f : Int), .int .i64 (t : Int), .int .i64 (g : Int)] 44)
      have hx3 := box3_new wr (.int .i64 (f : Int)) (.int .i64 (t : Int)) (.int .i64 (g : Int)) 44
      obtain ⟨wt, Hwt⟩ : ∃ wt, Hid (wr.alloc (.cells #[.int .i64 (f : Int), .int .i64 (t : Int), .int .i64 (g : Int)] 44) = wt) := ⟨_, rfl⟩
      obtain ⟨bt, Hbt⟩ : ∃ bt, Hid (wr.heap.size = bt) := ⟨_, rfl⟩
      rw [Hwt.out] at b1
      rw [Hwt.out, Hbt.out] at hx3
      have hbt := below_then hb b1
      obtain ⟨b2, o2, u2, rfl, hb2, d2, i2⟩ := (hM.below hbt).at hf'
      have hv2 := hv.below hbt
      have hx2 := hbx.below hbt
      have hs2 := hbs.below hbt
      have hM2 := hM.below hbt
      obtain ⟨z0, z1, z2, z3⟩ := id hx3
      obtain ⟨x0, x1, x2⟩ := id hx2
      obtain ⟨y0, y1, y2⟩ := id hs2
      go_upto_region 9 with fail
      rw [Hwt.out, Hbt.out]
      clear Hwt Hbt c0 c1 c2 hb b1
      go_wp2_with fail
      go_region_held3 (fun w' => (w'.cell? ⟨w.heap.size, 0, none⟩ = some (.int .i64 n.places) ∧ w'.cell? ⟨w.heap.size, 1, none⟩ = some tv) ∧ w'.cell? ⟨bk, 0, none⟩ = some (.slice (some ⟨b2, o2, none⟩) lm cm) ∧ w'.cell? ⟨b2, o2 + f, none⟩ = some u2 ∧ w'.cell? ⟨bt, 0, none⟩ = some (.int .i64 (f : Int)) ∧ w'.cell? ⟨bt, 1, none⟩ = some (.int .i64 (t : Int)))
        (go_keep)
        (first
          | (go_at_call 17; refine (net_fire _ _ n (markAt s.marks f) t _ ?_ ?_).mono ?_; exact hv2.below (below_drew1 _); exact i2.below (below_drew1 _); rintro e w5 ⟨r5, rfl, hr5, q5⟩; have q5 := below_then (below_drew1 _) q5; have e1 := (q5.cell (p := ⟨w.heap.size, 0, none⟩) x0).trans x1; have e2 := (q5.cell (p := ⟨w.heap.size, 1, none⟩) x0).trans x2; have e3 := (q5.cell (p := ⟨bk, 0, none⟩) y0).trans y1; have e4 := (q5.cell (p := ⟨b2, o2 + f, none⟩) hb2).trans d2; have e5 := (q5.cell (p := ⟨bt, 0, none⟩) z0).trans z1; have e6 := (q5.cell (p := ⟨bt, 1, none⟩) z0).trans z2))
      rw [HF.out] at hr5
      simp only at hr5
      simp only [HF.out]
      have hb5 := below_then hbt q5
      obtain ⟨z0', z1', z2', z3'⟩ := hx3.below q5
      obtain ⟨y0', y1', y2'⟩ := hs2.below q5
      obtain ⟨b3, o3, u3, e, hb3, d3, i3⟩ := (hM2.below q5).at hg'
      injection e with e
      injection e with ea eb
      subst ea eb
      clear HF x0 x1 x2 y0 y1 y2 z0 z1 z2 z3 e1 e2 e3 e4 e5 e6 q5 hbt hv2 hx2 hs2 hM2 hx3 d2 i2
      go_wp2_with fail
      refine (equal_b _ _ _ _ _ (by exact hr5) (by exact i3)).mono ?_
      rintro e w6 ⟨rfl, b'⟩
      rw [beq_self_eq_true]
      have R := below_then hb5 b'
      clear b' hb5 y0' y1' y2' z0' z1' z2' z3' d3 i3 hr5
      go_wp2
      go_roundg (gk - 1)
      case measure => omega
      case rel => exact ⟨j + 1, by omega, by go_num, R⟩
    · replace hv := hv.below hb
      replace hu := hu.below hb
      replace hs := hs.below hb
      replace hM := hM.below hb
      replace hbx := hbx.below hb
      replace hbs := hbs.below hb
      replace c := below_then c hb
      clear hb hA
      obtain ⟨x0, x1, x2⟩ := id hbx
      obtain ⟨y0, y1, y2⟩ := id hbs
      obtain ⟨b2, o2, u2, rfl, hb2, d2, i2⟩ := hM.at hkl
      go_wp2_with fail
      go_region_held3 (fun w' => (w'.cell? ⟨w.heap.size, 0, none⟩ = some (.int .i64 n.places) ∧ w'.cell? ⟨w.heap.size, 1, none⟩ = some tv) ∧ w'.cell? ⟨bk, 0, none⟩ = some (.slice (some ⟨b2, o2, none⟩) lm cm) ∧ w'.cell? ⟨b2, o2 + k, none⟩ = some u2)
        (go_keep)
        (first
          | (go_at_call 9; refine (reach_path _ _ _ n m (markAt s.marks k) most _ ?_ ?_ ?_ HWd.out).mono ?_; exact hv.below (below_drew1 _); exact hu.below (below_drew1 _); exact i2.below (below_drew1 _); rintro e w5 ⟨r5, rfl, hr5, q5⟩; have q5 := below_then (below_drew1 _) q5; have e1 := (q5.cell (p := ⟨w.heap.size, 0, none⟩) x0).trans x1; have e2 := (q5.cell (p := ⟨w.heap.size, 1, none⟩) x0).trans x2; have e3 := (q5.cell (p := ⟨bk, 0, none⟩) y0).trans y1; have e4 := (q5.cell (p := ⟨b2, o2 + k, none⟩) hb2).trans d2))
      rw [HP1.out] at hr5
      simp only at hr5
      simp only [HP1.out]
      replace hv := hv.below q5
      replace hu := hu.below q5
      replace hs := hs.below q5
      replace hM := hM.below q5
      replace hbx := hbx.below q5
      replace hbs := hbs.below q5
      replace c := below_then c q5
      clear e1 e2 e3 e4 q5 x0 x1 x2 y0 y1 y2 d2 i2 HP1
      obtain ⟨x0, x1, x2⟩ := id hbx
      go_wp2_with fail
      refine (net_run n p _ _ _ m _ (by exact hv) (by exact hu) (by exact hr5)).mono ?_
      rintro e w6 ⟨r6, rfl, hr6, b⟩
      rw [HP2.out] at hr6
      simp only at hr6
      simp only [HP2.out]
      replace hv := hv.below b
      replace hu := hu.below b
      replace hs := hs.below b
      replace hM := hM.below b
      replace hr5 := hr5.below b
      replace hbx := hbx.below b
      replace hbs := hbs.below b
      replace c := below_then c b
      clear b x0 x1 x2 HP2
      obtain ⟨x0, x1, x2⟩ := id hbx
      go_wp2_with fail
      refine (net_run n seq _ _ _ m _ (by exact hv) (by exact hu) (by exact hs)).mono ?_
      rintro e w7 ⟨r7, rfl, hr7, b⟩
      replace hM := hM.below b
      replace hr6 := hr6.below b
      replace hbs := hbs.below b
      replace c := below_then c b
      clear b x0 x1 x2 hv hu hbx
      generalize runL n m seq = q at *
      obtain ⟨y, cy⟩ := q
      simp only at hr7 HP3 ⊢
      obtain ⟨y0, y1, y2⟩ := id hbs
      obtain ⟨b2, o2, u2, e, hb2, d2, i2⟩ := hM.at hkl
      injection e with e
      injection e with ea eb
      subst ea eb
      obtain ⟨ap, lp, pp, rfl, hlp, _, _, _⟩ := hr5
      obtain ⟨as', ls, ps, rfl, hls, _, _, _⟩ := hs
      go_wp2_with fail
      refine (equal_b _ _ _ _ _ (by exact hr6) (by exact i2)).mono ?_
      rintro e w8 ⟨rfl, b⟩
      rw [beq_self_eq_true]
      replace hr6 := hr6.below b
      replace hr7 := hr7.below b
      replace c := below_then c b
      clear b y0 y1 y2 d2 i2
      by_cases h0 : cy = 0
      case neg =>
        have n1 : (cy != 0) = true := by simpa using h0
        clear HP3
        go_wp2
        go_ret
        exact ⟨rfl, c⟩
      subst h0
      go_wp2_with fail
      refine (equal_b _ _ _ _ _ (by exact hr7) (by exact hr6)).mono ?_
      rintro e w9 ⟨rfl, b⟩
      replace c := below_then c b
      clear b
      cases hy : (y == markAt s.marks k)
      · clear HP3
        go_wp2
        go_ret
        exact ⟨rfl, c⟩
      · have e : y = markAt s.marks k := by simpa using hy
        have hle : (lp : Int) ≤ (ls : Int) := by have := HP3.out (by rw [e]); omega
        clear HP3 hy e
        go_wp2
        go_ret
        exact ⟨rfl, c⟩

end Go.Proofs.Ytfcgapcdhhliiaa
