/- The answers of the document itself for reach: all marks, walked. -/
import Derived.Test.YtfcgapcdhhliiaaReach1
namespace Go.Proofs.Ytfcgapcdhhliiaa
open Go.RowKit
set_option linter.unusedVariables false

/-- Two blocks of two cells, one behind the other. -/
theorem two_newB (w W : World) (x y x' y' : Value) (t t' : TypeId) (h : (w.alloc (.cells #[x, y] t)).alloc (.cells #[x', y'] t') = W) :
    Below w.heap.size w W ∧ Box2 W w.heap.size x y ∧ Box2 W (w.heap.size + 1) x' y' ∧ (∀ j, W.frozen? ⟨w.heap.size + 1, j, none⟩ = false) ∧ W.heap.size = w.heap.size + 1 + 1 := by
  have b1 := below_new w (.cells #[x, y] t)
  have b2 := below_new (w.alloc (.cells #[x, y] t)) (.cells #[x', y'] t')
  have h1 := (box2_new w x y t).below b2
  have h2 := box2_new (w.alloc (.cells #[x, y] t)) x' y' t'
  have e : (w.alloc (.cells #[x, y] t)).heap.size = w.heap.size + 1 := by simp
  rw [e] at h2
  subst h
  exact ⟨below_then b1 b2, h1, h2, fun j => by rw [World.frozen?_alloc_at _ _ _ _ (by simp)], by simp⟩

theorem space_nil (w : World) : Space w (.agg #[.slice none 0 0, .slice none 0 0]) ⟨[], []⟩ :=
  ⟨_, _, rfl, ⟨none, 0, 0, rfl, rfl, by omega, ⟨by omega, by omega, fun _ => rfl⟩, fun j hj => absurd hj (by simp)⟩, ⟨none, 0, 0, rfl, rfl, by omega, ⟨by omega, by omega, fun _ => rfl⟩, fun j hj => absurd hj (by simp)⟩⟩

theorem givesS_of {w w' : World} {r : Value} {p : SpaceL × Int} {s : SpaceL} {c : Int} (hp : p = (s, c)) (hr : Space w' r s) (hb : Below w.heap.size w w') : GivesS w p (.returned (.tuple #[r, .int .i64 c])) w' := by
  subst hp; exact ⟨r, rfl, hr, hb⟩

set_option maxRecDepth 4000 in
set_option maxHeartbeats 8000000 in
theorem dgraph_any (v u : Value) (n : NetL) (m : List Int) (most : Int) (w : World) (hv : Net w v n) (hu : Ints w u m) (hsm : SmallNet n) :
    Calls Try.prog 8 #[v, u, .int .i64 most] w fun e w' => GivesS w (graphL n m most) e w' := by
  obtain ⟨tv, rfl, hT⟩ := hv
  obtain ⟨ta, tl, tc, rfl, htl, htm, hts, _⟩ := id hT
  obtain ⟨W0, HW0⟩ : ∃ W0, Hid (((w.alloc (.cells #[.int .i64 n.places, .slice ta tl tc] 24)).alloc (.cells #[.slice none 0 0, .slice none 0 0] 29)) = W0) := ⟨_, rfl⟩
  obtain ⟨b3, hbx, hres, hfr, hsz⟩ := two_newB _ _ _ _ _ _ _ _ HW0.out
  have hv : Net W0 (.agg #[.int .i64 n.places, .slice ta tl tc]) n := ⟨_, rfl, hT.below b3⟩
  have hon : On (fun k => k ≠ w.heap.size + 1 ∧ k < W0.heap.size) W0 (fun w' => Ints w' u m) := ((ints_old hu).below b3).weaken fun k _ hk => ⟨by omega, by omega⟩
  replace hu := hu.below b3
  have Hfr : Hid _ := hfr
  have hys : w.heap.size + 1 < W0.heap.size := by omega
  clear hT hfr
  obtain ⟨x0, x1, x2⟩ := id hbx
  obtain ⟨y0, y1, y2⟩ := id hres
  have f0 := Hfr.out 0
  have f1 := Hfr.out 1
  have hE5 : Below w.heap.size w ((W0.setCell ⟨w.heap.size + 1, 0, none⟩ (.slice none 0 0)).setCell ⟨w.heap.size + 1, 1, none⟩ (.slice none 0 0)) :=
    (b3.setCell (p := ⟨w.heap.size + 1, 0, none⟩) (by simp) _).setCell (p := ⟨w.heap.size + 1, 1, none⟩) (by simp) _
  have HE5 : Hid _ := hE5
  clear hE5
  go_enter Try.func8, Try.ntmps8
  go_upto_region 1 with fail
  rw [HW0.out]
  clear HW0
  by_cases hm1 : most < 1
  · have E : Hid (graphL n m most = (⟨[], []⟩, 2)) := by show _ = _; rw [graphL, graphOk, decide_eq_false (by omega)]; rfl
    go_wp2_with fail
    refine bodyPost_ret (v := .tuple #[.agg #[.slice none 0 0, .slice none 0 0], .int .i64 2]) ?_ rfl (givesS_of E.out (space_nil _) HE5.out)
    simp [results, Try.results8, go_sem, y1, y2]
  by_cases hm2 : 300 < most
  · have E : Hid (graphL n m most = (⟨[], []⟩, 2)) := by show _ = _; rw [graphL, graphOk, decide_eq_false (show ¬ most ≤ 300 by omega)]; simp
    go_wp2_with fail
    refine bodyPost_ret (v := .tuple #[.agg #[.slice none 0 0, .slice none 0 0], .int .i64 2]) ?_ rfl (givesS_of E.out (space_nil _) HE5.out)
    simp [results, Try.results8, go_sem, y1, y2]
  clear HE5
  go_wp2_with fail
  refine (bfits_any _ _ n m _ (by exact hv) (by exact hu) hsm).mono ?_
  rintro e W ⟨rfl, b⟩
  replace hon := hon.below b
  replace hv := hv.below b
  replace hu := hu.below b
  replace hbx := hbx.below b
  replace hres := hres.below b
  replace b3 := below_then b3 b
  have hys2 : w.heap.size + 1 < W.heap.size := Nat.lt_of_lt_of_le hys b.size
  have hfr2 : Hid (∀ j, W.frozen? ⟨w.heap.size + 1, j, none⟩ = false) := fun j => by rw [b.frozen (p := ⟨w.heap.size + 1, j, none⟩) hys]; exact Hfr.out j
  replace hon := hon.weaken (D' := fun k => k ≠ w.heap.size + 1 ∧ k < W.heap.size) fun k hlt hk => ⟨hk.1, hlt⟩
  clear b x0 x1 x2 y0 y1 y2 f0 f1 Hfr hsz hys
  cases hf : fitsL n m
  · have E : Hid (graphL n m most = (⟨[], []⟩, 2)) := by show _ = _; rw [graphL, graphOk, hf]; simp
    obtain ⟨y0, y1, y2⟩ := hres
    have f0 := hfr2.out 0
    have f1 := hfr2.out 1
    have hE5 : Below w.heap.size w ((W.setCell ⟨w.heap.size + 1, 0, none⟩ (.slice none 0 0)).setCell ⟨w.heap.size + 1, 1, none⟩ (.slice none 0 0)) :=
      (b3.setCell (p := ⟨w.heap.size + 1, 0, none⟩) (by simp) _).setCell (p := ⟨w.heap.size + 1, 1, none⟩) (by simp) _
    have HE5 : Hid _ := hE5
    clear hE5
    go_wp2_with fail
    refine bodyPost_ret (v := .tuple #[.agg #[.slice none 0 0, .slice none 0 0], .int .i64 2]) ?_ rfl (givesS_of E.out (space_nil _) HE5.out)
    simp [results, Try.results8, go_sem, y1, y2]
  obtain ⟨M, rfl⟩ := Int.eq_ofNat_of_zero_le (show 0 ≤ most by omega)
  have HG : Hid (∀ o, graphTo n m M M = o → graphL n m M = match o with | some s => (s, 0) | none => (⟨[], []⟩, 4)) := by
    intro o ho
    have hok : graphOk n m M = true := by simp only [graphOk, Bool.and_eq_true, decide_eq_true_eq]; exact ⟨⟨by omega, by omega⟩, hf⟩
    rw [graphL, hok]
    simp only [if_true, Int.toNat_natCast]
    rw [ho]
    cases o <;> rfl
  have HFd : Hid (∀ k s, graphTo n m M k = some s → Found n m M k 0 s) := fun k s h => graphTo_found (by omega) hf k h
  have HT24 : Hid (n.trans.length ≤ 24) := fits_trans hf
  have hM1 : 1 ≤ M := by omega
  have hM3 : M ≤ 300 := by omega
  obtain ⟨ua, ul, uc, rfl, _, _, _, _⟩ := id hu
  have hst := space_start W (.slice ua ul uc) m (w.heap.size + 1) hys2 rfl hon
  obtain ⟨Ws, HWs⟩ : ∃ Ws, Hid (((W.alloc (.cells #[.slice ua ul uc] 25)).alloc (.cells #[.slice (some ⟨W.heap.size, 0, none⟩) 1 1, .slice none 0 0] 29)) = Ws) := ⟨_, rfl⟩
  rw [HWs.out] at hst
  have HnT : Hid (n.trans.length = tl) := htl
  clear hu hon hm1 hm2 hf htl
  go_upto_region 4 with fail
  rw [HWs.out]
  clear HWs
  go_wp2_with fail
  go_loopg [9] M (fun g i wr => ∃ (k : Nat) (s : SpaceL) (mv av : Value) (us : List Value), k + g = M ∧ i = .int .i64 k ∧ SpaceAt (W.heap.size + 1) (w.heap.size + 1) W.heap.size W wr s mv av us ∧ Hid (graphTo n m M k = some s))
  case atStart => exact ⟨0, _, _, _, _, by omega, rfl, hst, rfl⟩
  case round =>
    clear hst
    obtain ⟨k, s, mv, av, us, hkg, rfl, hS, Hgr⟩ := hrel
    obtain ⟨G, hGk⟩ : ∃ G, G = gk := ⟨_, rfl⟩
    obtain ⟨WR, hWRk⟩ : ∃ WR, WR = wr := ⟨_, rfl⟩
    subst hGk hWRk
    have hF : Found n m M k 0 s := HFd.out k s Hgr.out
    obtain ⟨am, cm, rfl⟩ := hS.sliceM
    have c0 := hS.c0
    have hml : s.marks.length ≤ M := hF.most_le
    obtain ⟨lm, Hlm⟩ : ∃ lm, Hid (s.marks.length = lm) := ⟨_, rfl⟩
    rw [Hlm.out] at c0 hml
    by_cases hkl : k < lm
    · obtain ⟨xb0, xb1, xb2⟩ := hbx.below hS.below
      have HF : Hid _ := hF
      clear hF
      go_wp2_with fail
      clear c0 xb0 xb1 xb2
      go_loopg [42] tl (fun g i wr => ∃ (t : Nat) (s' : SpaceL) (mv av : Value) (us : List Value), t + g = tl ∧ i = .int .i64 t ∧ SpaceAt (W.heap.size + 1) (w.heap.size + 1) W.heap.size W wr s' mv av us ∧ Hid (rowTo n M k s t = some s'))
      case atStart => exact ⟨0, s, _, av, us, by omega, rfl, hS, rfl⟩
      case round =>
        clear hS
        obtain ⟨t, s', mv, av, us, htg, rfl, hS, Hrow⟩ := hrel
        obtain ⟨G2, hGk⟩ : ∃ G2, G2 = gk := ⟨_, rfl⟩
        obtain ⟨WT, hWTk⟩ : ∃ WT, WT = wr := ⟨_, rfl⟩
        subst hGk hWTk
        by_cases htl : t < tl
        · have hkl2 : k < s.marks.length := by have := Hlm.out; omega
          obtain ⟨hF2, hLo⟩ := rowTo_found HF.out hkl2 t (by have := HnT.out; omega) Hrow.out
          have hk' : k < s'.marks.length := Nat.lt_of_lt_of_le hkl2 hLo.le
          have hml2 := hF2.most_le
          have Hnd : Hid _ := hF2.nodup
          have Har : Hid (s'.arcs.length + 1 ≤ 5864062014805) := by
            show _ ≤ _
            have h1 := rowTo_arcs _ Hrow.out
            have h2 := graphTo_arcs HT24.out _ Hgr.out
            have h3 := HT24.out
            have h4 := HnT.out
            omega
          have Hfail : Hid (tryT n M k s' t = none → graphTo n m M M = none) := fun h => graph_fails Hgr.out hkl2 (by omega) Hrow.out (by have := HnT.out; omega) h
          have Hstep : Hid (∀ s2, tryT n M k s' t = some s2 → rowTo n M k s (t + 1) = some s2) := fun s2 h => row_step Hrow.out h
          have hul : us.length ≤ 5864062014805 := by rw [hS.len]; omega
          have hL := hS.lists hul
          obtain ⟨am, cm, rfl⟩ := hS.sliceM
          obtain ⟨lm2, Hlm2⟩ : ∃ lm2, Hid (s'.marks.length = lm2) := ⟨_, rfl⟩
          have c0 := hS.c0
          rw [Hlm2.out] at hL c0 hk' hml2
          obtain ⟨b2, o2, u2, rfl, hb2, d2, i2⟩ := hL.at hk'
          have hv2 := hv.below hS.below
          obtain ⟨x0, x1, x2⟩ := hbx.below hS.below
          have hlt := hS.hlt
          clear hF2 hLo hkl2
          have Hmore : Hid _ := Hrow
          go_wp2_with fail
          go_region_held3 (fun w' => (w'.cell? ⟨w.heap.size, 0, none⟩ = some (.int .i64 n.places) ∧ w'.cell? ⟨w.heap.size, 1, none⟩ = some (.slice ta tl tc)) ∧ w'.cell? ⟨W.heap.size + 1, 0, none⟩ = some (.slice (some ⟨b2, o2, none⟩) lm2 cm) ∧ w'.cell? ⟨b2, o2 + k, none⟩ = some u2)
            (go_keep)
            (first
              | (go_at_call 20; refine (bfire_own _ _ n (markAt s'.marks k) t _ ?_ ?_ hsm).mono ?_; exact hv2.below (below_drewN (Below.refl _ _) 1); exact i2.drewN 1; rintro e w5 ⟨r5, rfl, hr5, q5⟩; have hO5 := hS.fresh hr5; have q5 := below_then (below_drewN (Below.refl WT.heap.size WT) 1) q5; have e1 := (q5.cell (p := ⟨w.heap.size, 0, none⟩) x0).trans x1; have e2 := (q5.cell (p := ⟨w.heap.size, 1, none⟩) x0).trans x2; have e3 := (q5.cell (p := ⟨W.heap.size + 1, 0, none⟩) hlt).trans c0; have e4 := (q5.cell (p := ⟨b2, o2 + k, none⟩) hb2).trans d2))
          replace hS := hS.to q5
          clear e1 e2 e3 e4 hr5 x0 x1 x2 c0 d2 i2 hv2 hL q5 hb2
          obtain ⟨q, hq⟩ : ∃ q, fireL n (markAt s'.marks k) t = q := ⟨_, rfl⟩
          have Hq : Hid _ := hq
          rw [hq] at hO5 ⊢
          clear hq
          obtain ⟨z, cd⟩ := q
          simp only at hO5 ⊢
          by_cases h3 : cd = 3
          · subst h3
            have R : Hid _ := Hstep.out s' (tryT_skip Hq.out)
            clear Hstep Hfail Hq hO5
            go_wp2
            go_roundg (G2 - 1)
            case measure => omega
            case rel => exact ⟨t + 1, s', _, av, us, by omega, by go_num, hS, R⟩
          have n3 : (cd == 3) = false := by simpa using h3
          have c0 := hS.c0
          have hL := hS.lists hul
          rw [Hlm2.out] at c0 hL
          go_wp2_with fail
          clear c0
          go_loopg [13, 61] lm2 (fun g o i wr => ∃ (j : Nat) (zz : Int), j + g = lm2 ∧ i = .int .i64 j ∧ o = .int .i64 zz ∧ Hid (SeekTo s'.marks z j zz) ∧ Below w5.heap.size w5 wr)
          case atStart => exact ⟨0, -1, by omega, rfl, rfl, .inl ⟨rfl, fun i hi => absurd hi (Nat.not_lt_zero _)⟩, Below.refl _ _⟩
          case round =>
            obtain ⟨j, zz, hjg, rfl, rfl, Hsk, hb⟩ := hrel
            by_cases hjn : j < lm2
            · obtain ⟨b3', o3, u3, e, _, d3, i3⟩ := (hL.below hb).at hjn
              injection e with e
              injection e with ea eb
              subst ea eb
              have hz := (hO5.below hb).now
              go_wp2_with fail
              refine (equal_b _ _ _ _ _ (by exact hz) (by exact i3)).mono ?_
              rintro e w6 ⟨rfl, b'⟩
              have R := below_then hb b'
              clear hb b' i3 d3 hz
              cases hy : (z == markAt s'.marks j)
              · have F : Hid (SeekTo s'.marks z (j + 1) zz) := seek_no Hsk.out (fun e => by rw [e] at hy; simp at hy)
                clear hy
                go_wp2
                go_roundg (gk - 1)
                case measure => omega
                case rel => exact ⟨j + 1, zz, by omega, by go_num, rfl, F, R⟩
              · have F : Hid (SeekTo s'.marks z (j + 1) (j : Int)) := seek_yes (by simpa using (beq_iff_eq.1 hy).symm)
                clear hy
                go_wp2
                go_roundg (gk - 1)
                case measure => omega
                case rel => exact ⟨j + 1, (j : Int), by omega, by go_num, rfl, F, R⟩
            · have hjl : j = s'.marks.length := by have := Hlm2.out; omega
              have Hd : Hid _ := seek_done Hnd.out (hjl ▸ Hsk.out)
              replace hS := hS.to hb
              replace hO5 := hO5.below hb
              clear hjl hL hb Hsk
              have c0 := hS.c0
              rw [Hlm2.out] at c0
              obtain ⟨y0, y1, y2⟩ := hres.below hS.below
              have f0 : wr.frozen? ⟨w.heap.size + 1, 0, none⟩ = false := by rw [hS.below.frozen (p := ⟨w.heap.size + 1, 0, none⟩) hys2]; exact hfr2.out 0
              have f1 : wr.frozen? ⟨w.heap.size + 1, 1, none⟩ = false := by rw [hS.below.frozen (p := ⟨w.heap.size + 1, 1, none⟩) hys2]; exact hfr2.out 1
              have hE5 : Below w.heap.size w ((wr.setCell ⟨w.heap.size + 1, 0, none⟩ (.slice none 0 0)).setCell ⟨w.heap.size + 1, 1, none⟩ (.slice none 0 0)) :=
                ((below_then b3 hS.below).setCell (p := ⟨w.heap.size + 1, 0, none⟩) (by simp) _).setCell (p := ⟨w.heap.size + 1, 1, none⟩) (by simp) _
              have HE5 : Hid _ := hE5
              clear hE5
              by_cases h0 : cd = 0
              case neg =>
                have n0 : (cd != 0) = true := by simpa using h0
                have E : Hid (graphL n m M = (⟨[], []⟩, 4)) := HG.out none (Hfail.out (tryT_full Hq.out h3 h0))
                clear Hstep Hfail Hq Hd
                go_wp2_with fail
                refine bodyPost_ret (v := .tuple #[.agg #[.slice none 0 0, .slice none 0 0], .int .i64 4]) ?_ rfl (givesS_of E.out (space_nil _) HE5.out)
                simp [results, Try.results8, go_sem, y1, y2]
              subst h0
              rcases Hd.out with ⟨rfl, hfn⟩ | ⟨i, hi, rfl, hfs⟩
              · by_cases hl : lm2 = M
                · have nl : (((lm2 : Nat) : Int) == (M : Int)) = true := by simp [hl]
                  have E : Hid (graphL n m M = (⟨[], []⟩, 4)) := HG.out none (Hfail.out (tryT_most Hq.out hfn (by rw [Hlm2.out]; exact hl)))
                  clear Hstep Hfail Hq Hd hfn
                  go_wp2_with fail
                  refine bodyPost_ret (v := .tuple #[.agg #[.slice none 0 0, .slice none 0 0], .int .i64 4]) ?_ rfl (givesS_of E.out (space_nil _) HE5.out)
                  simp [results, Try.results8, go_sem, y1, y2]
                · have nl : (((lm2 : Nat) : Int) == (M : Int)) = false := by simp; omega
                  have R : Hid (rowTo n M k s (t + 1) = some ⟨s'.marks ++ [z], s'.arcs ++ [⟨k, t, lm2⟩]⟩) := by
                    have := Hstep.out _ (tryT_new Hq.out hfn (by rw [Hlm2.out]; exact hl))
                    rw [Hlm2.out] at this; exact this
                  clear Hstep Hfail Hq Hd hfn HE5 y0 y1 y2 f0 f1
                  obtain ⟨ax, lx, cx, rfl, _, _, _, _⟩ := hO5.now
                  have hBw : W.heap.size ≤ wr.heap.size := Nat.le_trans hS.hx (Nat.le_of_lt hS.hlt)
                  have hf0 := hS.f0
                  have hbn := below_new wr (.cells #[.slice ax lx cx] 25)
                  have Hmk : Hid _ := fun wC mv' => @SpaceAt.mark _ _ _ _ _ wC _ _ _ mv' _ _ _ (hS.to hbn) rfl (hO5.below hbn)
                  have hxW : W.heap.size + 1 < wr.heap.size := hS.hlt
                  have hrm := hS.rowM
                  rw [Hlm2.out] at hrm
                  have hap := hS.apM
                  go_upto_region 23 with fail
                  go_cut [13] (fun o wc => o = .int .i64 (lm2 : Int) ∧ ∃ mv', SpaceAt (W.heap.size + 1) (w.heap.size + 1) W.heap.size W wc ⟨s'.marks ++ [z], s'.arcs⟩ mv' av (us ++ [.slice ax lx cx]))
                  case first =>
                    go_wp2_with (at_builtin; refine wp_append_mark rfl _ _ rfl W.heap.size wr _ us ax lx cx hrm rfl rfl (by have := hS.len; have := Hlm2.out; omega) hBw ?_; intro v' wC hC hgC hatC; obtain ⟨va, vl, vc, rfl⟩ := ownsRow_slice hC; obtain ⟨k1, k2⟩ := hS.afterM hbn hgC; have HR : Hid _ := Hmk.out wC _ hC hgC hatC)
                    go_meet
                    exact ⟨rfl, _, HR.out⟩
                  case rest =>
                    clear hS c0 hrm hap Hmk hO5 hbn hf0
                    obtain ⟨rfl, mv', hS⟩ := hcut
                    obtain ⟨w8, Hw8⟩ : ∃ w8, w8 = wc := ⟨_, rfl⟩
                    subst Hw8
                    obtain ⟨aa, ca, rfl⟩ := hS.sliceA
                    have hBw2 : W.heap.size ≤ w8.heap.size := Nat.le_trans hS.hx (Nat.le_of_lt hS.hlt)
                    have c1 := hS.c1
                    have hra := hS.rowA
                    have hbn := below_new w8 (.cells #[.int .i64 (k : Int), .int .i64 (t : Int), .int .i64 (lm2 : Int)] 44)
                    have Hmk : Hid _ := fun wC av' => @SpaceAt.arc _ _ _ _ _ wC _ _ _ av' _ ⟨k, t, lm2⟩ (hS.to hbn)
                    go_wp2_with (at_builtin; refine wp_append_arc rfl _ _ rfl W.heap.size w8 _ s'.arcs (k : Int) (t : Int) (lm2 : Int) hra rfl rfl Har.out hBw2 ?_; intro v' wC hC hgC hatC; obtain ⟨va, vl, vc, rfl⟩ := ownsRow_slice hC; obtain ⟨k1, k2⟩ := hS.afterA hbn hgC; have HR : Hid _ := Hmk.out wC _ hC hgC hatC)
                    go_roundg (G2 - 1)
                    case measure => omega
                    case rel => exact ⟨t + 1, _, _, _, _, by omega, by go_num, HR.out, R⟩
              · have R : Hid (rowTo n M k s (t + 1) = some ⟨s'.marks, s'.arcs ++ [⟨k, t, i⟩]⟩) := Hstep.out _ (tryT_old Hq.out hfs)
                clear Hstep Hfail Hq Hd hfs HE5 y0 y1 y2 f0 f1 hO5
                obtain ⟨aa, ca, rfl⟩ := hS.sliceA
                have hBw2 : W.heap.size ≤ wr.heap.size := Nat.le_trans hS.hx (Nat.le_of_lt hS.hlt)
                have c1 := hS.c1
                have hra := hS.rowA
                have hbn := below_new wr (.cells #[.int .i64 (k : Int), .int .i64 (t : Int), .int .i64 (i : Int)] 44)
                have Hmk : Hid _ := fun wC av' => @SpaceAt.arc _ _ _ _ _ wC _ _ _ av' _ ⟨k, t, i⟩ (hS.to hbn)
                have hi0 : ¬ ((i : Int) < 0) := by omega
                go_wp2_with (at_builtin; refine wp_append_arc rfl _ _ rfl W.heap.size wr _ s'.arcs (k : Int) (t : Int) (i : Int) hra rfl rfl Har.out hBw2 ?_; intro v' wC hC hgC hatC; obtain ⟨va, vl, vc, rfl⟩ := ownsRow_slice hC; obtain ⟨k1, k2⟩ := hS.afterA hbn hgC; have HR : Hid _ := Hmk.out wC _ hC hgC hatC)
                go_roundg (G2 - 1)
                case measure => omega
                case rel => exact ⟨t + 1, _, _, _, _, by omega, by go_num, HR.out, R⟩
        · obtain rfl : t = tl := by omega
          have R : Hid (graphTo n m M (k + 1) = some s') := by
            show _ = _
            rw [graphTo, Hgr.out]
            simp only [Option.bind_some]
            rw [if_pos (by have := Hlm.out; omega), HnT.out]
            exact Hrow.out
          clear Hrow
          go_wp2
          go_roundg (G - 1)
          case measure => omega
          case rel => exact ⟨k + 1, s', _, _, _, by omega, by go_num, hS, R⟩
    · have E : Hid (graphL n m M = (s, 0)) := by
        have := graph_stable Hgr.out (by have := Hlm.out; omega) (M - k)
        rw [show k + (M - k) = M by omega] at this
        exact HG.out _ this
      have hal : s.arcs.length ≤ 5864062014805 := by have := graphTo_arcs HT24.out _ Hgr.out; omega
      obtain ⟨aa, ca, rfl⟩ := hS.sliceA
      have Hout : Hid _ := hS.out (by rw [hS.len]; have := hF.most_le; omega) hal
      have c1 := hS.c1
      obtain ⟨y0, y1, y2⟩ := hres.below hS.below
      have f0 : WR.frozen? ⟨w.heap.size + 1, 0, none⟩ = false := by rw [hS.below.frozen (p := ⟨w.heap.size + 1, 0, none⟩) hys2]; exact hfr2.out 0
      have f1 : WR.frozen? ⟨w.heap.size + 1, 1, none⟩ = false := by rw [hS.below.frozen (p := ⟨w.heap.size + 1, 1, none⟩) hys2]; exact hfr2.out 1
      obtain ⟨la, Hla⟩ : ∃ la, Hid (s.arcs.length = la) := ⟨_, rfl⟩
      rw [Hla.out] at c1
      have hb5 : Below w.heap.size w ((WR.setCell ⟨w.heap.size + 1, 0, none⟩ (.slice am lm cm)).setCell ⟨w.heap.size + 1, 1, none⟩ (.slice aa la ca)) :=
        ((below_then b3 hS.below).setCell (p := ⟨w.heap.size + 1, 0, none⟩) (by simp) _).setCell (p := ⟨w.heap.size + 1, 1, none⟩) (by simp) _
      have Hb5 : Hid _ := hb5
      have Hsp : Hid (Space ((WR.setCell ⟨w.heap.size + 1, 0, none⟩ (.slice am lm cm)).setCell ⟨w.heap.size + 1, 1, none⟩ (.slice aa la ca)) (.agg #[.slice am lm cm, .slice aa la ca]) s) := by
        have := Hout.out
        rw [Hlm.out, Hla.out] at this
        exact ⟨_, _, rfl, this.1, this.2⟩
      clear hb5 Hout hF
      go_wp2_with fail
      refine bodyPost_ret (v := .tuple #[.agg #[.slice am lm cm, .slice aa la ca], .int .i64 0]) ?_ rfl (givesS_of E.out Hsp.out Hb5.out)
      simp [results, Try.results8, go_sem, y1, y2]

end Go.Proofs.Ytfcgapcdhhliiaa
