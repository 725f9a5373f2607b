/- SoundClosed: van der Aalst. -/
import Derived.Test.YtkdbkoogcndlgaaAlive9
import Derived.Test.YtkdbkoogcndlgaaGr05
import Derived.Test.YtkdbkoogcndlgaaShapeDev
import Derived.Test.YtkdbkoogcndlgaaReachDev
import Derived.Test.YtkdbkoogcndlgaaLiveDev4
import Derived.Test.YtkdbkoogcndlgaaGr03
import Derived.Test.YtkdbkoogcndlgaaGr04
import Derived.Deep.RegionHeld3
namespace Go.Proofs.Ytkdbkoogcndlgaa
open Go.RowKit
set_option linter.unusedVariables false
set_option maxRecDepth 4000

set_option maxHeartbeats 4000000 in
theorem soundClosed_walk (v : Value) (n : NetL) (i o most : Int) (w : World) (hv : Net w v n) :
    Calls Try.prog 6 #[v, .int .i64 i, .int .i64 o, .int .i64 most] w fun e w' => e = .returned (.bool true) ∧ Below w.heap.size w w' := by
  obtain ⟨tv, rfl, hT⟩ := hv
  have c := below_new w (.cells #[.int .i64 n.places, tv] 24)
  have hbx := box2_new w (.int .i64 n.places) tv 24
  have hv : Net (w.alloc (.cells #[.int .i64 n.places, tv] 24)) (.agg #[.int .i64 n.places, tv]) n := ⟨_, rfl, hT.below c⟩
  obtain ⟨w0, Hw0⟩ : ∃ w0, Hid (w.alloc (.cells #[.int .i64 n.places, tv] 24) = w0) := ⟨_, rfl⟩
  rw [Hw0.out] at c hbx hv
  go_enter Try.func6, Try.ntmps6
  go_upto_region 1 with fail
  rw [Hw0.out]
  clear Hw0
  go_wp2_with fail
  refine (alive9_any _).mono ?_
  rintro e wa ⟨rfl, ba⟩
  replace hbx := hbx.below ba
  replace hv := hv.below ba
  replace c := below_then c ba
  clear ba
  obtain ⟨x0, x1, x2⟩ := id hbx
  go_wp2_with fail
  clear x0 x1 x2
  refine (sound_judge _ n i o most _ (by exact hv)).mono ?_
  rintro e w1 ⟨r, x, d, rfl, ⟨hr, hV⟩, b1⟩
  have HV : Hid _ := hV
  obtain ⟨ra, rfl, hra⟩ := hr
  obtain ⟨aa, la, ca, rfl, _⟩ := id hra
  replace hbx := hbx.below b1
  replace hv := hv.below b1
  replace c := below_then c b1
  have bn := below_new w1 (.cells #[.int .i64 x.kind, .slice aa la ca, .int .i64 x.tran] 27)
  have hx1 := box3_new w1 (.int .i64 x.kind) (.slice aa la ca) (.int .i64 x.tran) 27
  obtain ⟨w2, Hw2⟩ : ∃ w2, Hid (w1.alloc (.cells #[.int .i64 x.kind, .slice aa la ca, .int .i64 x.tran] 27) = w2) := ⟨_, rfl⟩
  rw [Hw2.out] at bn hx1
  replace hbx := hbx.below bn
  replace hv := hv.below bn
  replace c := below_then c bn
  replace hra := hra.below bn
  clear b1 bn hV
  go_upto_region 4 with fail
  rw [Hw2.out]
  clear Hw2
  obtain ⟨x0, x1, x2⟩ := id hbx
  go_wp2_with fail
  clear x0 x1 x2
  refine (shape_close _ n i o _ (by exact hv)).mono ?_
  rintro e w3 ⟨r, cn, f, rfl, ⟨hr, hC⟩, b3⟩
  have HC : Hid _ := hC
  obtain ⟨ct, rfl, hCt⟩ := hr
  obtain ⟨ta, tl, tc, rfl, htl, _⟩ := id hCt
  have Htl : Hid _ := htl
  replace c := below_then c b3
  replace hx1 := hx1.below b3
  have bn := below_new w3 (.cells #[.int .i64 cn.places, .slice ta tl tc] 24)
  have hbc := box2_new w3 (.int .i64 cn.places) (.slice ta tl tc) 24
  have hvc : Net (w3.alloc (.cells #[.int .i64 cn.places, .slice ta tl tc] 24)) (.agg #[.int .i64 cn.places, .slice ta tl tc]) cn := ⟨_, rfl, hCt.below bn⟩
  obtain ⟨w4, Hw4⟩ : ∃ w4, Hid (w3.alloc (.cells #[.int .i64 cn.places, .slice ta tl tc] 24) = w4) := ⟨_, rfl⟩
  rw [Hw4.out] at bn hbc hvc
  replace c := below_then c bn
  replace hx1 := hx1.below bn
  clear b3 bn hC hCt htl hv hbx hra
  go_upto_region 5 with fail
  rw [Hw4.out]
  clear Hw4
  by_cases hd : d = 0
  · subst hd
    by_cases hf : f = 0
    · subst hf
      obtain ⟨hS, s, hg, hs⟩ := HV.out.zero
      obtain ⟨_, hlen, hcn⟩ := HC.out.zero
      have Hcn : Hid (closeL n i o = cn) := hcn.symm
      clear hcn
      have HS : Hid _ := hS
      have Hg : Hid _ := hg
      have Hs : Hid _ := hs
      have Hlen : Hid _ := hlen
      have hdr : Below w4.heap.size w4 w4.drew := (Below.refl _ _).drew
      have hvd := hvc.below hdr
      have hvn := hvd.below (below_new w4.drew (.cells #[.slice none 0 0, .slice none 0 0] 46))
      have Hne : Hid (startL cn.places i ≠ []) := by rw [← Hcn.out]; intro e; have h1 := start_len hS.ok i; have h2 := shape_two hS; rw [show startL n.places i = [] from e] at h1; simp at h1; omega
      clear hS hg hs hlen HV HC
      obtain ⟨x0, x1, x2⟩ := id hbc
      obtain ⟨y0, y1, y2, y3⟩ := id hx1
      obtain ⟨G, HG⟩ : ∃ G, Hid (graphL cn (startL cn.places i) 300 = G) := ⟨_, rfl⟩
      have Hfl : Hid (∀ j, j < G.1.marks.length → markAt G.1.marks j ≠ []) := by have := graph_full (n := cn) (most := 300) Hne.out; rw [HG.out] at this; exact this
      go_upto_region 7 with fail
      go_cut [13, 14] (fun p q wc => ∃ bx mv av, p = .pointer (some ⟨bx, 0, none⟩) ∧ q = .int .i64 G.2 ∧ Box2 wc bx mv av ∧ Space wc (.agg #[mv, av]) G.1 ∧ Below w4.heap.size w4 wc)
      case first =>
        go_region_held3 (fun w' => w'.cell? ⟨w3.heap.size, 0, none⟩ = some (.int .i64 cn.places) ∧ w'.cell? ⟨w3.heap.size, 1, none⟩ = some (.slice ta tl tc))
          (first | exact ⟨f1, f2⟩ | go_keep)
          (first
            | (go_at_call 13; refine (shape_start _ cn i _ ?_).mono ?_; (first | exact hvd | exact hvn); rintro e w5 ⟨r1, rfl, hI, b5⟩; (first | (have hnb : NilBox w5 w4.heap.size := (nilBox_new w4.drew).below b5; have q2 := below_then (below_then hdr (below_new w4.drew (.cells #[.slice none 0 0, .slice none 0 0] 46))) b5) | (have q2 := below_then hdr b5)); have hv2 := hvc.below q2; obtain ⟨t0, t1, t2⟩ := hbc.below q2)
            | (go_at_call 19; refine (reach_graph _ _ cn (startL cn.places i) 300 _ ?_ ?_).mono ?_; (first | exact hv2 | exact hv2.below (below_new w5 (.cells #[.slice none 0 0, .slice none 0 0] 46))); (first | exact hI | exact hI.below (below_new w5 (.cells #[.slice none 0 0, .slice none 0 0] 46))); rw [HG.out]; rintro e w6 ⟨r2, rfl, hSp, b6⟩; (first | (have hnb3 := (nilBox_new w5).below b6; have q3 := below_then q2 (below_then (below_new w5 (.cells #[.slice none 0 0, .slice none 0 0] 46)) b6); have hlt3 : w3.heap.size < w5.heap.size := t0) | (have hnb3 := hnb.below b6; have q3 := below_then q2 b6; have hlt3 : w3.heap.size < w4.heap.size := x0) | (have q3 := below_then q2 b6)); obtain ⟨mv, av, rfl, hMv, hAv⟩ := id hSp; obtain ⟨am, cm, rfl, _, _⟩ := hMv.slice; obtain ⟨ad, ca', hav, _⟩ := hAv.slice; rw [List.length_map] at hav; subst hav; obtain ⟨z0, z1, z2⟩ := hbc.below q3; (first | (obtain ⟨n0, n1, n2, n3, n4⟩ := hnb3.at; have hf := hnb3.fill hSp Hfl.out; have f1 := (hf.2.2.cell (p := ⟨w3.heap.size, 0, none⟩) hlt3).trans z1; have f2 := (hf.2.2.cell (p := ⟨w3.heap.size, 1, none⟩) hlt3).trans z2) | skip)))
        all_goals
          go_wp2_with fail
          go_meet
          first
            | exact ⟨_, _, _, rfl, rfl, hf.2.1, hf.1, q3.trans (hf.2.2.mono (Nat.le_refl _))⟩
            | exact ⟨_, _, _, rfl, rfl, hf.2.1, hf.1, q3.trans (hf.2.2.mono q2.size)⟩
            | exact ⟨_, _, _, rfl, rfl, box2_new w6 _ _ _, hSp.below (below_new w6 _), below_then q3 (below_new w6 _)⟩
      obtain ⟨bx, mv, av, rfl, rfl, hbs, hSp, b4⟩ := hcut
      obtain ⟨w7, rfl⟩ : ∃ w0, w0 = wc := ⟨_, rfl⟩
      replace hbc := hbc.below b4
      replace hx1 := hx1.below b4
      replace c := below_then c b4
      clear hvd hvn hdr b4 x0 x1 x2 y0 y1 y2 y3 Hne hvc Hfl
      obtain ⟨u, dg⟩ := G
      simp only at hSp ⊢
      obtain ⟨y0, y1, y2, y3⟩ := id hx1
      by_cases hg0 : dg = 0
      · subst hg0
        have HU : Hid (graphL (closeL n i o) (startL n.places i) 300 = (u, 0)) := by have h2 := HG.out; rw [← Hcn.out] at h2; exact h2
        have Htl2 : Hid (tl = n.trans.length + 1) := by have := Htl.out; rw [← Hcn.out] at this; simp [closeL] at this; show _ = _; omega
        have hsv : SpaceV w7 (.agg #[mv, av]) (toZ u) := hSp.toV (by have := graphL_small (closeL n i o) (startL n.places i) 300; rw [HU.out] at this; exact this)
        obtain ⟨hMk, hAk⟩ : Lists w7 mv u.marks ∧ Arcs w7 av (u.arcs.map arcZ) := by obtain ⟨mv', av', e, h1, h2⟩ := hSp; injection e with e; injection e with e; simp at e; obtain ⟨rfl, rfl⟩ := e; exact ⟨h1, h2⟩
        obtain ⟨am, cm, rfl, _, _⟩ := hMk.slice
        obtain ⟨ad, cd, rfl, _⟩ := hAk.slice
        obtain ⟨lm, Hlm⟩ : ∃ lm, Hid (u.marks.length = lm) := ⟨_, rfl⟩
        obtain ⟨ll, Hll⟩ : ∃ ll, Hid ((u.arcs.map arcZ).length = ll) := ⟨_, rfl⟩
        rw [Hlm.out, Hll.out] at hbs hsv
        clear hSp hMk hAk
        obtain ⟨x0, x1, x2⟩ := id hbc
        obtain ⟨z0, z1, z2⟩ := id hbs
        have HL : Hid (∀ xs, IsLive (toZ u) (tl : Int) xs → ((x.kind == 1) == ((xs.length : Int) == (tl : Int))) = true) := fun xs hxs => by
          rw [Htl2.out] at hxs ⊢
          have := close_live HS.out Hlen.out Hg.out Hs.out HU.out hxs
          rw [beq_iff_eq, Bool.eq_iff_iff, beq_iff_eq, beq_iff_eq, this]
          omega
        go_upto_region 10 with fail
        have hdr : Below w7.heap.size w7 w7.drew := (Below.refl _ _).drew
        go_region_held3 (fun w' => w'.cell? ⟨w3.heap.size, 1, none⟩ = some (.slice ta tl tc) ∧ w'.cell? ⟨w1.heap.size, 0, none⟩ = some (.int .i64 x.kind) ∧ w'.cell? ⟨bx, 0, none⟩ = some (.slice am lm cm) ∧ w'.cell? ⟨bx, 1, none⟩ = some (.slice ad ll cd))
          (go_keep)
          (first
            | (go_at_call 20; refine (live_live _ (toZ u) tl _ (hsv.below hdr)).mono ?_; rintro e w8 ⟨r8, xs, rfl, hr8, hxs, b8⟩; have q8 := below_then hdr b8; obtain ⟨t0, t1, t2⟩ := hbc.below q8; obtain ⟨t3, t4, t5⟩ := hbs.below q8; obtain ⟨t6, t7, t8, t9⟩ := hx1.below q8; obtain ⟨al, l8, c8, rfl, hl8, _⟩ := hr8))
        all_goals
          have Hf : Hid _ := HL.out xs hxs
          rw [hl8] at Hf
          have R := below_then c q8
          clear b8 q8 HL hxs hl8
          go_wp2
          go_ret
          exact ⟨ret_bool Hf.out, R⟩
      · have hdd : (dg != 0) = true := by simpa using hg0
        have hk : (x.kind != 1) = true := by
          rw [bne_iff_ne]
          intro hk
          obtain ⟨u', hu'⟩ := close_graph HS.out Hlen.out Hg.out Hs.out hk
          have h2 := HG.out
          rw [← Hcn.out] at h2
          rw [show startL (closeL n i o).places i = startL n.places i from rfl, hu'] at h2
          injection h2 with _ h2
          exact hg0 h2.symm
        clear hg0 hSp
        go_wp2
        go_ret
        exact ⟨rfl, c⟩
    · have hf' : (f != 0) = true := by simpa using hf
      clear HV HC hf hvc hbc hx1
      go_wp2
      go_ret
      exact ⟨rfl, c⟩
  · have hd' : (d != 0) = true := by simpa using hd
    clear HV HC hd hvc hbc hx1
    go_wp2
    go_ret
    exact ⟨rfl, c⟩

end Go.Proofs.Ytkdbkoogcndlgaa
